/- Proves plain facts on numbers in groups of seven bits: the encoding, its length, what a list of bytes begins with, and bytes with their length. No program. -/
import Derived.WalkKit
import Derived.Laws.BitsAllLaws
import Derived.Lib.ItoaNum
namespace Go.Proofs.YthlfahblnpijaaaDoor.Vm
open Go.RowKit

abbrev Bs := List UInt8
def big : Nat := 18446744073709551616
def encN (n : Nat) : Bs := if n < 128 then [UInt8.ofNat n] else UInt8.ofNat (128 + n % 128) :: encN (n / 128)
termination_by n
decreasing_by omega
theorem enc_small {n : Nat} (h : n < 128) : encN n = [UInt8.ofNat n] := by rw [encN, if_pos h]
theorem enc_more {n : Nat} (h : 128 ≤ n) : encN n = UInt8.ofNat (128 + n % 128) :: encN (n / 128) := by rw [encN, if_neg (by omega)]
theorem enc_pos (n : Nat) : 1 ≤ (encN n).length := by rw [encN]; split <;> simp
theorem of_nat {n : Nat} (h : n < 256) : (UInt8.ofNat n).toNat = n := by simp; omega

/-- The encoding's length, by powers. -/
theorem enc_len (n : Nat) : n < 128 ^ (encN n).length ∧ ((encN n).length = 1 ∨ 128 ^ ((encN n).length - 1) ≤ n) := by
  induction n using Nat.strongRecOn with
  | _ n ih =>
    by_cases h : n < 128
    · rw [enc_small h]; simp [h]
    · obtain ⟨h1, h2⟩ := ih (n / 128) (by omega)
      have hp := enc_pos (n / 128)
      rw [enc_more (by omega)]
      generalize encN (n / 128) = r at *
      refine ⟨?_, Or.inr ?_⟩
      · rw [List.length_cons, Nat.pow_succ]; omega
      · rw [List.length_cons, Nat.add_sub_cancel]
        rcases h2 with h2 | h2
        · rw [h2]; omega
        · rw [show r.length = r.length - 1 + 1 from by omega, Nat.pow_succ]; omega
theorem pow128 (k : Nat) : 128 ^ k = 2 ^ (7 * k) := by rw [Nat.pow_mul]
theorem bitLen_bounds (x : Nat) (h : x < big) (h0 : x ≠ 0) : 1 ≤ Lib.bitLen x ∧ 2 ^ (Lib.bitLen x - 1) ≤ x ∧ x < 2 ^ Lib.bitLen x :=
  Lib.bitLenAux_bounds 64 x h h0
theorem or_one (n : Nat) : n ≤ n ||| 1 ∧ n ||| 1 ≠ 0 ∧ ∀ k, 0 < k → n < 2 ^ k → n ||| 1 < 2 ^ k := by
  refine ⟨Nat.left_le_or, ?_, fun k hk h => Nat.or_lt_two_pow h (Nat.one_lt_two_pow (by omega))⟩
  have : 1 ≤ n ||| 1 := Nat.right_le_or
  omega
theorem pow_lt_of {a b : Nat} (h : 2 ^ a < 2 ^ b) : a < b := (Nat.pow_lt_pow_iff_right (by omega)).1 h
theorem size_eq (n : Nat) (h : n < big) : (Lib.bitLen (n ||| 1) + 6) / 7 = (encN n).length := by
  obtain ⟨o1, o2, o3⟩ := or_one n
  have ho : n ||| 1 < big := o3 64 (by omega) h
  obtain ⟨b1, b2, b3⟩ := bitLen_bounds _ ho o2
  obtain ⟨e1, e2⟩ := enc_len n
  have hp := enc_pos n
  generalize (encN n).length = L at *
  rw [pow128] at e1
  have u := pow_lt_of (Nat.lt_of_le_of_lt b2 (o3 _ (by omega) e1))
  rcases e2 with e2 | e2
  · omega
  · rw [pow128] at e2
    have v := pow_lt_of (Nat.lt_of_le_of_lt e2 (Nat.lt_of_le_of_lt o1 b3))
    omega
theorem enc_le (n : Nat) (h : n < big) : (encN n).length ≤ 10 := by
  obtain ⟨_, e2⟩ := enc_len n
  rcases e2 with e2 | e2
  · omega
  · rcases Nat.lt_or_ge 10 (encN n).length with h1 | h1
    · have : 128 ^ 10 ≤ 128 ^ ((encN n).length - 1) := Nat.pow_le_pow_right (by omega) (by omega)
      unfold big at h
      have e : (128 : Nat) ^ 10 = 1180591620717411303424 := by decide
      omega
    · exact h1

/-- What a list of bytes begins with, from the i-th group on: the number, how many bytes, an error. -/
def getAt (i acc : Nat) : Bs → Nat × Nat × Nat
  | [] => (0, 0, 4)
  | c :: r => if (0 < i ∧ c.toNat = 0) ∨ (i = 9 ∧ 1 < c.toNat) then (0, 0, 6)
    else if c.toNat < 128 then (acc + c.toNat * 128 ^ i, i + 1, 0)
    else getAt (i + 1) (acc + (c.toNat % 128) * 128 ^ i) r
def getN (l : Bs) : Nat := (getAt 0 0 l).1
def getS (l : Bs) : Nat := (getAt 0 0 l).2.1
def getE (l : Bs) : Nat := (getAt 0 0 l).2.2
theorem getAt_nil (i acc : Nat) : getAt i acc [] = (0, 0, 4) := rfl
theorem getAt_bad {i acc : Nat} {c : UInt8} {r : Bs} (h : (0 < i ∧ c.toNat = 0) ∨ (i = 9 ∧ 1 < c.toNat)) : getAt i acc (c :: r) = (0, 0, 6) := by rw [getAt, if_pos h]
theorem getAt_end {i acc : Nat} {c : UInt8} {r : Bs} (h : ¬ ((0 < i ∧ c.toNat = 0) ∨ (i = 9 ∧ 1 < c.toNat))) (h' : c.toNat < 128) : getAt i acc (c :: r) = (acc + c.toNat * 128 ^ i, i + 1, 0) := by rw [getAt, if_neg h, if_pos h']
theorem getAt_more {i acc : Nat} {c : UInt8} {r : Bs} (h : ¬ ((0 < i ∧ c.toNat = 0) ∨ (i = 9 ∧ 1 < c.toNat))) (h' : ¬ c.toNat < 128) : getAt i acc (c :: r) = getAt (i + 1) (acc + (c.toNat % 128) * 128 ^ i) r := by rw [getAt, if_neg h, if_neg h']

theorem p9 : (128 : Nat) ^ 9 = 9223372036854775808 := by decide
theorem p10 : (128 : Nat) ^ 10 = 1180591620717411303424 := by decide
theorem get_enc : ∀ (n i acc : Nat) (r : Bs), i ≤ 9 → n * 128 ^ i + acc < big → (0 < i → 0 < n) → getAt i acc (encN n ++ r) = (acc + n * 128 ^ i, i + (encN n).length, 0) := by
  intro n
  induction n using Nat.strongRecOn with
  | _ n ih =>
    intro i acc r hi hb hpos
    have h9 : i = 9 → n ≤ 1 := by
      intro e; subst e; rw [p9] at hb; unfold big at hb; omega
    by_cases h : n < 128
    · rw [enc_small h, List.singleton_append, getAt_end (by rw [of_nat (by omega)]; omega) (by rw [of_nat (by omega)]; exact h), of_nat (by omega)]; rfl
    · rw [enc_more (by omega), List.cons_append, getAt_more (by rw [of_nat (by omega)]; omega) (by rw [of_nat (by omega)]; omega), of_nat (by omega)]
      have e : (128 + n % 128) % 128 = n % 128 := by omega
      have hsp : n * 128 ^ i = (n % 128) * 128 ^ i + (n / 128) * 128 ^ (i + 1) := by
        rw [Nat.pow_succ, Nat.mul_comm (128 ^ i) 128, ← Nat.mul_assoc, ← Nat.add_mul]
        congr 1; omega
      rw [e, ih (n / 128) (by omega) (i + 1) _ r (by omega) (by omega) (by omega), List.length_cons]
      simp only [Prod.mk.injEq]
      exact ⟨by rw [hsp]; omega, by omega, trivial⟩
theorem get_put (n : Nat) (r : Bs) (h : n < big) : getN (encN n ++ r) = n ∧ getS (encN n ++ r) = (encN n).length ∧ getE (encN n ++ r) = 0 := by
  have := get_enc n 0 0 r (by omega) (by omega) (by omega)
  unfold getN getS getE
  rw [this]; simp
theorem get_back : ∀ (l : Bs) (i acc n s : Nat), i ≤ 9 → acc < 128 ^ i → getAt i acc l = (n, s, 0) → ∃ m, s = i + (encN m).length ∧ l.take (s - i) = encN m ∧ s - i ≤ l.length ∧ n = acc + m * 128 ^ i ∧ (0 < i → 0 < m) ∧ n < big := by
  intro l
  induction l with
  | nil => intro i acc n s _ _ h; simp [getAt] at h
  | cons c r ih =>
    intro i acc n s hi hacc h
    by_cases hbad : (0 < i ∧ c.toNat = 0) ∨ (i = 9 ∧ 1 < c.toNat)
    · rw [getAt_bad hbad] at h; simp at h
    · have hc := c.toNat_lt
      have hm : (128 : Nat) ^ i ≤ 128 ^ 9 := Nat.pow_le_pow_right (by omega) hi
      by_cases hlt : c.toNat < 128
      · rw [getAt_end hbad hlt] at h
        simp only [Prod.mk.injEq] at h
        obtain ⟨rfl, rfl, _⟩ := h
        refine ⟨c.toNat, by rw [enc_small hlt]; simp, by rw [enc_small hlt, Nat.add_sub_cancel_left]; simp, by simp, rfl, by omega, ?_⟩
        rw [p9] at hm
        unfold big
        by_cases h9 : i = 9
        · subst h9
          rw [p9] at *
          have : c.toNat ≤ 1 := by omega
          omega
        · have h8 : (128 : Nat) ^ i ≤ 128 ^ 8 := Nat.pow_le_pow_right (by omega) (by omega)
          have e8 : (128 : Nat) ^ 8 = 72057594037927936 := by decide
          have : c.toNat * 128 ^ i ≤ 127 * 72057594037927936 := Nat.mul_le_mul (by omega) (by omega)
          omega
      · rw [getAt_more hbad hlt] at h
        have h9 : i ≠ 9 := by omega
        have hpow : (128 : Nat) ^ (i + 1) = 128 ^ i * 128 := Nat.pow_succ ..
        have hmul : (c.toNat % 128) * 128 ^ i ≤ 127 * 128 ^ i := Nat.mul_le_mul_right _ (by omega)
        obtain ⟨m, h1, h2, h3, h4, h5, h6⟩ := ih (i + 1) _ n s (by omega) (by rw [hpow]; omega) h
        have hm0 := h5 (by omega)
        have e : 128 ≤ m * 128 + c.toNat % 128 := by omega
        refine ⟨m * 128 + c.toNat % 128, ?_, ?_, by rw [List.length_cons]; omega, ?_, by omega, h6⟩
        · rw [enc_more e, List.length_cons, show (m * 128 + c.toNat % 128) / 128 = m from by omega]; omega
        · have hp := enc_pos m
          rw [enc_more e, show (m * 128 + c.toNat % 128) / 128 = m from by omega, show (m * 128 + c.toNat % 128) % 128 = c.toNat % 128 from by omega,
            show s - i = (s - (i + 1)) + 1 from by omega, List.take_succ_cons, h2]
          congr 1
          rw [show 128 + c.toNat % 128 = c.toNat from by omega]; simp
        · rw [h4, hpow, Nat.add_mul, Nat.add_comm (m * 128 * 128 ^ i), ← Nat.add_assoc, Nat.mul_comm (128 ^ i) 128, ← Nat.mul_assoc]
theorem get_has (l : Bs) (h : getE l = 0) : getS l = (encN (getN l)).length ∧ l.take (getS l) = encN (getN l) ∧ getS l ≤ l.length ∧ getN l < big := by
  obtain ⟨m, h1, h2, h3, h4, _, h6⟩ := get_back l 0 0 (getN l) (getS l) (by omega) (by simp) (by
    unfold getN getS
    unfold getE at h
    generalize getAt 0 0 l = x at *
    obtain ⟨a, b, c⟩ := x
    simp only at h
    rw [h])
  simp only [Nat.pow_zero, Nat.mul_one, Nat.zero_add] at h1 h4
  subst h4
  exact ⟨h1, by simpa using h2, by simpa using h3, h6⟩
theorem get_err : ∀ (l : Bs) (i acc : Nat), (getAt i acc l).2.2 = 0 ∨ (((getAt i acc l).2.2 = 4 ∨ (getAt i acc l).2.2 = 6) ∧ (getAt i acc l).1 = 0 ∧ (getAt i acc l).2.1 = 0)
  | [], i, acc => by simp [getAt]
  | c :: r, i, acc => by
    by_cases hbad : (0 < i ∧ c.toNat = 0) ∨ (i = 9 ∧ 1 < c.toNat)
    · rw [getAt_bad hbad]; simp
    · by_cases hlt : c.toNat < 128
      · rw [getAt_end hbad hlt]; simp
      · rw [getAt_more hbad hlt]; exact get_err r _ _
theorem get_no (l : Bs) (h : getE l ≠ 0) : (getE l = 4 ∨ getE l = 6) ∧ getN l = 0 ∧ getS l = 0 := by
  rcases get_err l 0 0 with h' | h'
  · exact absurd h' h
  · exact h'
theorem get_lt (l : Bs) : getN l < big ∧ getS l ≤ l.length ∧ getS l ≤ 10 := by
  by_cases h : getE l = 0
  · obtain ⟨h1, h2, h3, h4⟩ := get_has l h
    exact ⟨h4, h3, by rw [h1]; exact enc_le _ h4⟩
  · obtain ⟨_, h2, h3⟩ := get_no l h
    rw [h2, h3]; unfold big; omega

/-- Bytes with their length at the front of a list: the bytes, how many bytes, an error. -/
def partV (l : Bs) (most : Int) : Bs × Nat × Nat :=
  if most < 0 then ([], 0, 2) else if getE l ≠ 0 then ([], 0, getE l) else if most < (getN l : Int) then ([], 0, 5) else if l.length - getS l < getN l then ([], 0, 4)
  else ((l.drop (getS l)).take (getN l), getS l + getN l, 0)
theorem part_arg {l : Bs} {m : Int} (h : m < 0) : partV l m = ([], 0, 2) := by rw [partV, if_pos h]
theorem part_err {l : Bs} {m : Int} (h : ¬ m < 0) (h1 : getE l ≠ 0) : partV l m = ([], 0, getE l) := by rw [partV, if_neg h, if_pos h1]
theorem part_long {l : Bs} {m : Int} (h : ¬ m < 0) (h1 : getE l = 0) (h2 : m < (getN l : Int)) : partV l m = ([], 0, 5) := by rw [partV, if_neg h, if_neg (by omega), if_pos h2]
theorem part_short {l : Bs} {m : Int} (h : ¬ m < 0) (h1 : getE l = 0) (h2 : ¬ m < (getN l : Int)) (h3 : l.length - getS l < getN l) : partV l m = ([], 0, 4) := by rw [partV, if_neg h, if_neg (by omega), if_neg h2, if_pos h3]
theorem part_ok {l : Bs} {m : Int} (h : ¬ m < 0) (h1 : getE l = 0) (h2 : ¬ m < (getN l : Int)) (h3 : ¬ l.length - getS l < getN l) : partV l m = ((l.drop (getS l)).take (getN l), getS l + getN l, 0) := by rw [partV, if_neg h, if_neg (by omega), if_neg h2, if_neg h3]
theorem part_put (p r : Bs) (m : Int) (h : (p.length : Int) ≤ m) (hb : p.length < big) : partV (encN p.length ++ p ++ r) m = (p, (encN p.length).length + p.length, 0) := by
  obtain ⟨h1, h2, h3⟩ := get_put p.length (p ++ r) hb
  rw [List.append_assoc, part_ok (by omega) h3 (by rw [h1]; omega) (by rw [h1, h2]; simp), h1, h2]
  simp
theorem part_size (l : Bs) (m : Int) : (partV l m).2.1 ≤ l.length ∧ (partV l m).1.length ≤ l.length := by
  unfold partV
  split
  · simp
  · split
    · simp
    · split
      · simp
      · split
        · simp
        · have := (get_lt l).2.1
          simp; omega
/-- A byte at the front. -/
def oneV : Bs → Nat × Nat × Nat
  | [] => (0, 0, 4)
  | c :: _ => (c.toNat, 1, 0)
end Go.Proofs.YthlfahblnpijaaaDoor.Vm
