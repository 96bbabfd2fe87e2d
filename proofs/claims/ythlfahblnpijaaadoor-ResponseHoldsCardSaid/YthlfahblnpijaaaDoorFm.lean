/- Proves plain facts on frames: their bytes, and what a list of bytes begins with. No program. -/
import Derived.Test.YthlfahblnpijaaaDoorVm
namespace Go.Proofs.YthlfahblnpijaaaDoor.Fm
open Go.RowKit Vm

/-- The bytes of a frame. -/
def wire (c : UInt8) (p : Bs) : Bs := encN (p.length + 1) ++ (c :: p)
theorem wire_len (c : UInt8) (p : Bs) : (wire c p).length = (encN (p.length + 1)).length + p.length + 1 := by
  unfold wire; rw [List.length_append, List.length_cons]; omega
theorem wire_pos (c : UInt8) (p : Bs) : 2 + p.length ≤ (wire c p).length := by
  rw [wire_len]; have := enc_pos (p.length + 1); omega
theorem wire_le (c : UInt8) (p : Bs) (h : p.length ≤ 100000000) : (wire c p).length ≤ p.length + 11 := by
  rw [wire_len]; have := enc_le (p.length + 1) (by unfold big; omega); omega
/-- What a list of bytes begins with: the code, the payload, how many bytes, an error. -/
def readV (l : Bs) (most : Int) : UInt8 × Bs × Nat × Nat :=
  if most < 0 ∨ 2097152 < most then (0, [], 0, 2) else if getE l = 4 then (0, [], 0, 4) else if getE l ≠ 0 then (0, [], 0, 5) else if getN l = 0 then (0, [], 0, 6)
  else if most + 1 < (getN l : Int) then (0, [], 0, 5) else if l.length - getS l < getN l then (0, [], 0, 4)
  else (l.getD (getS l) 0, (l.drop (getS l + 1)).take (getN l - 1), getS l + getN l, 0)
theorem read_arg {l : Bs} {m : Int} (h : m < 0 ∨ 2097152 < m) : readV l m = (0, [], 0, 2) := by rw [readV, if_pos h]
theorem read_in {l : Bs} {m : Int} (h : ¬ (m < 0 ∨ 2097152 < m)) (h1 : getE l = 4) : readV l m = (0, [], 0, 4) := by rw [readV, if_neg h, if_pos h1]
theorem read_no {l : Bs} {m : Int} (h : ¬ (m < 0 ∨ 2097152 < m)) (h1 : getE l ≠ 4) (h2 : getE l ≠ 0) : readV l m = (0, [], 0, 5) := by rw [readV, if_neg h, if_neg h1, if_pos h2]
theorem read_zero {l : Bs} {m : Int} (h : ¬ (m < 0 ∨ 2097152 < m)) (h2 : getE l = 0) (h3 : getN l = 0) : readV l m = (0, [], 0, 6) := by rw [readV, if_neg h, if_neg (by omega), if_neg (by omega), if_pos h3]
theorem read_long {l : Bs} {m : Int} (h : ¬ (m < 0 ∨ 2097152 < m)) (h2 : getE l = 0) (h3 : getN l ≠ 0) (h4 : m + 1 < (getN l : Int)) : readV l m = (0, [], 0, 5) := by rw [readV, if_neg h, if_neg (by omega), if_neg (by omega), if_neg h3, if_pos h4]
theorem read_short {l : Bs} {m : Int} (h : ¬ (m < 0 ∨ 2097152 < m)) (h2 : getE l = 0) (h3 : getN l ≠ 0) (h4 : ¬ m + 1 < (getN l : Int)) (h5 : l.length - getS l < getN l) : readV l m = (0, [], 0, 4) := by
  rw [readV, if_neg h, if_neg (by omega), if_neg (by omega), if_neg h3, if_neg h4, if_pos h5]
theorem read_ok {l : Bs} {m : Int} (h : ¬ (m < 0 ∨ 2097152 < m)) (h2 : getE l = 0) (h3 : getN l ≠ 0) (h4 : ¬ m + 1 < (getN l : Int)) (h5 : ¬ l.length - getS l < getN l) :
    readV l m = (l.getD (getS l) 0, (l.drop (getS l + 1)).take (getN l - 1), getS l + getN l, 0) := by
  rw [readV, if_neg h, if_neg (by omega), if_neg (by omega), if_neg h3, if_neg h4, if_neg h5]
/-- The same by way of bytes with their length. -/
theorem read_part {l : Bs} {m : Int} (h : ¬ (m < 0 ∨ 2097152 < m)) : readV l m =
    if (partV l (m + 1)).2.2 = 6 then (0, [], 0, 5) else if (partV l (m + 1)).2.2 ≠ 0 then (0, [], 0, (partV l (m + 1)).2.2)
    else if (partV l (m + 1)).1.length < 1 then (0, [], 0, 6) else ((partV l (m + 1)).1.getD 0 0, (partV l (m + 1)).1.drop 1, (partV l (m + 1)).2.1, 0) := by
  by_cases h1 : getE l = 0
  · have hs := (get_lt l).2.1
    by_cases h2 : m + 1 < (getN l : Int)
    · rw [part_long (by omega) h1 h2, read_long h h1 (by omega) h2]; rfl
    · by_cases h3 : l.length - getS l < getN l
      · rw [part_short (by omega) h1 h2 h3, read_short h h1 (by omega) h2 h3]; rfl
      · rw [part_ok (by omega) h1 h2 h3]
        by_cases h4 : getN l = 0
        · rw [read_zero h h1 h4]; simp [h4]
        · rw [read_ok h h1 h4 h2 h3, if_neg (by simp), if_neg (by simp), if_neg (by simp; omega)]
          simp only [Prod.mk.injEq, and_true]
          refine ⟨?_, ?_⟩
          · simp only [List.getD_eq_getElem?_getD, List.getElem?_take, List.getElem?_drop]
            rw [if_pos (by omega), Nat.add_zero]
          · rw [List.drop_take, List.drop_drop]
  · obtain ⟨h2, _⟩ := get_no l h1
    rw [part_err (by omega) h1]
    rcases h2 with h2 | h2
    · rw [read_in h h2, h2]; rfl
    · rw [read_no h (by omega) (by omega), h2]; rfl
theorem read_put (c : UInt8) (p r : Bs) (m : Int) (h : ¬ (m < 0 ∨ 2097152 < m)) (hp : (p.length : Int) ≤ m) : readV (wire c p ++ r) m = (c, p, (wire c p).length, 0) := by
  have hb : p.length + 1 < big := by unfold big; omega
  obtain ⟨h1, h2, h3⟩ := get_put (p.length + 1) ((c :: p) ++ r) hb
  have e : wire c p ++ r = encN (p.length + 1) ++ ((c :: p) ++ r) := by unfold wire; rw [List.append_assoc]
  rw [e, read_ok h h3 (by rw [h1]; omega) (by rw [h1]; omega) (by rw [h1, h2]; simp), h1, h2, wire_len]
  simp only [Prod.mk.injEq]
  refine ⟨?_, ?_, by omega, trivial⟩
  · rw [List.getD_eq_getElem?_getD, List.getElem?_append_right (Nat.le_refl _), Nat.sub_self]; rfl
  · rw [Nat.add_sub_cancel, ← List.drop_drop, List.drop_left]; simp
theorem read_more (c : UInt8) (p r : Bs) (m : Int) (h : ¬ (m < 0 ∨ 2097152 < m)) (hp : m < (p.length : Int)) (hb : p.length + 1 < big) : readV (wire c p ++ r) m = (0, [], 0, 5) := by
  obtain ⟨h1, h2, h3⟩ := get_put (p.length + 1) ((c :: p) ++ r) hb
  have e : wire c p ++ r = encN (p.length + 1) ++ ((c :: p) ++ r) := by unfold wire; rw [List.append_assoc]
  rw [e, read_long h h3 (by rw [h1]; omega) (by rw [h1]; omega)]
theorem get_cut : ∀ (n i acc j : Nat), i ≤ 9 → n * 128 ^ i + acc < big → (0 < i → 0 < n) → j < (encN n).length → getAt i acc ((encN n).take j) = (0, 0, 4) := by
  intro n
  induction n using Nat.strongRecOn with
  | _ n ih =>
    intro i acc j hi hb hpos hj
    have h9 : i = 9 → n ≤ 1 := by
      intro e; subst e; rw [p9] at hb; unfold big at hb; omega
    cases j with
    | zero => rfl
    | succ j =>
      by_cases h : n < 128
      · rw [enc_small h] at hj; simp at hj
      · rw [enc_more (by omega), List.length_cons] at hj
        rw [enc_more (by omega), List.take_succ_cons, getAt_more (by rw [of_nat (by omega)]; omega) (by rw [of_nat (by omega)]; omega), of_nat (by omega)]
        have e : (128 + n % 128) % 128 = n % 128 := by omega
        have hsp : n * 128 ^ i = (n % 128) * 128 ^ i + (n / 128) * 128 ^ (i + 1) := by
          rw [Nat.pow_succ, Nat.mul_comm (128 ^ i) 128, ← Nat.mul_assoc, ← Nat.add_mul]
          congr 1; omega
        rw [e]
        exact ih (n / 128) (by omega) (i + 1) _ j (by omega) (by omega) (by omega) (by omega)
theorem read_cut (c : UInt8) (p : Bs) (m : Int) (j : Nat) (h : ¬ (m < 0 ∨ 2097152 < m)) (hp : (p.length : Int) ≤ m) (hj : j < (wire c p).length) : readV ((wire c p).take j) m = (0, [], 0, 4) := by
  have hb : p.length + 1 < big := by unfold big; omega
  by_cases hl : j < (encN (p.length + 1)).length
  · have e : (wire c p).take j = (encN (p.length + 1)).take j := by unfold wire; rw [List.take_append_of_le_length (by omega)]
    have := get_cut (p.length + 1) 0 0 j (by omega) (by omega) (by omega) hl
    rw [e, read_in h (by unfold getE; rw [this])]
  · have e : (wire c p).take j = encN (p.length + 1) ++ (c :: p).take (j - (encN (p.length + 1)).length) := by
      unfold wire; rw [List.take_append, List.take_of_length_le (by omega)]
    rw [wire_len] at hj
    obtain ⟨h1, h2, h3⟩ := get_put (p.length + 1) ((c :: p).take (j - (encN (p.length + 1)).length)) hb
    rw [e, read_short h h3 (by rw [h1]; omega) (by rw [h1]; omega) (by rw [h1, h2, List.length_append, List.length_take, List.length_cons]; omega)]
theorem read_size (l : Bs) (m : Int) : (readV l m).2.2.1 ≤ l.length ∧ (readV l m).2.1.length ≤ l.length := by
  unfold readV
  have := (get_lt l).2.1
  repeat' split
  all_goals simp
  omega
end Go.Proofs.YthlfahblnpijaaaDoor.Fm
