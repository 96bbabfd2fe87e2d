/- Proves plain facts on integers that the walks of the hash layer use: how a word is mixed, which sizes are powers of two, how many bits a number has. No condition but those in each theorem. -/
import Derived.WalkKit
import Derived.Laws.BitsAllLaws
namespace Go.Proofs.Ytmhbfplpodikiaa.Hm
open Go.RowKit

theorem wrap_u64 (n : Int) : IntKind.u64.wrap n = n % 18446744073709551616 := by simp [IntKind.wrap, IntKind.bits, IntKind.signed]

/-! ### the hash -/
def x1 (a : Int) : Int := bits .xor .u64 a (IntKind.u64.wrap (a * 8192))
def x2 (a : Int) : Int := bits .xor .u64 a (a / 128)
def x3 (a : Int) : Int := bits .xor .u64 a (IntKind.u64.wrap (a * 131072))
def mixI (a : Int) : Int := x3 (x2 (x1 a))
def addI (h c : Int) : Int := IntKind.u64.wrap (31 * h + c + 1)
def sumL (h : Int) (l : List UInt8) : Int := l.foldl (fun h c => addI h c.toNat) h

def U64 (a : Int) : Prop := 0 ≤ a ∧ a < 18446744073709551616
theorem wrap_bd (n : Int) : U64 (IntKind.u64.wrap n) := by rw [wrap_u64]; unfold U64; omega
theorem bits_bd (o : BinOp) (a b : Int) : U64 (bits o .u64 a b) := wrap_bd _
theorem mix_bd (a : Int) : U64 (mixI a) := bits_bd .xor (x2 (x1 a)) (IntKind.u64.wrap (x2 (x1 a) * 131072))
theorem add_bd (h c : Int) : U64 (addI h c) := wrap_bd _
theorem sum_bd (l : List UInt8) : ∀ h : Int, U64 h → U64 (sumL h l) := by
  induction l with
  | nil => intro h hh; exact hh
  | cons c l ih => intro h _; exact ih _ (add_bd _ _)
theorem sum_snoc (h : Int) (l : List UInt8) (c : UInt8) : sumL h (l ++ [c]) = addI (sumL h l) c.toNat := by simp [sumL]
theorem sum_append (h : Int) (l m : List UInt8) : sumL h (l ++ m) = sumL (sumL h l) m := by simp [sumL]
theorem add_walk (h c : Int) : IntKind.u64.wrap (IntKind.u64.wrap (IntKind.u64.wrap (31 * h) + c) + 1) = addI h c := by
  unfold addI; simp only [wrap_u64]; omega
theorem take_snoc (s : ByteArray) (k : Nat) (h : k < s.size) : s.data.toList.take (k + 1) = s.data.toList.take k ++ [s[k]] := by
  rw [List.take_succ_eq_append_getElem (by simpa using h)]; rfl
theorem sum_take (h : Int) (s : ByteArray) (k : Nat) (hk : k < s.size) : sumL h (s.data.toList.take (k + 1)) = addI (sumL h (s.data.toList.take k)) s[k].toNat := by
  rw [take_snoc s k hk, sum_snoc]

/-! ### doubling and halving, again and again -/
def dbl (a : Int) : Nat → Int
  | 0 => a
  | k + 1 => IntKind.u64.wrap (dbl a k + dbl a k)
def hlv (a : Int) : Nat → Int
  | 0 => a
  | k + 1 => hlv a k / 2
theorem dbl_bd (a : Int) (h : U64 a) : ∀ k, U64 (dbl a k)
  | 0 => h
  | _ + 1 => wrap_bd _
theorem hlv_bd (a : Int) (h : U64 a) : ∀ k, U64 (hlv a k)
  | 0 => h
  | k + 1 => by have := hlv_bd a h k; unfold U64 at *; simp only [hlv]; omega
theorem dbl_eq (a : Int) (h : U64 a) : ∀ k, dbl a k = IntKind.u64.wrap (a * 2 ^ k)
  | 0 => by unfold U64 at h; simp only [dbl, wrap_u64]; omega
  | k + 1 => by
    have ih := dbl_eq a h k
    have e : a * 2 ^ (k + 1) = a * 2 ^ k + a * 2 ^ k := by rw [Int.pow_succ, ← Int.mul_assoc]; omega
    simp only [dbl, ih, e, wrap_u64]; omega
theorem dbl13 (a : Int) (h : U64 a) : dbl a 13 = IntKind.u64.wrap (a * 8192) := dbl_eq a h 13
theorem dbl17 (a : Int) (h : U64 a) : dbl a 17 = IntKind.u64.wrap (a * 131072) := dbl_eq a h 17
theorem hlv7 (a : Int) : hlv a 7 = a / 128 := by simp only [hlv]; omega

/-! ### powers of two -/
def pw (k : Nat) : Int := 2 ^ k
theorem pw_succ (k : Nat) : pw (k + 1) = 2 * pw k := by unfold pw; rw [Int.pow_succ]; omega
theorem pw_zero : pw 0 = 1 := rfl
theorem pw_pos (k : Nat) : 1 ≤ pw k := by
  induction k with
  | zero => simp [pw]
  | succ k ih => rw [pw_succ]; omega
theorem pw_mono : ∀ (d k : Nat), pw k ≤ pw (k + d)
  | 0, _ => Int.le_refl _
  | d + 1, k => by have := pw_mono d k; have h := pw_pos (k + d); rw [← Nat.add_assoc, pw_succ]; omega
theorem pw_le {j k : Nat} (h : j ≤ k) : pw j ≤ pw k := by have := pw_mono (k - j) j; rwa [show j + (k - j) = k from by omega] at this
theorem pw24 : pw 24 = 16777216 := by decide
theorem pw25 : pw 25 = 33554432 := by decide
def isPow (n : Int) : Bool := (List.range 25).any fun k => n == pw k
theorem isPow_iff (n : Int) : isPow n = true ↔ ∃ k : Nat, k ≤ 24 ∧ n = pw k := by
  simp only [isPow, List.any_eq_true, List.mem_range, beq_iff_eq]
  exact ⟨fun ⟨k, a, b⟩ => ⟨k, by omega, b⟩, fun ⟨k, a, b⟩ => ⟨k, by omega, b⟩⟩
theorem isPow_bd (n : Int) (h : isPow n = true) : 1 ≤ n ∧ n ≤ 16777216 := by
  obtain ⟨k, hk, rfl⟩ := (isPow_iff n).1 h
  have := pw_pos k; have h2 := pw_le hk; rw [pw24] at h2; omega
theorem isPow_no (n : Int) (h : isPow n = false) (k : Nat) (hk : k ≤ 24) : n ≠ pw k := by
  intro e; have := (isPow_iff n).2 ⟨k, hk, e⟩; rw [this] at h; cases h

/-! ### the bits of a number that is 1 -/
def bl (m : Nat) : Nat := if m = 0 then 0 else m.log2 + 1
theorem bl_lt (m : Nat) : m < 2 ^ bl m := by
  unfold bl
  split
  · subst m; decide
  · rename_i h; exact (Nat.log2_lt h).1 (Nat.lt_succ_self _)
theorem bl_le (m k : Nat) (h : k < bl m) : 2 ^ k ≤ m := by
  unfold bl at h
  split at h
  · omega
  · rename_i h0
    rcases Nat.lt_or_ge m (2 ^ k) with h2 | h2
    · have := (Nat.log2_lt h0).2 h2; omega
    · exact h2
theorem bl_uniq (m k : Nat) (h1 : m < 2 ^ k) (h2 : ∀ j, j < k → 2 ^ j ≤ m) : k = bl m := by
  rcases Nat.lt_trichotomy k (bl m) with h | h | h
  · have := bl_le m k h; omega
  · exact h
  · have := h2 _ h; have := bl_lt m; omega
def powI (n : Int) : Int := pw (bl (n - 1).toNat)
theorem powI_ge (n : Int) (h : 1 ≤ n) : n ≤ powI n := by
  have := bl_lt (n - 1).toNat
  unfold powI pw
  have e : ((2 ^ bl (n - 1).toNat : Nat) : Int) = (2 : Int) ^ bl (n - 1).toNat := by simp
  omega
theorem powI_lt (n : Int) (h : 1 ≤ n) : powI n < 2 * n := by
  unfold powI
  rcases Nat.eq_zero_or_pos (bl (n - 1).toNat) with h0 | h0
  · rw [h0, pw_zero]; omega
  · have := bl_le (n - 1).toNat (bl (n - 1).toNat - 1) (by omega)
    have h2 := pw_succ (bl (n - 1).toNat - 1)
    rw [show bl (n - 1).toNat - 1 + 1 = bl (n - 1).toNat from by omega] at h2
    have e : ((2 ^ (bl (n - 1).toNat - 1) : Nat) : Int) = pw (bl (n - 1).toNat - 1) := by simp [pw]
    omega
theorem powI_le (n : Int) (h1 : 1 ≤ n) (h : n ≤ 16777216) : bl (n - 1).toNat ≤ 24 := by
  rcases Nat.lt_or_ge 24 (bl (n - 1).toNat) with h | h
  · have := bl_le _ _ h
    have e : (2 : Nat) ^ 24 = 16777216 := by decide
    omega
  · exact h
theorem pw_inj {j k : Nat} (h : pw j = pw k) : j = k := by
  rcases Nat.lt_trichotomy j k with h1 | h1 | h1
  · have := pw_le (show j + 1 ≤ k by omega); rw [pw_succ] at this; have := pw_pos j; omega
  · exact h1
  · have := pw_le (show k + 1 ≤ j by omega); rw [pw_succ] at this; have := pw_pos k; omega
theorem powI_pw (k : Nat) : powI (pw k) = pw k := by
  have h1 := powI_ge (pw k) (pw_pos k)
  have h2 := powI_lt (pw k) (pw_pos k)
  rw [← pw_succ] at h2
  unfold powI at *
  congr 1
  generalize bl (pw k - 1).toNat = j at *
  rcases Nat.lt_trichotomy j k with h | h | h
  · have := pw_le (show j + 1 ≤ k by omega); rw [pw_succ] at this; have := pw_pos j; omega
  · exact h
  · have := pw_le (show k + 1 ≤ j by omega); omega
theorem powI_powI (n : Int) : powI (powI n) = powI n := powI_pw _

/-! ### counting bits: bytes -/
def q1 (b : Nat) : Nat := (b / 2 &&& 85) + (b &&& 85)
def q2 (b : Nat) : Nat := (b / 4 &&& 51) + (b &&& 51)
def q3 (b : Nat) : Nat := (b / 16 + b) &&& 15
theorem and_split (a b m M : Nat) (ha : a < 256) (hm : m < 256) : (a + 256 * b) &&& (m + 256 * M) = (a &&& m) + 256 * (b &&& M) := by
  have h1 : ((a + 256 * b) &&& (m + 256 * M)) % 2 ^ 8 = ((a + 256 * b) % 2 ^ 8) &&& ((m + 256 * M) % 2 ^ 8) := Nat.and_mod_two_pow
  have h2 : ((a + 256 * b) &&& (m + 256 * M)) / 2 ^ 8 = ((a + 256 * b) / 2 ^ 8) &&& ((m + 256 * M) / 2 ^ 8) := Nat.and_div_two_pow
  have e1 : (a + 256 * b) % 2 ^ 8 = a := by omega
  have e2 : (m + 256 * M) % 2 ^ 8 = m := by omega
  have e3 : (a + 256 * b) / 2 ^ 8 = b := by omega
  have e4 : (m + 256 * M) / 2 ^ 8 = M := by omega
  rw [e1, e2] at h1; rw [e3, e4] at h2
  omega

theorem q1_hi : ∀ (b : Fin 256) (e : Fin 2), ((b.val / 2 + 128 * e.val) &&& 85) = (b.val / 2 &&& 85) := by decide +kernel
theorem q1_lt : ∀ b : Fin 256, q1 b.val < 256 := by decide +kernel
theorem q2_hi : ∀ (b : Fin 256) (e : Fin 4), ((b.val / 4 + 64 * e.val) &&& 51) = (b.val / 4 &&& 51) := by decide +kernel
theorem q2_lt : ∀ b : Fin 256, q2 (q1 b.val) < 69 := by decide +kernel
theorem q3_hi : ∀ (b : Fin 69) (e : Fin 16), b.val % 16 ≤ 4 → e.val ≤ 4 → (b.val / 16 + 16 * e.val + b.val < 256) ∧ ((b.val / 16 + 16 * e.val + b.val) &&& 15) = q3 b.val := by decide +kernel
theorem q2_low : ∀ b : Fin 256, q2 (q1 b.val) % 16 ≤ 4 := by decide +kernel
def pop (b : Nat) : Nat := q3 (q2 (q1 b))
theorem pop_le : ∀ b : Fin 256, pop b.val ≤ 8 := by decide +kernel
theorem pop_zero : ∀ b : Fin 256, pop b.val = 0 → b.val = 0 := by decide +kernel
theorem pop_one : ∀ b : Fin 256, pop b.val = 1 → b.val = 1 ∨ b.val = 2 ∨ b.val = 4 ∨ b.val = 8 ∨ b.val = 16 ∨ b.val = 32 ∨ b.val = 64 ∨ b.val = 128 := by decide +kernel

theorem split4 (b0 b1 b2 b3 m M1 M2 M3 M4 : Nat) (h0 : b0 < 256) (h1 : b1 < 256) (h2 : b2 < 256) (h3 : b3 < 256) (hm : m < 256)
    (e1 : M1 = m + 256 * M2) (e2 : M2 = m + 256 * M3) (e3 : M3 = m + 256 * M4) (c : Nat) (e4 : M4 = m + 256 * c) :
    (b0 + 256 * (b1 + 256 * (b2 + 256 * b3))) &&& M1 = (b0 &&& m) + 256 * ((b1 &&& m) + 256 * ((b2 &&& m) + 256 * (b3 &&& m))) := by
  rw [e1, and_split _ _ _ _ h0 hm, e2, and_split _ _ _ _ h1 hm, e3, and_split _ _ _ _ h2 hm, e4]
  have := and_split b3 0 m c h3 hm
  simp only [Nat.mul_zero, Nat.add_zero, Nat.zero_and] at this
  rw [this]

/-! ### counting bits: the words -/
def A1 (n : Nat) : Nat := (n / 2 &&& 6148914691236517205) + (n &&& 6148914691236517205)
def A2 (n : Nat) : Nat := (n / 4 &&& 3689348814741910323) + (n &&& 3689348814741910323)
def A3 (n : Nat) : Nat := (n / 16 + n) &&& 1085102592571150095
theorem A1_eq (b0 b1 b2 b3 : Nat) (h0 : b0 < 256) (h1 : b1 < 256) (h2 : b2 < 256) (h3 : b3 < 256) :
    A1 (b0 + 256 * (b1 + 256 * (b2 + 256 * b3))) = q1 b0 + 256 * (q1 b1 + 256 * (q1 b2 + 256 * q1 b3)) := by
  unfold A1
  rw [split4 b0 b1 b2 b3 85 6148914691236517205 24019198012642645 93824992236885 366503875925 h0 h1 h2 h3 (by decide) (by decide) (by decide) (by decide) 1431655765 (by decide)]
  rw [show (b0 + 256 * (b1 + 256 * (b2 + 256 * b3))) / 2 = (b0 / 2 + 128 * (b1 % 2)) + 256 * ((b1 / 2 + 128 * (b2 % 2)) + 256 * ((b2 / 2 + 128 * (b3 % 2)) + 256 * (b3 / 2))) from by omega]
  rw [split4 _ _ _ _ 85 6148914691236517205 24019198012642645 93824992236885 366503875925 (by omega) (by omega) (by omega) (by omega) (by decide) (by decide) (by decide) (by decide) 1431655765 (by decide)]
  have r0 := q1_hi ⟨b0, h0⟩ ⟨b1 % 2, by omega⟩
  have r1 := q1_hi ⟨b1, h1⟩ ⟨b2 % 2, by omega⟩
  have r2 := q1_hi ⟨b2, h2⟩ ⟨b3 % 2, by omega⟩
  simp only at r0 r1 r2
  rw [r0, r1, r2]
  unfold q1; omega
theorem A2_eq (b0 b1 b2 b3 : Nat) (h0 : b0 < 256) (h1 : b1 < 256) (h2 : b2 < 256) (h3 : b3 < 256) :
    A2 (b0 + 256 * (b1 + 256 * (b2 + 256 * b3))) = q2 b0 + 256 * (q2 b1 + 256 * (q2 b2 + 256 * q2 b3)) := by
  unfold A2
  rw [split4 b0 b1 b2 b3 51 3689348814741910323 14411518807585587 56294995342131 219902325555 h0 h1 h2 h3 (by decide) (by decide) (by decide) (by decide) 858993459 (by decide)]
  rw [show (b0 + 256 * (b1 + 256 * (b2 + 256 * b3))) / 4 = (b0 / 4 + 64 * (b1 % 4)) + 256 * ((b1 / 4 + 64 * (b2 % 4)) + 256 * ((b2 / 4 + 64 * (b3 % 4)) + 256 * (b3 / 4))) from by omega]
  rw [split4 _ _ _ _ 51 3689348814741910323 14411518807585587 56294995342131 219902325555 (by omega) (by omega) (by omega) (by omega) (by decide) (by decide) (by decide) (by decide) 858993459 (by decide)]
  have r0 := q2_hi ⟨b0, h0⟩ ⟨b1 % 4, by omega⟩
  have r1 := q2_hi ⟨b1, h1⟩ ⟨b2 % 4, by omega⟩
  have r2 := q2_hi ⟨b2, h2⟩ ⟨b3 % 4, by omega⟩
  simp only at r0 r1 r2
  rw [r0, r1, r2]
  unfold q2; omega
theorem A3_eq (b0 b1 b2 b3 : Nat) (h0 : b0 < 69) (h1 : b1 < 69) (h2 : b2 < 69) (h3 : b3 < 69) (l0 : b0 % 16 ≤ 4) (l1 : b1 % 16 ≤ 4) (l2 : b2 % 16 ≤ 4) (l3 : b3 % 16 ≤ 4) :
    A3 (b0 + 256 * (b1 + 256 * (b2 + 256 * b3))) = q3 b0 + 256 * (q3 b1 + 256 * (q3 b2 + 256 * q3 b3)) := by
  unfold A3
  obtain ⟨c0, d0⟩ := q3_hi ⟨b0, h0⟩ ⟨b1 % 16, by omega⟩ l0 l1
  obtain ⟨c1, d1⟩ := q3_hi ⟨b1, h1⟩ ⟨b2 % 16, by omega⟩ l1 l2
  obtain ⟨c2, d2⟩ := q3_hi ⟨b2, h2⟩ ⟨b3 % 16, by omega⟩ l2 l3
  obtain ⟨c3, d3⟩ := q3_hi ⟨b3, h3⟩ ⟨0, by omega⟩ l3 (by simp)
  simp only [Nat.mul_zero, Nat.add_zero] at c0 c1 c2 c3 d0 d1 d2 d3
  rw [show (b0 + 256 * (b1 + 256 * (b2 + 256 * b3))) / 16 + (b0 + 256 * (b1 + 256 * (b2 + 256 * b3))) = (b0 / 16 + 16 * (b1 % 16) + b0) + 256 * ((b1 / 16 + 16 * (b2 % 16) + b1) + 256 * ((b2 / 16 + 16 * (b3 % 16) + b2) + 256 * (b3 / 16 + b3))) from by omega]
  rw [split4 _ _ _ _ 15 1085102592571150095 4238682002231055 16557351571215 64677154575 c0 c1 c2 c3 (by decide) (by decide) (by decide) (by decide) 252645135 (by decide)]
  rw [d0, d1, d2, d3]
theorem A_all (n : Nat) (h : n < 4294967296) : A3 (A2 (A1 n)) = pop (n % 256) + 256 * (pop (n / 256 % 256) + 256 * (pop (n / 65536 % 256) + 256 * pop (n / 16777216))) := by
  have e : n = n % 256 + 256 * (n / 256 % 256 + 256 * (n / 65536 % 256 + 256 * (n / 16777216))) := by omega
  have h0 : n % 256 < 256 := by omega
  have h1 : n / 256 % 256 < 256 := by omega
  have h2 : n / 65536 % 256 < 256 := by omega
  have h3 : n / 16777216 < 256 := by omega
  generalize n % 256 = b0 at *
  generalize n / 256 % 256 = b1 at *
  generalize n / 65536 % 256 = b2 at *
  generalize n / 16777216 = b3 at *
  rw [e, A1_eq _ _ _ _ h0 h1 h2 h3]
  have f0 := q1_lt ⟨b0, h0⟩; have f1 := q1_lt ⟨b1, h1⟩; have f2 := q1_lt ⟨b2, h2⟩; have f3 := q1_lt ⟨b3, h3⟩
  rw [A2_eq _ _ _ _ f0 f1 f2 f3]
  exact A3_eq _ _ _ _ (q2_lt ⟨b0, h0⟩) (q2_lt ⟨b1, h1⟩) (q2_lt ⟨b2, h2⟩) (q2_lt ⟨b3, h3⟩) (q2_low ⟨b0, h0⟩) (q2_low ⟨b1, h1⟩) (q2_low ⟨b2, h2⟩) (q2_low ⟨b3, h3⟩)

/-! ### counting bits: as the walk has it -/
def a1 (n : Int) : Int := IntKind.u64.wrap (bits .and .u64 (n / 2) 6148914691236517205 + bits .and .u64 n 6148914691236517205)
def a2 (n : Int) : Int := IntKind.u64.wrap (bits .and .u64 (n / 4) 3689348814741910323 + bits .and .u64 n 3689348814741910323)
def a3 (n : Int) : Int := bits .and .u64 (IntKind.u64.wrap (n / 16 + n)) 1085102592571150095
def a4 (n : Int) : Int := IntKind.u64.wrap (n + n / 256)
def a5 (n : Int) : Int := IntKind.u64.wrap (n + n / 65536)
def a6 (n : Int) : Int := IntKind.u64.wrap (n + n / 4294967296)
def popI (n : Int) : Int := bits .and .i64 (wrap64 (a6 (a5 (a4 (a3 (a2 (a1 n))))))) 127
theorem and_le (a b : Nat) : a &&& b ≤ a := Nat.and_le_left
theorem a1_eq (n : Nat) (h : n < 4294967296) : a1 n = (A1 n : Nat) ∧ A1 n < 8589934592 := by
  have e : ((n : Int) / 2) = ((n / 2 : Nat) : Int) := by omega
  have k1 := and_le (n / 2) 6148914691236517205
  have k2 := and_le n 6148914691236517205
  refine ⟨?_, by unfold A1; omega⟩
  unfold a1 A1
  rw [e, show (6148914691236517205 : Int) = ((6148914691236517205 : Nat) : Int) from rfl, u64_and_nat _ _ (by omega) (by omega), u64_and_nat _ _ (by omega) (by omega), wrap_u64]
  omega
theorem a2_eq (n : Nat) (h : n < 8589934592) : a2 n = (A2 n : Nat) ∧ A2 n < 17179869184 := by
  have e : ((n : Int) / 4) = ((n / 4 : Nat) : Int) := by omega
  have k1 := and_le (n / 4) 3689348814741910323
  have k2 := and_le n 3689348814741910323
  refine ⟨?_, by unfold A2; omega⟩
  unfold a2 A2
  rw [e, show (3689348814741910323 : Int) = ((3689348814741910323 : Nat) : Int) from rfl, u64_and_nat _ _ (by omega) (by omega), u64_and_nat _ _ (by omega) (by omega), wrap_u64]
  omega
theorem a3_eq (n : Nat) (h : n < 17179869184) : a3 n = (A3 n : Nat) := by
  have e : IntKind.u64.wrap ((n : Int) / 16 + n) = ((n / 16 + n : Nat) : Int) := by rw [wrap_u64]; omega
  unfold a3 A3
  rw [e, show (1085102592571150095 : Int) = ((1085102592571150095 : Nat) : Int) from rfl, u64_and_nat _ _ (by omega) (by omega)]
theorem low7 (n : Int) (h0 : 0 ≤ n) (h1 : n < 9223372036854775808) : bits .and .i64 n 127 = n % 128 := by
  have := bits_mask .i64 63 (by decide) (fun m h0 h1 => by rw [IntKind.wrap_i64]; omega) 7 (by decide) n h0 h1
  simpa using this
theorem a5_at (r q n m : Nat) (hr : r < 65536) (hn : n = r + 65536 * q) (hm : m = n + q) (hb : m < 18446744073709551616) : a5 (n : Int) = (m : Nat) := by
  have d : n / 65536 = q := by rw [hn, Nat.add_mul_div_left _ _ (by decide), Nat.div_eq_of_lt hr]; omega
  have e : ((n : Int) / 65536) = ((n / 65536 : Nat) : Int) := by omega
  unfold a5
  rw [e, d, wrap_u64]; omega
theorem a6_at (n : Nat) (h : n < 4294967296) : a6 (n : Int) = (n : Nat) := by
  have d : n / 4294967296 = 0 := Nat.div_eq_of_lt h
  have e : ((n : Int) / 4294967296) = ((n / 4294967296 : Nat) : Int) := by omega
  unfold a6
  rw [e, d, wrap_u64]; omega
theorem low_at (n c q : Nat) (hc : c < 128) (hn : n = c + 256 * q) (hb : n < 4294967296) : bits .and .i64 (wrap64 (n : Int)) 127 = (c : Nat) := by
  unfold wrap64; rw [low7 _ (by omega) (by omega)]; omega
theorem popI_eq (n : Nat) (h : n < 4294967296) : popI n = ((pop (n % 256) + pop (n / 256 % 256) + pop (n / 65536 % 256) + pop (n / 16777216) : Nat) : Int) := by
  obtain ⟨e1, l1⟩ := a1_eq n h
  obtain ⟨e2, l2⟩ := a2_eq _ l1
  have e3 := a3_eq _ l2
  have h3 := A_all n h
  have p0 := pop_le ⟨n % 256, by omega⟩; have p1 := pop_le ⟨n / 256 % 256, by omega⟩; have p2 := pop_le ⟨n / 65536 % 256, by omega⟩; have p3 := pop_le ⟨n / 16777216, by omega⟩
  simp only at p0 p1 p2 p3
  unfold popI
  rw [e1, e2, e3, h3]
  generalize pop (n % 256) = c0 at *
  generalize pop (n / 256 % 256) = c1 at *
  generalize pop (n / 65536 % 256) = c2 at *
  generalize pop (n / 16777216) = c3 at *
  have e4 : a4 ((c0 + 256 * (c1 + 256 * (c2 + 256 * c3)) : Nat) : Int) = ((c0 + c1) + 256 * ((c1 + c2) + 256 * ((c2 + c3) + 256 * c3)) : Nat) := by unfold a4; rw [wrap_u64]; omega
  have e5 : a5 (((c0 + c1) + 256 * ((c1 + c2) + 256 * ((c2 + c3) + 256 * c3)) : Nat) : Int) = ((c0 + c1 + c2 + c3) + 256 * ((c1 + c2 + c3) + 256 * ((c2 + c3) + 256 * c3)) : Nat) :=
    a5_at ((c0 + c1) + 256 * (c1 + c2)) (c2 + c3 + 256 * c3) _ _ (by omega) (by omega) (by omega) (by omega)
  have e6 : a6 (((c0 + c1 + c2 + c3) + 256 * ((c1 + c2 + c3) + 256 * ((c2 + c3) + 256 * c3)) : Nat) : Int) = ((c0 + c1 + c2 + c3) + 256 * ((c1 + c2 + c3) + 256 * ((c2 + c3) + 256 * c3)) : Nat) :=
    a6_at _ (by omega)
  rw [e4, e5, e6]
  exact low_at _ _ ((c1 + c2 + c3) + 256 * ((c2 + c3) + 256 * c3)) (by omega) (by omega) (by omega)
theorem popI_one (n : Int) (h0 : 1 ≤ n) (h1 : n ≤ 16777216) : popI n = 1 ↔ isPow n = true := by
  constructor
  · obtain ⟨m, rfl⟩ := Int.eq_ofNat_of_zero_le (show 0 ≤ n by omega)
    rw [popI_eq m (by omega)]
    intro h
    have z0 := pop_zero ⟨m % 256, by omega⟩; have z1 := pop_zero ⟨m / 256 % 256, by omega⟩; have z2 := pop_zero ⟨m / 65536 % 256, by omega⟩; have z3 := pop_zero ⟨m / 16777216, by omega⟩
    have o0 := pop_one ⟨m % 256, by omega⟩; have o1 := pop_one ⟨m / 256 % 256, by omega⟩; have o2 := pop_one ⟨m / 65536 % 256, by omega⟩
    simp only at z0 z1 z2 z3 o0 o1 o2
    have hm : m = m % 256 + 256 * (m / 256 % 256 + 256 * (m / 65536 % 256 + 256 * (m / 16777216))) := by omega
    have key : ∃ k : Nat, k ≤ 24 ∧ m = 2 ^ k := by
      generalize pop (m % 256) = c0 at *
      generalize pop (m / 256 % 256) = c1 at *
      generalize pop (m / 65536 % 256) = c2 at *
      generalize pop (m / 16777216) = c3 at *
      have hc : (c0 = 1 ∧ c1 = 0 ∧ c2 = 0 ∧ c3 = 0) ∨ (c0 = 0 ∧ c1 = 1 ∧ c2 = 0 ∧ c3 = 0) ∨ (c0 = 0 ∧ c1 = 0 ∧ c2 = 1 ∧ c3 = 0) ∨ (c0 = 0 ∧ c1 = 0 ∧ c2 = 0) := by omega
      rcases hc with ⟨d0, d1, d2, d3⟩ | ⟨d0, d1, d2, d3⟩ | ⟨d0, d1, d2, d3⟩ | ⟨d0, d1, d2⟩
      · have y1 := z1 d1; have y2 := z2 d2; have y3 := z3 d3
        rcases o0 d0 with y | y | y | y | y | y | y | y
        · exact ⟨0, by omega, by omega⟩
        · exact ⟨1, by omega, by omega⟩
        · exact ⟨2, by omega, by omega⟩
        · exact ⟨3, by omega, by omega⟩
        · exact ⟨4, by omega, by omega⟩
        · exact ⟨5, by omega, by omega⟩
        · exact ⟨6, by omega, by omega⟩
        · exact ⟨7, by omega, by omega⟩
      · have y1 := z0 d0; have y2 := z2 d2; have y3 := z3 d3
        rcases o1 d1 with y | y | y | y | y | y | y | y
        · exact ⟨8, by omega, by omega⟩
        · exact ⟨9, by omega, by omega⟩
        · exact ⟨10, by omega, by omega⟩
        · exact ⟨11, by omega, by omega⟩
        · exact ⟨12, by omega, by omega⟩
        · exact ⟨13, by omega, by omega⟩
        · exact ⟨14, by omega, by omega⟩
        · exact ⟨15, by omega, by omega⟩
      · have y1 := z0 d0; have y2 := z1 d1; have y3 := z3 d3
        rcases o2 d2 with y | y | y | y | y | y | y | y
        · exact ⟨16, by omega, by omega⟩
        · exact ⟨17, by omega, by omega⟩
        · exact ⟨18, by omega, by omega⟩
        · exact ⟨19, by omega, by omega⟩
        · exact ⟨20, by omega, by omega⟩
        · exact ⟨21, by omega, by omega⟩
        · exact ⟨22, by omega, by omega⟩
        · exact ⟨23, by omega, by omega⟩
      · have y1 := z0 d0; have y2 := z1 d1; have y3 := z2 d2
        exact ⟨24, by omega, by omega⟩
    obtain ⟨k, hk, e⟩ := key
    exact (isPow_iff _).2 ⟨k, hk, by rw [e]; simp [pw]⟩
  · intro h
    obtain ⟨k, hk, rfl⟩ := (isPow_iff n).1 h
    have e : ∀ k : Fin 25, 2 ^ k.val < 4294967296 ∧ pop (2 ^ k.val % 256) + pop (2 ^ k.val / 256 % 256) + pop (2 ^ k.val / 65536 % 256) + pop (2 ^ k.val / 16777216) = 1 := by decide +kernel
    obtain ⟨e1, e2⟩ := e ⟨k, by omega⟩
    simp only at e1 e2
    rw [show pw k = ((2 ^ k : Nat) : Int) from by simp [pw], popI_eq _ e1, e2]
    rfl

/-! ### what Index and Power return -/
theorem bl_shift (m k : Nat) (h : 2 ^ k ≤ m) : bl m = k + bl (m / 2 ^ k) := by
  have hp : 0 < 2 ^ k := Nat.two_pow_pos k
  have hq : 1 ≤ m / 2 ^ k := (Nat.le_div_iff_mul_le hp).2 (by omega)
  refine (bl_uniq m _ ?_ ?_).symm
  · have := bl_lt (m / 2 ^ k)
    rw [Nat.pow_add]
    have := (Nat.div_lt_iff_lt_mul hp).1 this
    rw [Nat.mul_comm]; exact this
  · intro j hj
    rcases Nat.lt_or_ge j k with h1 | h1
    · exact Nat.le_trans (Nat.pow_le_pow_right (by decide) (by omega)) h
    · have h2 := bl_le (m / 2 ^ k) (j - k) (by omega)
      have h3 := (Nat.le_div_iff_mul_le hp).1 h2
      rw [← Nat.pow_add, show j - k + k = j from by omega] at h3
      exact h3
theorem bl_16 (m : Int) (h0 : 65536 ≤ m) : (bl m.toNat : Int) = 16 + bl (m / 65536).toNat := by
  have := bl_shift m.toNat 16 (by omega)
  rw [this, show m.toNat / 2 ^ 16 = (m / 65536).toNat from by omega]; omega
theorem bl_8 (m : Int) (h0 : 256 ≤ m) : (bl m.toNat : Int) = 8 + bl (m / 256).toNat := by
  have := bl_shift m.toNat 8 (by omega)
  rw [this, show m.toNat / 2 ^ 8 = (m / 256).toNat from by omega]; omega
def idxI (s n : Int) : Int := if isPow n = true then s % n else 0
def idxE (n : Int) : Int := if isPow n = true then 0 else 2
def inR (n : Int) : Bool := decide (1 ≤ n) && decide (n ≤ 16777216)
def powR (n : Int) : Int := if inR n = true then powI n else 0
def powE (n : Int) : Int := if inR n = true then 0 else 3
theorem inR_iff (n : Int) : inR n = true ↔ 1 ≤ n ∧ n ≤ 16777216 := by simp [inR]
theorem bl_pw (k : Nat) (n : Int) (h1 : 1 ≤ n) (h : n ≤ pw k) (h2 : ∀ j, j < k → pw j < n) : k = bl (n - 1).toNat := by
  refine bl_uniq _ _ ?_ ?_
  · have e : ((2 ^ k : Nat) : Int) = pw k := by simp [pw]
    omega
  · intro j hj
    have e : ((2 ^ j : Nat) : Int) = pw j := by simp [pw]
    have := h2 j hj
    omega

theorem bl_small (x : Int) (h0 : 0 ≤ x) (h : x < 256) : bl x.toNat ≤ 8 := by
  rcases Nat.lt_or_ge 8 (bl x.toNat) with h1 | h1
  · have := bl_le _ _ h1; omega
  · exact h1
theorem w64_0 (x : Int) (h0 : 0 ≤ x) (h : x < 256) : wrap64 (wrap64 (bl x.toNat)) = bl x.toNat := by
  have := bl_small x h0 h; unfold wrap64; omega
theorem w64_8 (x : Int) (h0 : 256 ≤ x) (h : x < 65536) : wrap64 (8 + wrap64 (bl (x / 256).toNat)) = bl x.toNat := by
  have := bl_small (x / 256) (by omega) (by omega); have := bl_8 x h0; unfold wrap64; omega
theorem w64_16 (x : Int) (h0 : 65536 ≤ x) (h : x < 16777216) : wrap64 (16 + wrap64 (bl (x / 65536).toNat)) = bl x.toNat := by
  have := bl_small (x / 65536) (by omega) (by omega); have := bl_16 x h0; unfold wrap64; omega
theorem pow_walk (n : Int) (h : inR n = true) : wrap64 (2 ^ min (bl (n.toNat - 1)) 64) = powR n := by
  obtain ⟨b1, b2⟩ := (inR_iff n).1 h
  have b3 := powI_le n b1 b2
  have e : n.toNat - 1 = (n - 1).toNat := by omega
  have p1 := pw_pos (bl (n - 1).toNat)
  have p2 := pw_le b3
  rw [pw24] at p2
  rw [powR, if_pos h, powI, e, Nat.min_eq_left (by omega)]
  unfold pw at *
  unfold wrap64; omega
end Go.Proofs.Ytmhbfplpodikiaa.Hm
