/- Proves what the method Del of the specification's table returns. Conditions: as the theorem names them. -/
import Derived.Test.YtlmljhnogmfcfaaGreatRows
import Derived.Test.YtlmljhnogmfcfaaGreatMi
import Derived.Test.YtlmljhnogmfcfaaGreatNw
import Derived.Test.YtlmljhnogmfcfaaGreatRg
import Derived.WalkKit
import Derived.Laws.BitsAllLaws
import Derived.WalkSpells
import Derived.WalkLawsBesides
import Derived.Lib.Hide
import Derived.Laws.BitsLemmas
import Derived.BigQuiet
import Derived.Deep.QuietTactic
import Derived.Deep.Cut
import Derived.BigRegion
import Derived.Laws.MakeOwn
import Derived.Deep.CutRange
namespace Go.Proofs.YtlmljhnogmfcfaaGreat.Hm
open Go.RowKit

theorem wrap_u64 (n : Int) : IntKind.u64.wrap n = n % 18446744073709551616 := by simp [IntKind.wrap, IntKind.bits, IntKind.signed]

/-! ### the hash -/
def x1 (a : Int) : Int := bits .xor .u64 a (IntKind.u64.wrap (a * 8192))
def x2 (a : Int) : Int := bits .xor .u64 a (a / 128)
def x3 (a : Int) : Int := bits .xor .u64 a (IntKind.u64.wrap (a * 131072))
def mixI (a : Int) : Int := x3 (x2 (x1 a))
def addI (h c : Int) : Int := IntKind.u64.wrap (31 * h + c + 1)
def sumL (h : Int) (l : List UInt8) : Int := l.foldl (fun h c => addI h c.toNat) h

def U64 (a : Int) : Prop := 0 ≤ a ∧ a < 18446744073709551616
theorem wrap_bd (n : Int) : U64 (IntKind.u64.wrap n) := by rw [wrap_u64]; unfold U64; omega
theorem bits_bd (o : BinOp) (a b : Int) : U64 (bits o .u64 a b) := wrap_bd _
theorem mix_bd (a : Int) : U64 (mixI a) := bits_bd .xor (x2 (x1 a)) (IntKind.u64.wrap (x2 (x1 a) * 131072))
theorem add_bd (h c : Int) : U64 (addI h c) := wrap_bd _
theorem sum_bd (l : List UInt8) : ∀ h : Int, U64 h → U64 (sumL h l) := by
 induction l with
 | nil => intro h hh; exact hh
 | cons c l ih => intro h _; exact ih _ (add_bd _ _)
theorem sum_snoc (h : Int) (l : List UInt8) (c : UInt8) : sumL h (l ++ [c]) = addI (sumL h l) c.toNat := by simp [sumL]
theorem sum_append (h : Int) (l m : List UInt8) : sumL h (l ++ m) = sumL (sumL h l) m := by simp [sumL]
theorem add_walk (h c : Int) : IntKind.u64.wrap (IntKind.u64.wrap (IntKind.u64.wrap (31 * h) + c) + 1) = addI h c := by
 unfold addI; simp only [wrap_u64]; omega
theorem take_snoc (s : ByteArray) (k : Nat) (h : k < s.size) : s.data.toList.take (k + 1) = s.data.toList.take k ++ [s[k]] := by
 rw [List.take_succ_eq_append_getElem (by simpa using h)]; rfl
theorem sum_take (h : Int) (s : ByteArray) (k : Nat) (hk : k < s.size) : sumL h (s.data.toList.take (k + 1)) = addI (sumL h (s.data.toList.take k)) s[k].toNat := by
 rw [take_snoc s k hk, sum_snoc]

/-! ### doubling and halving, again and again -/
/-! ### powers of two -/
def pw (k : Nat) : Int := 2 ^ k
theorem pw_succ (k : Nat) : pw (k + 1) = 2 * pw k := by unfold pw; rw [Int.pow_succ]; omega
theorem pw_pos (k : Nat) : 1 ≤ pw k := by
 induction k with
 | zero => simp [pw]
 | succ k ih => rw [pw_succ]; omega
theorem pw_mono : ∀ (d k : Nat), pw k ≤ pw (k + d)
 | 0, _ => Int.le_refl _
 | d + 1, k => by have := pw_mono d k; have h := pw_pos (k + d); rw [← Nat.add_assoc, pw_succ]; omega
theorem pw_le {j k : Nat} (h : j ≤ k) : pw j ≤ pw k := by have := pw_mono (k - j) j; rwa [show j + (k - j) = k from by omega] at this
theorem pw24 : pw 24 = 16777216 := by decide
def isPow (n : Int) : Bool := (List.range 25).any fun k => n == pw k
theorem isPow_iff (n : Int) : isPow n = true ↔ ∃ k : Nat, k ≤ 24 ∧ n = pw k := by
 simp only [isPow, List.any_eq_true, List.mem_range, beq_iff_eq]
 exact ⟨fun ⟨k, a, b⟩ => ⟨k, by omega, b⟩, fun ⟨k, a, b⟩ => ⟨k, by omega, b⟩⟩
theorem isPow_bd (n : Int) (h : isPow n = true) : 1 ≤ n ∧ n ≤ 16777216 := by
 obtain ⟨k, hk, rfl⟩ := (isPow_iff n).1 h
 have := pw_pos k; have h2 := pw_le hk; rw [pw24] at h2; omega
/-! ### the bits of a number that is 1 -/
def bl (m : Nat) : Nat := if m = 0 then 0 else m.log2 + 1
/-! ### counting bits: bytes -/
def q1 (b : Nat) : Nat := (b / 2 &&& 85) + (b &&& 85)
def q2 (b : Nat) : Nat := (b / 4 &&& 51) + (b &&& 51)
def q3 (b : Nat) : Nat := (b / 16 + b) &&& 15
theorem and_split (a b m M : Nat) (ha : a < 256) (hm : m < 256) : (a + 256 * b) &&& (m + 256 * M) = (a &&& m) + 256 * (b &&& M) := by
 have h1 : ((a + 256 * b) &&& (m + 256 * M)) % 2 ^ 8 = ((a + 256 * b) % 2 ^ 8) &&& ((m + 256 * M) % 2 ^ 8) := Nat.and_mod_two_pow
 have h2 : ((a + 256 * b) &&& (m + 256 * M)) / 2 ^ 8 = ((a + 256 * b) / 2 ^ 8) &&& ((m + 256 * M) / 2 ^ 8) := Nat.and_div_two_pow
 have e1 : (a + 256 * b) % 2 ^ 8 = a := by omega
 have e2 : (m + 256 * M) % 2 ^ 8 = m := by omega
 have e3 : (a + 256 * b) / 2 ^ 8 = b := by omega
 have e4 : (m + 256 * M) / 2 ^ 8 = M := by omega
 rw [e1, e2] at h1; rw [e3, e4] at h2
 omega

theorem q1_hi : ∀ (b : Fin 256) (e : Fin 2), ((b.val / 2 + 128 * e.val) &&& 85) = (b.val / 2 &&& 85) := by decide +kernel
theorem q1_lt : ∀ b : Fin 256, q1 b.val < 256 := by decide +kernel
theorem q2_hi : ∀ (b : Fin 256) (e : Fin 4), ((b.val / 4 + 64 * e.val) &&& 51) = (b.val / 4 &&& 51) := by decide +kernel
theorem q2_lt : ∀ b : Fin 256, q2 (q1 b.val) < 69 := by decide +kernel
theorem q3_hi : ∀ (b : Fin 69) (e : Fin 16), b.val % 16 ≤ 4 → e.val ≤ 4 → (b.val / 16 + 16 * e.val + b.val < 256) ∧ ((b.val / 16 + 16 * e.val + b.val) &&& 15) = q3 b.val := by decide +kernel
theorem q2_low : ∀ b : Fin 256, q2 (q1 b.val) % 16 ≤ 4 := by decide +kernel
def pop (b : Nat) : Nat := q3 (q2 (q1 b))
theorem pop_le : ∀ b : Fin 256, pop b.val ≤ 8 := by decide +kernel
theorem pop_zero : ∀ b : Fin 256, pop b.val = 0 → b.val = 0 := by decide +kernel
theorem pop_one : ∀ b : Fin 256, pop b.val = 1 → b.val = 1 ∨ b.val = 2 ∨ b.val = 4 ∨ b.val = 8 ∨ b.val = 16 ∨ b.val = 32 ∨ b.val = 64 ∨ b.val = 128 := by decide +kernel

theorem split4 (b0 b1 b2 b3 m M1 M2 M3 M4 : Nat) (h0 : b0 < 256) (h1 : b1 < 256) (h2 : b2 < 256) (h3 : b3 < 256) (hm : m < 256)
  (e1 : M1 = m + 256 * M2) (e2 : M2 = m + 256 * M3) (e3 : M3 = m + 256 * M4) (c : Nat) (e4 : M4 = m + 256 * c) :
  (b0 + 256 * (b1 + 256 * (b2 + 256 * b3))) &&& M1 = (b0 &&& m) + 256 * ((b1 &&& m) + 256 * ((b2 &&& m) + 256 * (b3 &&& m))) := by
 rw [e1, and_split _ _ _ _ h0 hm, e2, and_split _ _ _ _ h1 hm, e3, and_split _ _ _ _ h2 hm, e4]
 have := and_split b3 0 m c h3 hm
 simp only [Nat.mul_zero, Nat.add_zero, Nat.zero_and] at this
 rw [this]

/-! ### counting bits: the words -/
def A1 (n : Nat) : Nat := (n / 2 &&& 6148914691236517205) + (n &&& 6148914691236517205)
def A2 (n : Nat) : Nat := (n / 4 &&& 3689348814741910323) + (n &&& 3689348814741910323)
def A3 (n : Nat) : Nat := (n / 16 + n) &&& 1085102592571150095
theorem A1_eq (b0 b1 b2 b3 : Nat) (h0 : b0 < 256) (h1 : b1 < 256) (h2 : b2 < 256) (h3 : b3 < 256) :
  A1 (b0 + 256 * (b1 + 256 * (b2 + 256 * b3))) = q1 b0 + 256 * (q1 b1 + 256 * (q1 b2 + 256 * q1 b3)) := by
 unfold A1
 rw [split4 b0 b1 b2 b3 85 6148914691236517205 24019198012642645 93824992236885 366503875925 h0 h1 h2 h3 (by decide) (by decide) (by decide) (by decide) 1431655765 (by decide)]
 rw [show (b0 + 256 * (b1 + 256 * (b2 + 256 * b3))) / 2 = (b0 / 2 + 128 * (b1 % 2)) + 256 * ((b1 / 2 + 128 * (b2 % 2)) + 256 * ((b2 / 2 + 128 * (b3 % 2)) + 256 * (b3 / 2))) from by omega]
 rw [split4 _ _ _ _ 85 6148914691236517205 24019198012642645 93824992236885 366503875925 (by omega) (by omega) (by omega) (by omega) (by decide) (by decide) (by decide) (by decide) 1431655765 (by decide)]
 have r0 := q1_hi ⟨b0, h0⟩ ⟨b1 % 2, by omega⟩
 have r1 := q1_hi ⟨b1, h1⟩ ⟨b2 % 2, by omega⟩
 have r2 := q1_hi ⟨b2, h2⟩ ⟨b3 % 2, by omega⟩
 simp only at r0 r1 r2
 rw [r0, r1, r2]
 unfold q1; omega
theorem A2_eq (b0 b1 b2 b3 : Nat) (h0 : b0 < 256) (h1 : b1 < 256) (h2 : b2 < 256) (h3 : b3 < 256) :
  A2 (b0 + 256 * (b1 + 256 * (b2 + 256 * b3))) = q2 b0 + 256 * (q2 b1 + 256 * (q2 b2 + 256 * q2 b3)) := by
 unfold A2
 rw [split4 b0 b1 b2 b3 51 3689348814741910323 14411518807585587 56294995342131 219902325555 h0 h1 h2 h3 (by decide) (by decide) (by decide) (by decide) 858993459 (by decide)]
 rw [show (b0 + 256 * (b1 + 256 * (b2 + 256 * b3))) / 4 = (b0 / 4 + 64 * (b1 % 4)) + 256 * ((b1 / 4 + 64 * (b2 % 4)) + 256 * ((b2 / 4 + 64 * (b3 % 4)) + 256 * (b3 / 4))) from by omega]
 rw [split4 _ _ _ _ 51 3689348814741910323 14411518807585587 56294995342131 219902325555 (by omega) (by omega) (by omega) (by omega) (by decide) (by decide) (by decide) (by decide) 858993459 (by decide)]
 have r0 := q2_hi ⟨b0, h0⟩ ⟨b1 % 4, by omega⟩
 have r1 := q2_hi ⟨b1, h1⟩ ⟨b2 % 4, by omega⟩
 have r2 := q2_hi ⟨b2, h2⟩ ⟨b3 % 4, by omega⟩
 simp only at r0 r1 r2
 rw [r0, r1, r2]
 unfold q2; omega
theorem A3_eq (b0 b1 b2 b3 : Nat) (h0 : b0 < 69) (h1 : b1 < 69) (h2 : b2 < 69) (h3 : b3 < 69) (l0 : b0 % 16 ≤ 4) (l1 : b1 % 16 ≤ 4) (l2 : b2 % 16 ≤ 4) (l3 : b3 % 16 ≤ 4) :
  A3 (b0 + 256 * (b1 + 256 * (b2 + 256 * b3))) = q3 b0 + 256 * (q3 b1 + 256 * (q3 b2 + 256 * q3 b3)) := by
 unfold A3
 obtain ⟨c0, d0⟩ := q3_hi ⟨b0, h0⟩ ⟨b1 % 16, by omega⟩ l0 l1
 obtain ⟨c1, d1⟩ := q3_hi ⟨b1, h1⟩ ⟨b2 % 16, by omega⟩ l1 l2
 obtain ⟨c2, d2⟩ := q3_hi ⟨b2, h2⟩ ⟨b3 % 16, by omega⟩ l2 l3
 obtain ⟨c3, d3⟩ := q3_hi ⟨b3, h3⟩ ⟨0, by omega⟩ l3 (by simp)
 simp only [Nat.mul_zero, Nat.add_zero] at c0 c1 c2 c3 d0 d1 d2 d3
 rw [show (b0 + 256 * (b1 + 256 * (b2 + 256 * b3))) / 16 + (b0 + 256 * (b1 + 256 * (b2 + 256 * b3))) = (b0 / 16 + 16 * (b1 % 16) + b0) + 256 * ((b1 / 16 + 16 * (b2 % 16) + b1) + 256 * ((b2 / 16 + 16 * (b3 % 16) + b2) + 256 * (b3 / 16 + b3))) from by omega]
 rw [split4 _ _ _ _ 15 1085102592571150095 4238682002231055 16557351571215 64677154575 c0 c1 c2 c3 (by decide) (by decide) (by decide) (by decide) 252645135 (by decide)]
 rw [d0, d1, d2, d3]
theorem A_all (n : Nat) (h : n < 4294967296) : A3 (A2 (A1 n)) = pop (n % 256) + 256 * (pop (n / 256 % 256) + 256 * (pop (n / 65536 % 256) + 256 * pop (n / 16777216))) := by
 have e : n = n % 256 + 256 * (n / 256 % 256 + 256 * (n / 65536 % 256 + 256 * (n / 16777216))) := by omega
 have h0 : n % 256 < 256 := by omega
 have h1 : n / 256 % 256 < 256 := by omega
 have h2 : n / 65536 % 256 < 256 := by omega
 have h3 : n / 16777216 < 256 := by omega
 generalize n % 256 = b0 at *
 generalize n / 256 % 256 = b1 at *
 generalize n / 65536 % 256 = b2 at *
 generalize n / 16777216 = b3 at *
 rw [e, A1_eq _ _ _ _ h0 h1 h2 h3]
 have f0 := q1_lt ⟨b0, h0⟩; have f1 := q1_lt ⟨b1, h1⟩; have f2 := q1_lt ⟨b2, h2⟩; have f3 := q1_lt ⟨b3, h3⟩
 rw [A2_eq _ _ _ _ f0 f1 f2 f3]
 exact A3_eq _ _ _ _ (q2_lt ⟨b0, h0⟩) (q2_lt ⟨b1, h1⟩) (q2_lt ⟨b2, h2⟩) (q2_lt ⟨b3, h3⟩) (q2_low ⟨b0, h0⟩) (q2_low ⟨b1, h1⟩) (q2_low ⟨b2, h2⟩) (q2_low ⟨b3, h3⟩)

/-! ### counting bits: as the walk has it -/
def a1 (n : Int) : Int := IntKind.u64.wrap (bits .and .u64 (n / 2) 6148914691236517205 + bits .and .u64 n 6148914691236517205)
def a2 (n : Int) : Int := IntKind.u64.wrap (bits .and .u64 (n / 4) 3689348814741910323 + bits .and .u64 n 3689348814741910323)
def a3 (n : Int) : Int := bits .and .u64 (IntKind.u64.wrap (n / 16 + n)) 1085102592571150095
def a4 (n : Int) : Int := IntKind.u64.wrap (n + n / 256)
def a5 (n : Int) : Int := IntKind.u64.wrap (n + n / 65536)
def a6 (n : Int) : Int := IntKind.u64.wrap (n + n / 4294967296)
def popI (n : Int) : Int := bits .and .i64 (wrap64 (a6 (a5 (a4 (a3 (a2 (a1 n))))))) 127
theorem and_le (a b : Nat) : a &&& b ≤ a := Nat.and_le_left
theorem a1_eq (n : Nat) (h : n < 4294967296) : a1 n = (A1 n : Nat) ∧ A1 n < 8589934592 := by
 have e : ((n : Int) / 2) = ((n / 2 : Nat) : Int) := by omega
 have k1 := and_le (n / 2) 6148914691236517205
 have k2 := and_le n 6148914691236517205
 refine ⟨?_, by unfold A1; omega⟩
 unfold a1 A1
 rw [e, show (6148914691236517205 : Int) = ((6148914691236517205 : Nat) : Int) from rfl, u64_and_nat _ _ (by omega) (by omega), u64_and_nat _ _ (by omega) (by omega), wrap_u64]
 omega
theorem a2_eq (n : Nat) (h : n < 8589934592) : a2 n = (A2 n : Nat) ∧ A2 n < 17179869184 := by
 have e : ((n : Int) / 4) = ((n / 4 : Nat) : Int) := by omega
 have k1 := and_le (n / 4) 3689348814741910323
 have k2 := and_le n 3689348814741910323
 refine ⟨?_, by unfold A2; omega⟩
 unfold a2 A2
 rw [e, show (3689348814741910323 : Int) = ((3689348814741910323 : Nat) : Int) from rfl, u64_and_nat _ _ (by omega) (by omega), u64_and_nat _ _ (by omega) (by omega), wrap_u64]
 omega
theorem a3_eq (n : Nat) (h : n < 17179869184) : a3 n = (A3 n : Nat) := by
 have e : IntKind.u64.wrap ((n : Int) / 16 + n) = ((n / 16 + n : Nat) : Int) := by rw [wrap_u64]; omega
 unfold a3 A3
 rw [e, show (1085102592571150095 : Int) = ((1085102592571150095 : Nat) : Int) from rfl, u64_and_nat _ _ (by omega) (by omega)]
theorem low7 (n : Int) (h0 : 0 ≤ n) (h1 : n < 9223372036854775808) : bits .and .i64 n 127 = n % 128 := by
 have := bits_mask .i64 63 (by decide) (fun m h0 h1 => by rw [IntKind.wrap_i64]; omega) 7 (by decide) n h0 h1
 simpa using this
theorem a5_at (r q n m : Nat) (hr : r < 65536) (hn : n = r + 65536 * q) (hm : m = n + q) (hb : m < 18446744073709551616) : a5 (n : Int) = (m : Nat) := by
 have d : n / 65536 = q := by rw [hn, Nat.add_mul_div_left _ _ (by decide), Nat.div_eq_of_lt hr]; omega
 have e : ((n : Int) / 65536) = ((n / 65536 : Nat) : Int) := by omega
 unfold a5
 rw [e, d, wrap_u64]; omega
theorem a6_at (n : Nat) (h : n < 4294967296) : a6 (n : Int) = (n : Nat) := by
 have d : n / 4294967296 = 0 := Nat.div_eq_of_lt h
 have e : ((n : Int) / 4294967296) = ((n / 4294967296 : Nat) : Int) := by omega
 unfold a6
 rw [e, d, wrap_u64]; omega
theorem low_at (n c q : Nat) (hc : c < 128) (hn : n = c + 256 * q) (hb : n < 4294967296) : bits .and .i64 (wrap64 (n : Int)) 127 = (c : Nat) := by
 unfold wrap64; rw [low7 _ (by omega) (by omega)]; omega
theorem popI_eq (n : Nat) (h : n < 4294967296) : popI n = ((pop (n % 256) + pop (n / 256 % 256) + pop (n / 65536 % 256) + pop (n / 16777216) : Nat) : Int) := by
 obtain ⟨e1, l1⟩ := a1_eq n h
 obtain ⟨e2, l2⟩ := a2_eq _ l1
 have e3 := a3_eq _ l2
 have h3 := A_all n h
 have p0 := pop_le ⟨n % 256, by omega⟩; have p1 := pop_le ⟨n / 256 % 256, by omega⟩; have p2 := pop_le ⟨n / 65536 % 256, by omega⟩; have p3 := pop_le ⟨n / 16777216, by omega⟩
 simp only at p0 p1 p2 p3
 unfold popI
 rw [e1, e2, e3, h3]
 generalize pop (n % 256) = c0 at *
 generalize pop (n / 256 % 256) = c1 at *
 generalize pop (n / 65536 % 256) = c2 at *
 generalize pop (n / 16777216) = c3 at *
 have e4 : a4 ((c0 + 256 * (c1 + 256 * (c2 + 256 * c3)) : Nat) : Int) = ((c0 + c1) + 256 * ((c1 + c2) + 256 * ((c2 + c3) + 256 * c3)) : Nat) := by unfold a4; rw [wrap_u64]; omega
 have e5 : a5 (((c0 + c1) + 256 * ((c1 + c2) + 256 * ((c2 + c3) + 256 * c3)) : Nat) : Int) = ((c0 + c1 + c2 + c3) + 256 * ((c1 + c2 + c3) + 256 * ((c2 + c3) + 256 * c3)) : Nat) :=
  a5_at ((c0 + c1) + 256 * (c1 + c2)) (c2 + c3 + 256 * c3) _ _ (by omega) (by omega) (by omega) (by omega)
 have e6 : a6 (((c0 + c1 + c2 + c3) + 256 * ((c1 + c2 + c3) + 256 * ((c2 + c3) + 256 * c3)) : Nat) : Int) = ((c0 + c1 + c2 + c3) + 256 * ((c1 + c2 + c3) + 256 * ((c2 + c3) + 256 * c3)) : Nat) :=
  a6_at _ (by omega)
 rw [e4, e5, e6]
 exact low_at _ _ ((c1 + c2 + c3) + 256 * ((c2 + c3) + 256 * c3)) (by omega) (by omega) (by omega)
theorem popI_one (n : Int) (h0 : 1 ≤ n) (h1 : n ≤ 16777216) : popI n = 1 ↔ isPow n = true := by
 constructor
 ·obtain ⟨m, rfl⟩ := Int.eq_ofNat_of_zero_le (show 0 ≤ n by omega)
  rw [popI_eq m (by omega)]
  intro h
  have z0 := pop_zero ⟨m % 256, by omega⟩; have z1 := pop_zero ⟨m / 256 % 256, by omega⟩; have z2 := pop_zero ⟨m / 65536 % 256, by omega⟩; have z3 := pop_zero ⟨m / 16777216, by omega⟩
  have o0 := pop_one ⟨m % 256, by omega⟩; have o1 := pop_one ⟨m / 256 % 256, by omega⟩; have o2 := pop_one ⟨m / 65536 % 256, by omega⟩
  simp only at z0 z1 z2 z3 o0 o1 o2
  have hm : m = m % 256 + 256 * (m / 256 % 256 + 256 * (m / 65536 % 256 + 256 * (m / 16777216))) := by omega
  have key : ∃ k : Nat, k ≤ 24 ∧ m = 2 ^ k := by
   generalize pop (m % 256) = c0 at *
   generalize pop (m / 256 % 256) = c1 at *
   generalize pop (m / 65536 % 256) = c2 at *
   generalize pop (m / 16777216) = c3 at *
   have hc : (c0 = 1 ∧ c1 = 0 ∧ c2 = 0 ∧ c3 = 0) ∨ (c0 = 0 ∧ c1 = 1 ∧ c2 = 0 ∧ c3 = 0) ∨ (c0 = 0 ∧ c1 = 0 ∧ c2 = 1 ∧ c3 = 0) ∨ (c0 = 0 ∧ c1 = 0 ∧ c2 = 0) := by omega
   rcases hc with ⟨d0, d1, d2, d3⟩ | ⟨d0, d1, d2, d3⟩ | ⟨d0, d1, d2, d3⟩ | ⟨d0, d1, d2⟩
   ·have y1 := z1 d1; have y2 := z2 d2; have y3 := z3 d3
    rcases o0 d0 with y | y | y | y | y | y | y | y
    ·exact ⟨0, by omega, by omega⟩
    ·exact ⟨1, by omega, by omega⟩
    ·exact ⟨2, by omega, by omega⟩
    ·exact ⟨3, by omega, by omega⟩
    ·exact ⟨4, by omega, by omega⟩
    ·exact ⟨5, by omega, by omega⟩
    ·exact ⟨6, by omega, by omega⟩
    ·exact ⟨7, by omega, by omega⟩
   ·have y1 := z0 d0; have y2 := z2 d2; have y3 := z3 d3
    rcases o1 d1 with y | y | y | y | y | y | y | y
    ·exact ⟨8, by omega, by omega⟩
    ·exact ⟨9, by omega, by omega⟩
    ·exact ⟨10, by omega, by omega⟩
    ·exact ⟨11, by omega, by omega⟩
    ·exact ⟨12, by omega, by omega⟩
    ·exact ⟨13, by omega, by omega⟩
    ·exact ⟨14, by omega, by omega⟩
    ·exact ⟨15, by omega, by omega⟩
   ·have y1 := z0 d0; have y2 := z1 d1; have y3 := z3 d3
    rcases o2 d2 with y | y | y | y | y | y | y | y
    ·exact ⟨16, by omega, by omega⟩
    ·exact ⟨17, by omega, by omega⟩
    ·exact ⟨18, by omega, by omega⟩
    ·exact ⟨19, by omega, by omega⟩
    ·exact ⟨20, by omega, by omega⟩
    ·exact ⟨21, by omega, by omega⟩
    ·exact ⟨22, by omega, by omega⟩
    ·exact ⟨23, by omega, by omega⟩
   ·have y1 := z0 d0; have y2 := z1 d1; have y3 := z2 d2
    exact ⟨24, by omega, by omega⟩
  obtain ⟨k, hk, e⟩ := key
  exact (isPow_iff _).2 ⟨k, hk, by rw [e]; simp [pw]⟩
 ·intro h
  obtain ⟨k, hk, rfl⟩ := (isPow_iff n).1 h
  have e : ∀ k : Fin 25, 2 ^ k.val < 4294967296 ∧ pop (2 ^ k.val % 256) + pop (2 ^ k.val / 256 % 256) + pop (2 ^ k.val / 65536 % 256) + pop (2 ^ k.val / 16777216) = 1 := by decide +kernel
  obtain ⟨e1, e2⟩ := e ⟨k, by omega⟩
  simp only at e1 e2
  rw [show pw k = ((2 ^ k : Nat) : Int) from by simp [pw], popI_eq _ e1, e2]
  rfl

/-! ### what Index and Power return -/
def idxI (s n : Int) : Int := if isPow n = true then s % n else 0
def idxE (n : Int) : Int := if isPow n = true then 0 else 2
end Go.Proofs.YtlmljhnogmfcfaaGreat.Hm
namespace Go.Proofs.YtlmljhnogmfcfaaGreat.Hw
open Go.RowKit Hm

theorem ret_u {a b : Int} (h : a = b) : Ending.returned (.int .u64 a) = .returned (.int .u64 b) := by rw [h]
set_option maxHeartbeats 400000 in
theorem mix_any (a : Int) (w : World) :
  Calls Tryz.prog 183 #[.int .u64 a] w fun e w' => e = .returned (.int .u64 (mixI a)) ∧ w = w' := by
 go_enter Tryz.func183, Tryz.ntmps183
 go_wp2
 go_ret
 exact ⟨rfl, rfl⟩

set_option maxHeartbeats 400000 in
theorem add_any (a c : Int) (w : World) (h2 : 0 ≤ c) (h3 : c < 256) :
  Calls Tryz.prog 182 #[.int .u64 a, .int .u8 c] w fun e w' => e = .returned (.int .u64 (addI a c)) ∧ w = w' := by
 go_enter Tryz.func182, Tryz.ntmps182
 go_wp2
 go_ret
 exact ⟨ret_u (add_walk a c), rfl⟩

set_option maxHeartbeats 400000 in
theorem sum_any (h : Int) (s : ByteArray) (w : World) (hh : U64 h) (hs : s.size ≤ maxLen) :
  Calls Tryz.prog 177 #[.int .u64 h, .string s] w fun e w' => e = .returned (.int .u64 (mixI (sumL h s.data.toList))) ∧ w = w' := by
 unfold maxLen at hs
 go_enter Tryz.func177, Tryz.ntmps177
 go_wp2
 go_loop [5, 10] (fun v i => ∃ k : Nat, k ≤ s.size ∧ i = .int .i64 k ∧ v = .int .u64 (sumL h (s.data.toList.take k))) (fun _ i => s.size - (intOf i).toNat)
 case atStart => exact ⟨0, Nat.zero_le _, rfl, rfl⟩
 case round =>
  obtain ⟨k, hk, rfl, rfl⟩ := hrel
  obtain ⟨b0, b1⟩ := sum_bd (s.data.toList.take k) h hh
  by_cases hlt : k < s.size
  ·have HS : Hid (sumL h (s.data.toList.take (k + 1)) = addI (sumL h (s.data.toList.take k)) s[k].toNat) := sum_take h s k hlt
   have c1 := s[k].toNat_lt
   go_wp2_with (go_at_call 182; refine (add_any _ _ _ (by omega) (by omega)).mono ?_; rintro e w' ⟨rfl, rfl⟩)
   go_round
   case rel => exact ⟨k + 1, by omega, by go_num, by rw [HS.out]⟩
   case measure => simp [intOf]; omega
  ·obtain rfl : k = s.size := by omega
   go_wp2_with (go_at_call 183; refine (mix_any _ _).mono ?_; rintro e w' ⟨rfl, rfl⟩)
   go_ret
   exact ⟨ret_u (by rw [List.take_of_length_le (by simp)]), rfl⟩

/-! ### a list of bytes: its cells -/
/-! ### sizes -/
set_option maxHeartbeats 400000 in
theorem ones_any (n : Int) (w : World) :
  Calls Tryz.prog 194 #[.int .u64 n] w fun e w' => e = .returned (.int .i64 (popI n)) ∧ w = w' := by
 go_enter Tryz.func194, Tryz.ntmps194
 go_wp2
 go_ret
 exact ⟨rfl, rfl⟩

set_option maxHeartbeats 400000 in
theorem isSize_any (n : Int) (w : World) (h0 : -9223372036854775808 ≤ n) (h1 : n ≤ 9223372036854775807) :
  Calls Tryz.prog 181 #[.int .i64 n] w fun e w' => e = .returned (.bool (isPow n)) ∧ w = w' := by
 by_cases ha : 1 ≤ n
 ·by_cases hb : n ≤ 16777216
  ·by_cases hp : isPow n = true
   ·have hq : (popI n == 1) = true := by simpa using (popI_one n ha hb).2 hp
    have HP := Lib.hid hp; clear hp
    go_enter Tryz.func181, Tryz.ntmps181
    go_wp2_with (go_at_call 194; refine (ones_any _ _).mono ?_; rintro e w' ⟨rfl, rfl⟩)
    go_ret
    exact ⟨by rw [HP.out]; rfl, rfl⟩
   ·have hq : (popI n == 1) = false := by
     rw [beq_eq_false_iff_ne]; exact fun e => hp ((popI_one n ha hb).1 e)
    have HP : Hid (isPow n = false) := by
     show _ = _
     rw [Bool.eq_false_iff]; exact hp
    clear hp
    go_enter Tryz.func181, Tryz.ntmps181
    go_wp2_with (go_at_call 194; refine (ones_any _ _).mono ?_; rintro e w' ⟨rfl, rfl⟩)
    go_ret
    exact ⟨by rw [HP.out]; rfl, rfl⟩
  ·have HP : Hid (isPow n = false) := by
    show _ = _
    rw [Bool.eq_false_iff]; exact fun e => by have := isPow_bd n e; omega
   go_enter Tryz.func181, Tryz.ntmps181
   go_wp2
   go_ret
   exact ⟨by rw [HP.out]; rfl, rfl⟩
 ·have HP : Hid (isPow n = false) := by
   show _ = _
   rw [Bool.eq_false_iff]; exact fun e => by have := isPow_bd n e; omega
  go_enter Tryz.func181, Tryz.ntmps181
  go_wp2
  go_ret
  exact ⟨by rw [HP.out]; rfl, rfl⟩

/-! ### the index -/
theorem isSize_yes (n : Int) (w : World) (h : isPow n = true) : Calls Tryz.prog 181 #[.int .i64 n] w fun e w' => e = .returned (.bool true) ∧ w = w' := by
 have hb := isPow_bd n h
 have := isSize_any n w (by omega) (by omega)
 rwa [h] at this
theorem isSize_no (n : Int) (w : World) (h0 : -9223372036854775808 ≤ n) (h1 : n ≤ 9223372036854775807) (h : isPow n = false) : Calls Tryz.prog 181 #[.int .i64 n] w fun e w' => e = .returned (.bool false) ∧ w = w' := by
 have := isSize_any n w h0 h1
 rwa [h] at this
theorem ret_two {a b c d : Int} (h : a = b) (k : c = d) : Ending.returned (.tuple #[.int .i64 a, .int .i64 c]) = .returned (.tuple #[.int .i64 b, .int .i64 d]) := by rw [h, k]

set_option maxHeartbeats 400000 in
theorem hindex_any (s n : Int) (w : World) (hs : U64 s) (h0 : -9223372036854775808 ≤ n) (h1 : n ≤ 9223372036854775807) :
  Calls Tryz.prog 176 #[.int .u64 s, .int .i64 n] w fun e w' => e = .returned (.tuple #[.int .i64 (idxI s n), .int .i64 (idxE n)]) ∧ w = w' := by
 by_cases hp : isPow n = true
 ·obtain ⟨b1, b2⟩ := isPow_bd n hp
  obtain ⟨b3, b4⟩ := hs
  have b5 : 0 ≤ s % n := Int.emod_nonneg _ (by omega)
  have b6 : s % n < n := Int.emod_lt_of_pos _ (by omega)
  have HP := Lib.hid hp; clear hp
  go_enter Tryz.func176, Tryz.ntmps176
  go_wp2_with (go_at_call 181; refine (isSize_yes _ _ HP.out).mono ?_; rintro e w' ⟨rfl, rfl⟩)
  go_ret2
  exact ⟨ret_two (by rw [idxI, if_pos HP.out]) (by rw [idxE, if_pos HP.out]), rfl⟩
 ·have HP : Hid (isPow n = false) := by
   show _ = _
   rw [Bool.eq_false_iff]; exact hp
  have HP' := Lib.hid hp; clear hp
  go_enter Tryz.func176, Tryz.ntmps176
  go_wp2_with (go_at_call 181; refine (isSize_no _ _ h0 h1 HP.out).mono ?_; rintro e w' ⟨rfl, rfl⟩)
  go_ret2
  exact ⟨ret_two (by rw [idxI, if_neg HP'.out]) (by rw [idxE, if_neg HP'.out]), rfl⟩

/-! ### the power -/
end Go.Proofs.YtlmljhnogmfcfaaGreat.Hw
namespace Go.Proofs.YtlmljhnogmfcfaaGreat.Tm

def pos (n a j : Nat) : Nat := if a + j < n then a + j else a + j - n
def way (n a b : Nat) : Nat := if a ≤ b then b - a else b + n - a
theorem pos_lt {n a j : Nat} (ha : a < n) (hj : j < n) : pos n a j < n := by unfold pos; split <;> omega
theorem way_lt {n a b : Nat} (ha : a < n) (hb : b < n) : way n a b < n := by unfold way; split <;> omega
theorem pos_way {n a b : Nat} (ha : a < n) (hb : b < n) : pos n a (way n a b) = b := by unfold pos way; split <;> split <;> omega
theorem way_pos {n a j : Nat} (ha : a < n) (hj : j < n) : way n a (pos n a j) = j := by unfold pos way; split <;> split <;> omega
theorem pos_zero {n a : Nat} (ha : a < n) : pos n a 0 = a := by unfold pos; split <;> omega
theorem pos_succ {n a j : Nat} (ha : a < n) (hj : j + 1 < n) : pos n (pos n a j) 1 = pos n a (j + 1) := by unfold pos; split <;> split <;> split <;> omega
theorem pos_one_mod {n i : Nat} (hi : i < n) : (i + 1) % n = pos n i 1 := by
 unfold pos
 split
 ·exact Nat.mod_eq_of_lt (by omega)
 ·have : i + 1 = n := by omega
  rw [this, Nat.mod_self]; omega
theorem way_mod {n a b : Nat} (ha : a < n) (hb : b < n) : (b + n - a) % n = way n a b := by
 unfold way
 split
 ·rw [show b + n - a = b - a + n by omega, Nat.add_mod_right]; exact Nat.mod_eq_of_lt (by omega)
 ·exact Nat.mod_eq_of_lt (by omega)

section
variable {κ : Type}
abbrev Cell (κ : Type) := Option (κ × Nat)
structure First (c : List (Cell κ)) (p : Cell κ → Bool) (a J : Nat) : Prop where
 lt : J < c.length
 hit : p (c.getD (pos c.length a J) none) = true
 miss : ∀ j, j < J → p (c.getD (pos c.length a j) none) = false
def fst (c : List (Cell κ)) (p : Cell κ → Bool) (a : Nat) : Nat := ((List.range c.length).find? fun j => p (c.getD (pos c.length a j) none)).getD 0
theorem First.fst_eq {c : List (Cell κ)} {p : Cell κ → Bool} {a J : Nat} (h : First c p a J) : fst c p a = J := by
 unfold fst
 have e : (List.range c.length).find? (fun j => p (c.getD (pos c.length a j) none)) = some J := by
  rw [List.find?_range_eq_some]
  exact ⟨h.hit, List.mem_range.2 h.lt, fun j hj => by rw [h.miss j hj]; rfl⟩
 rw [e]; rfl
theorem least {p : Nat → Bool} : ∀ n, (∃ j, j < n ∧ p j = true) → ∃ J, J < n ∧ p J = true ∧ ∀ j, j < J → p j = false
 | 0, ⟨j, hj, _⟩ => by omega
 | n + 1, ⟨j, hj, hp⟩ => by
  by_cases h : ∃ j, j < n ∧ p j = true
  ·obtain ⟨J, h1, h2⟩ := least n h
   exact ⟨J, by omega, h2⟩
  ·have hall : ∀ j, j < n → p j = false := fun j hj => by
    cases e : p j
    ·rfl
    ·exact absurd ⟨j, hj, e⟩ h
   have : j = n := by
    rcases Nat.lt_or_ge j n with h1 | h1
    ·rw [hall j h1] at hp; cases hp
    ·omega
   subst this
   exact ⟨j, by omega, hp, hall⟩
theorem first_any {c : List (Cell κ)} {p : Cell κ → Bool} {a : Nat} (ha : a < c.length) (h : ∃ o ∈ c, p o = true) : First c p a (fst c p a) := by
 obtain ⟨o, ho, hp⟩ := h
 obtain ⟨i, hi, rfl⟩ := List.mem_iff_getElem.1 ho
 obtain ⟨J, h1, h2, h3⟩ := least (p := fun j => p (c.getD (pos c.length a j) none)) c.length ⟨way c.length a i, way_lt ha hi, by rw [pos_way ha hi, List.getD_eq_getElem?_getD, List.getElem?_eq_getElem hi]; exact hp⟩
 have hF : First c p a J := ⟨h1, h2, h3⟩
 rw [hF.fst_eq]; exact hF
def gap (c : List (Cell κ)) (a : Nat) : Nat := pos c.length a (fst c Option.isNone a)
theorem gap_spec {c : List (Cell κ)} {a : Nat} (ha : a < c.length) (hf : none ∈ c) : gap c a < c.length ∧ c[gap c a]? = some none ∧ ∀ j, j < way c.length a (gap c a) → c[pos c.length a j]? ≠ some none := by
 have h := first_any (p := Option.isNone) ha ⟨none, hf, rfl⟩
 have hlt : gap c a < c.length := pos_lt ha h.lt
 refine ⟨hlt, ?_, fun j hj e => ?_⟩
 ·have := h.hit
  rw [List.getD_eq_getElem?_getD] at this
  unfold gap at hlt ⊢
  rw [List.getElem?_eq_getElem hlt] at this ⊢
  simp at this
  rw [this]
 ·unfold gap at hj
  rw [way_pos ha h.lt] at hj
  have := h.miss j hj
  rw [List.getD_eq_getElem?_getD, e] at this
  cases this
structure Tab (h : κ → Nat) (c : List (Cell κ)) : Prop where
 home : ∀ k, h k < c.length
 one : ∀ (i j : Nat) (k : κ) (x y : Nat), c[i]? = some (some (k, x)) → c[j]? = some (some (k, y)) → i = j
 path : ∀ (i : Nat) (k : κ) (x : Nat), c[i]? = some (some (k, x)) → ∀ j, j < way c.length (h k) i → c[pos c.length (h k) j]? ≠ some none
theorem tab_empty {h : κ → Nat} {n : Nat} (hh : ∀ k, h k < n) : Tab h (List.replicate n none) := by
 have e : ∀ (i : Nat) (o : κ × Nat), (List.replicate n (none : Cell κ))[i]? ≠ some (some o) := fun i o e => by
  rw [List.getElem?_replicate] at e
  split at e <;> cases e
 exact ⟨fun k => by rw [List.length_replicate]; exact hh k, fun i j k x y h1 => absurd h1 (e _ _), fun i k x h1 => absurd h1 (e _ _)⟩
theorem lt_of_some {c : List (Cell κ)} {i : Nat} {o : Cell κ} (h : c[i]? = some o) : i < c.length := (List.getElem?_eq_some_iff.1 h).1
def cnt (c : List (Cell κ)) : Nat := c.countP Option.isSome
theorem cnt_le (c : List (Cell κ)) : cnt c ≤ c.length := List.countP_le_length
theorem free_of_cnt {c : List (Cell κ)} (h : cnt c < c.length) : none ∈ c := by
 refine Classical.byContradiction fun hn => ?_
 have e : cnt c = c.length := List.countP_eq_length.2 fun o ho => by
  cases o with
  | none => exact absurd ho hn
  | some _ => rfl
 omega
theorem cnt_fill : ∀ (c : List (Cell κ)) (i : Nat) (o : κ × Nat), c[i]? = some none → cnt (c.set i (some o)) = cnt c + 1
 | [], i, o, h => by simp at h
 | d :: r, 0, o, h => by
  simp at h; subst h
  unfold cnt; rw [List.set_cons_zero, List.countP_cons, List.countP_cons]; simp
 | d :: r, i + 1, o, h => by
  have ih := cnt_fill r i o (by simpa using h)
  unfold cnt at ih ⊢
  rw [List.set_cons_succ, List.countP_cons, List.countP_cons, ih]; omega
theorem cnt_keep : ∀ (c : List (Cell κ)) (i : Nat) (o o' : κ × Nat), c[i]? = some (some o') → cnt (c.set i (some o)) = cnt c
 | [], i, o, o', h => by simp at h
 | d :: r, 0, o, o', h => by
  simp at h; subst h
  unfold cnt; rw [List.set_cons_zero, List.countP_cons, List.countP_cons]; simp
 | d :: r, i + 1, o, o', h => by
  have ih := cnt_keep r i o o' (by simpa using h)
  unfold cnt at ih ⊢
  rw [List.set_cons_succ, List.countP_cons, List.countP_cons, ih]
theorem cnt_free : ∀ (c : List (Cell κ)) (i : Nat) (o : κ × Nat), c[i]? = some (some o) → cnt (c.set i none) + 1 = cnt c
 | [], i, o, h => by simp at h
 | d :: r, 0, o, h => by
  simp at h; subst h
  unfold cnt; rw [List.set_cons_zero, List.countP_cons, List.countP_cons]; simp
 | d :: r, i + 1, o, h => by
  have ih := cnt_free r i o (by simpa using h)
  unfold cnt at ih ⊢
  rw [List.set_cons_succ, List.countP_cons, List.countP_cons]; omega
theorem get_set (c : List (Cell κ)) {q : Nat} (hq : q < c.length) (o : Cell κ) (i : Nat) : (c.set q o)[i]? = if i = q then some o else c[i]? := by
 by_cases e : i = q
 ·subst e; rw [if_pos rfl, List.getElem?_set_self hq]
 ·rw [if_neg e, List.getElem?_set_ne (fun h => e h.symm)]
def putC (h : κ → Nat) (c : List (Cell κ)) (k : κ) (x : Nat) : List (Cell κ) := c.set (gap c (h k)) (some (k, x))
theorem put_tab {h : κ → Nat} {c : List (Cell κ)} (t : Tab h c) (hf : none ∈ c) {k : κ} (hk : ∀ y, some (k, y) ∉ c) (x : Nat) :
  Tab h (putC h c k x) ∧ (putC h c k x).length = c.length ∧ cnt (putC h c k x) = cnt c + 1 ∧ ∀ o, some o ∈ putC h c k x ↔ o = (k, x) ∨ some o ∈ c := by
 obtain ⟨g1, g2, g3⟩ := gap_spec (t.home k) hf
 unfold putC
 obtain ⟨q, hq⟩ : ∃ q, q = gap c (h k) := ⟨_, rfl⟩
 rw [← hq] at g1 g2 g3 ⊢
 have hk' : ∀ i y, c[i]? ≠ some (some (k, y)) := fun i y e => hk y (List.mem_of_getElem? e)
 refine ⟨⟨fun k' => by rw [List.length_set]; exact t.home k', fun i j k' x' y' h1 h2 => ?_, fun i k' x' h1 j hj => ?_⟩, List.length_set, cnt_fill c q _ g2, fun o => ⟨fun ho => ?_, fun ho => ?_⟩⟩
 ·rw [get_set c g1] at h1 h2
  split at h1 <;> split at h2
  ·omega
  ·simp only [Option.some.injEq, Prod.mk.injEq] at h1
   rw [← h1.1] at h2; exact absurd h2 (hk' _ _)
  ·simp only [Option.some.injEq, Prod.mk.injEq] at h2
   rw [← h2.1] at h1; exact absurd h1 (hk' _ _)
  ·exact t.one i j k' x' y' h1 h2
 ·rw [List.length_set] at hj ⊢
  rw [get_set c g1] at h1 ⊢
  split
  ·exact fun e => by cases e
  ·split at h1
   ·simp only [Option.some.injEq, Prod.mk.injEq] at h1
    obtain ⟨rfl, rfl⟩ := h1
    rename_i ei en; subst ei
    exact g3 j hj
   ·exact t.path i k' x' h1 j hj
 ·obtain ⟨i, hi⟩ := List.mem_iff_getElem?.1 ho
  rw [get_set c g1] at hi
  split at hi
  ·simp only [Option.some.injEq] at hi; exact Or.inl hi.symm
  ·exact Or.inr (List.mem_of_getElem? hi)
 ·rcases ho with rfl | ho
  ·exact List.mem_of_getElem? (i := q) (by rw [get_set c g1, if_pos rfl])
  ·obtain ⟨i, hi⟩ := List.mem_iff_getElem?.1 ho
   exact List.mem_of_getElem? (i := i) (by rw [get_set c g1, if_neg (fun e => by rw [e, g2] at hi; cases hi)]; exact hi)
def fillC (h : κ → Nat) : List (Cell κ) → List (Cell κ) → List (Cell κ)
 | [], out => out
 | none :: r, out => fillC h r out
 | some (k, x) :: r, out => fillC h r (putC h out k x)
def Apart (l : List (Cell κ)) : Prop := l.Pairwise fun a b => ∀ (k : κ) (x y : Nat), a = some (k, x) → b ≠ some (k, y)
theorem tab_apart {h : κ → Nat} {c : List (Cell κ)} (t : Tab h c) : Apart c := by
 unfold Apart
 rw [List.pairwise_iff_getElem]
 intro i j hi hj hij k x y h1 h2
 have := t.one i j k x y (by rw [List.getElem?_eq_getElem hi, h1]) (by rw [List.getElem?_eq_getElem hj, h2])
 omega
theorem fill_tab {h : κ → Nat} : ∀ (l out : List (Cell κ)), Tab h out → Apart l → (∀ k x y, some (k, x) ∈ l → some (k, y) ∉ out) → cnt out + cnt l ≤ out.length →
  Tab h (fillC h l out) ∧ (fillC h l out).length = out.length ∧ cnt (fillC h l out) = cnt out + cnt l ∧ ∀ o, some o ∈ fillC h l out ↔ some o ∈ l ∨ some o ∈ out
 | [], out, t, _, _, _ => ⟨t, rfl, rfl, fun o => by simp [fillC]⟩
 | none :: r, out, t, ha, hd, hc => by
  have hc' : cnt (none :: r) = cnt r := by unfold cnt; rw [List.countP_cons]; simp
  obtain ⟨f1, f2, f3, f4⟩ := fill_tab r out t (List.pairwise_cons.1 ha).2 (fun k x y hm => hd k x y (by simp [hm])) (by omega)
  exact ⟨f1, f2, by rw [hc']; exact f3, fun o => by rw [show fillC h (none :: r) out = fillC h r out from rfl, f4 o]; simp⟩
 | some (k, x) :: r, out, t, ha, hd, hc => by
  have hc' : cnt (some (k, x) :: r) = cnt r + 1 := by unfold cnt; rw [List.countP_cons]; simp
  obtain ⟨a1, a2⟩ := List.pairwise_cons.1 ha
  obtain ⟨p1, p2, p3, p4⟩ := put_tab t (free_of_cnt (by omega)) (k := k) (fun y => hd k x y (by simp)) x
  obtain ⟨f1, f2, f3, f4⟩ := fill_tab r (putC h out k x) p1 a2 (fun k' x' y' hm hn => by
   rcases (p4 _).1 hn with e | hn
   ·simp only [Prod.mk.injEq] at e
    obtain ⟨rfl, _⟩ := e
    exact a1 _ hm k' x x' rfl rfl
   ·exact hd k' x' y' (by simp [hm]) hn) (by omega)
  refine ⟨f1, by rw [show fillC h (some (k, x) :: r) out = fillC h r (putC h out k x) from rfl, f2, p2], by rw [show fillC h (some (k, x) :: r) out = fillC h r (putC h out k x) from rfl, f3, p3, hc']; omega, fun o => ?_⟩
  rw [show fillC h (some (k, x) :: r) out = fillC h r (putC h out k x) from rfl, f4 o, p4 o]
  simp only [List.mem_cons, Option.some.injEq]
  constructor
  ·rintro (h1 | h1 | h1)
   ·exact Or.inl (Or.inr h1)
   ·exact Or.inl (Or.inl h1)
   ·exact Or.inr h1
  ·rintro ((h1 | h1) | h1)
   ·exact Or.inr (Or.inl h1)
   ·exact Or.inl h1
   ·exact Or.inr (Or.inr h1)
def sizeC (h : κ → Nat) (n : Nat) (c : List (Cell κ)) : List (Cell κ) := fillC h c (List.replicate n none)
theorem cnt_none (n : Nat) : cnt (List.replicate n (none : Cell κ)) = 0 := by unfold cnt; rw [List.countP_replicate]; simp
theorem size_tab {h h' : κ → Nat} {c : List (Cell κ)} (t : Tab h c) {n : Nat} (hh : ∀ k, h' k < n) (hn : cnt c ≤ n) :
  Tab h' (sizeC h' n c) ∧ (sizeC h' n c).length = n ∧ cnt (sizeC h' n c) = cnt c ∧ ∀ o, some o ∈ sizeC h' n c ↔ some o ∈ c := by
 obtain ⟨f1, f2, f3, f4⟩ := fill_tab c _ (tab_empty hh) (tab_apart t) (fun k x y _ hm => by have := List.eq_of_mem_replicate hm; cases this) (by rw [cnt_none, List.length_replicate]; omega)
 refine ⟨f1, by unfold sizeC; rw [f2, List.length_replicate], by unfold sizeC; rw [f3, cnt_none]; omega, fun o => by
  unfold sizeC
  rw [f4 o]
  refine ⟨fun h => h.elim id (fun hm => ?_), Or.inl⟩
  have := List.eq_of_mem_replicate hm; cases this⟩
end
end Go.Proofs.YtlmljhnogmfcfaaGreat.Tm
namespace Go.Proofs.YtlmljhnogmfcfaaGreat.Tn
open Tm

section
variable {κ : Type} [DecidableEq κ]
def stop (k : κ) : Cell κ → Bool
 | none => true
 | some (k', _) => decide (k' = k)
def isK (k : κ) : Cell κ → Bool
 | none => false
 | some (k', _) => decide (k' = k)
theorem look_there {h : κ → Nat} {c : List (Cell κ)} (t : Tab h c) {i : Nat} {k : κ} {x : Nat} (hi : c[i]? = some (some (k, x))) : First c (stop k) (h k) (way c.length (h k) i) := by
 have hlt := lt_of_some hi
 refine ⟨way_lt (t.home k) hlt, ?_, fun j hj => ?_⟩
 ·rw [pos_way (t.home k) hlt, List.getD_eq_getElem?_getD, hi]; simp [stop]
 ·have hp := t.path i k x hi j hj
  have hjn : j < c.length := Nat.lt_trans hj (way_lt (t.home k) hlt)
  have hpl := pos_lt (t.home k) hjn
  rw [List.getD_eq_getElem?_getD]
  cases e : c[pos c.length (h k) j]? with
  | none => rw [List.getElem?_eq_none_iff] at e; omega
  | some o =>
   cases o with
   | none => exact absurd e hp
   | some ky =>
    obtain ⟨k', y⟩ := ky
    simp only [Option.getD_some, stop, decide_eq_false_iff_not]
    rintro rfl
    have e2 := t.one _ _ k' y x e hi
    have e3 : way c.length (h k') i = j := by rw [← e2]; exact way_pos (t.home k') hjn
    omega
theorem look_gone {c : List (Cell κ)} {a : Nat} (ha : a < c.length) {k : κ} (hk : ∀ y, some (k, y) ∉ c) {J : Nat} : First c (stop k) a J ↔ First c Option.isNone a J := by
 have e : ∀ j, j < c.length → stop k (c.getD (pos c.length a j) none) = (c.getD (pos c.length a j) none).isNone := fun j hj => by
  have hpl := pos_lt ha hj
  rw [List.getD_eq_getElem?_getD, List.getElem?_eq_getElem hpl]
  simp only [Option.getD_some]
  cases e : c[pos c.length a j] with
  | none => rfl
  | some ky =>
   obtain ⟨k', y⟩ := ky
   simp only [stop, Option.isNone_some, decide_eq_false_iff_not]
   rintro rfl
   exact hk y (by rw [← e]; exact List.getElem_mem hpl)
 constructor
 ·intro h; exact ⟨h.lt, by rw [← e _ h.lt]; exact h.hit, fun j hj => by rw [← e j (by have := h.lt; omega)]; exact h.miss j hj⟩
 ·intro h; exact ⟨h.lt, by rw [e _ h.lt]; exact h.hit, fun j hj => by rw [e j (by have := h.lt; omega)]; exact h.miss j hj⟩

end
section
variable {κ : Type}
def holeC (h : κ → Nat) : Nat → List (Cell κ) → Nat → Nat → List (Cell κ)
 | 0, c, q, _ => c.set q none
 | f + 1, c, q, i =>
  match c.getD i none with
  | none => c.set q none
  | some (k, x) => if way c.length (h k) q < way c.length (h k) i then holeC h f (c.set q (some (k, x))) i (pos c.length i 1) else holeC h f c q (pos c.length i 1)
structure Hole (h : κ → Nat) (c : List (Cell κ)) (q i z : Nat) : Prop where
 home : ∀ k, h k < c.length
 q_lt : q < c.length
 i_lt : i < c.length
 ne : i ≠ q
 full : ∃ o, c[q]? = some (some o)
 free : c[z]? = some none
 one : ∀ (a b : Nat) (k : κ) (x y : Nat), a ≠ q → b ≠ q → c[a]? = some (some (k, x)) → c[b]? = some (some (k, y)) → a = b
 path : ∀ (a : Nat) (k : κ) (x : Nat), a ≠ q → c[a]? = some (some (k, x)) → ∀ j, j < way c.length (h k) a → c[pos c.length (h k) j]? ≠ some none ∧ (pos c.length (h k) j = q → way c.length q i ≤ way c.length q a)
 fill : ∀ j, j < way c.length q i → c[pos c.length q j]? ≠ some none
def Rest (c : List (Cell κ)) (q : Nat) (o : κ × Nat) : Prop := ∃ a, a ≠ q ∧ c[a]? = some (some o)
theorem way_zero {n a b : Nat} (ha : a < n) (h : way n a b = 0) : a = b := by unfold way at h; split at h <;> omega
theorem way_self {n a : Nat} : way n a a = 0 := by unfold way; split <;> omega
theorem way_one {n a b : Nat} (ha : a < n) (hn : a ≠ b) : 1 ≤ way n a b := by
 rcases Nat.eq_zero_or_pos (way n a b) with h | h
 ·exact absurd (way_zero ha h) hn
 ·exact h
theorem way_next {n i : Nat} (hi : i < n) (hn : 2 ≤ n) : way n i (pos n i 1) = 1 := way_pos hi (by omega)
theorem way_step {n q i : Nat} (hq : q < n) (hi : i < n) (hw : way n q i + 1 < n) : way n q (pos n i 1) = way n q i + 1 := by
 unfold way pos at *
 split at hw <;> split <;> split <;> omega
theorem way_less {n i z : Nat} (hi : i < n) (hz : z < n) (hne : i ≠ z) : way n (pos n i 1) z + 1 = way n i z := by
 unfold way pos; split <;> split <;> split <;> omega
theorem way_mid {n a q b j : Nat} (hq : q < n) (hb : b < n) (hj : j < way n a b) (e : pos n a j = q) : way n a b = j + way n q b := by
 subst e
 unfold way pos at *
 split at hj <;> split <;> split <;> (try split) <;> omega
theorem pos_add {n a q j m : Nat} (ha : a < n) (hj : j + m < n) (e : pos n a j = q) : pos n q m = pos n a (j + m) := by
 subst e; unfold pos; split <;> split <;> split <;> omega
theorem hole_start {h : κ → Nat} {c : List (Cell κ)} (t : Tab h c) {q z : Nat} {o : κ × Nat} (hq : c[q]? = some (some o)) (hz : c[z]? = some none) (hn : 2 ≤ c.length) : Hole h c q (pos c.length q 1) z := by
 have hlt := lt_of_some hq
 have hw := way_next hlt hn
 have hi := pos_lt hlt (show 1 < c.length by omega)
 refine ⟨t.home, hlt, hi, fun e => ?_, ⟨o, hq⟩, hz, fun a b k x y _ _ => t.one a b k x y, fun a k x ha h1 j hj => ⟨t.path a k x h1 j hj, fun _ => ?_⟩, fun j hj => ?_⟩
 ·rw [e, way_self] at hw; omega
 ·rw [hw]; exact way_one hlt (fun e => ha e.symm)
 ·rw [hw] at hj
  have : j = 0 := by omega
  subst this
  rw [pos_zero hlt, hq]; exact fun e => by cases e
theorem hole_skip {h : κ → Nat} {c : List (Cell κ)} {q i z : Nat} (t : Hole h c q i z) {k : κ} {x : Nat} (hi : c[i]? = some (some (k, x))) (hw : ¬ way c.length (h k) q < way c.length (h k) i) : Hole h c q (pos c.length i 1) z := by
 have hzl := lt_of_some t.free
 have hqz : q ≠ z := fun e => by obtain ⟨o, ho⟩ := t.full; rw [e, t.free] at ho; cases ho
 have hiz : i ≠ z := fun e => by rw [e, t.free] at hi; cases hi
 have hlt : way c.length q i + 1 < c.length := by
  rcases Nat.lt_or_ge (way c.length q i + 1) c.length with h1 | h1
  ·exact h1
  ·have h2 := way_lt t.q_lt hzl
   have h3 : way c.length q z ≠ way c.length q i := fun e => hiz (by rw [← pos_way t.q_lt t.i_lt, ← e, pos_way t.q_lt hzl])
   have := t.fill (way c.length q z) (by omega)
   rw [pos_way t.q_lt hzl] at this
   exact absurd t.free this
 have hs := way_step t.q_lt t.i_lt hlt
 have hpl := pos_lt t.i_lt (show 1 < c.length by have := way_one t.q_lt (fun e => t.ne e.symm); omega)
 refine ⟨t.home, t.q_lt, hpl, fun e => by rw [e, way_self] at hs; omega, t.full, t.free, t.one, fun a k' x' ha h1 j hj => ⟨(t.path a k' x' ha h1 j hj).1, fun e => ?_⟩, fun j hj => ?_⟩
 ·have h2 := (t.path a k' x' ha h1 j hj).2 e
  rw [hs]
  rcases Nat.lt_or_ge (way c.length q i) (way c.length q a) with h3 | h3
  ·omega
  ·have hal := lt_of_some h1
   have e2 : a = i := by rw [← pos_way t.q_lt hal, show way c.length q a = way c.length q i by omega, pos_way t.q_lt t.i_lt]
   subst e2
   rw [hi] at h1
   simp only [Option.some.injEq, Prod.mk.injEq] at h1
   obtain ⟨rfl, rfl⟩ := h1
   have e3 : way c.length (h k) q = j := by rw [← e]; exact way_pos (t.home k) (Nat.lt_trans hj (way_lt (t.home k) hal))
   omega
 ·rw [hs] at hj
  rcases Nat.lt_or_ge j (way c.length q i) with h3 | h3
  ·exact t.fill j h3
  ·have : j = way c.length q i := by omega
   subst this
   rw [pos_way t.q_lt t.i_lt, hi]; exact fun e => by cases e
theorem hole_move {h : κ → Nat} {c : List (Cell κ)} {q i z : Nat} (t : Hole h c q i z) {k : κ} {x : Nat} (hi : c[i]? = some (some (k, x))) (hw : way c.length (h k) q < way c.length (h k) i) :
  Hole h (c.set q (some (k, x))) i (pos c.length i 1) z ∧ cnt (c.set q (some (k, x))) = cnt c ∧ ∀ o, Rest (c.set q (some (k, x))) i o ↔ Rest c q o := by
 obtain ⟨o0, ho0⟩ := t.full
 have hqz : z ≠ q := fun e => by rw [← e, t.free] at ho0; cases ho0
 have hn : 2 ≤ c.length := by have := t.i_lt; have := t.q_lt; have := t.ne; omega
 have hpl := pos_lt t.i_lt (show 1 < c.length by omega)
 have hwi := way_next t.i_lt hn
 have hG := get_set c t.q_lt (some (k, x))
 refine ⟨⟨fun k' => by rw [List.length_set]; exact t.home k', by rw [List.length_set]; exact t.i_lt, by rw [List.length_set]; exact hpl, fun e => by rw [e, way_self] at hwi; omega,
  ⟨(k, x), by rw [hG, if_neg t.ne]; exact hi⟩, by rw [hG, if_neg hqz]; exact t.free, fun a b k' x' y' ha hb h1 h2 => ?_, fun a k' x' ha h1 j hj => ?_, fun j hj => ?_⟩, cnt_keep c q _ _ ho0, fun o => ⟨fun ⟨a, ha, h1⟩ => ?_, fun ⟨a, ha, h1⟩ => ?_⟩⟩
 ·rw [hG] at h1 h2
  split at h1 <;> split at h2
  ·omega
  ·simp only [Option.some.injEq, Prod.mk.injEq] at h1
   rename_i hbq
   obtain ⟨rfl, rfl⟩ := h1
   exact absurd (t.one b i k y' x hbq t.ne h2 hi) hb
  ·simp only [Option.some.injEq, Prod.mk.injEq] at h2
   rename_i haq _
   obtain ⟨rfl, rfl⟩ := h2
   exact absurd (t.one a i k x' x haq t.ne h1 hi) ha
  ·rename_i haq hbq
   exact t.one a b k' x' y' haq hbq h1 h2
 ·rw [List.length_set] at hj ⊢
  rw [hG] at h1 ⊢
  by_cases haq : a = q
  ·rw [if_pos haq] at h1
   simp only [Option.some.injEq, Prod.mk.injEq] at h1
   obtain ⟨rfl, rfl⟩ := h1
   rw [haq] at hj ⊢
   have hjn : j < c.length := Nat.lt_trans hj (way_lt (t.home k) t.q_lt)
   have h3 := t.path i k x t.ne hi j (by omega)
   refine ⟨?_, fun e => ?_⟩
   ·split
    ·exact fun e => by cases e
    ·exact h3.1
   ·have := way_pos (t.home k) hjn
    rw [e] at this
    omega
  ·rw [if_neg haq] at h1
   have h3 := t.path a k' x' haq h1 j hj
   refine ⟨?_, fun _ => ?_⟩
   ·split
    ·exact fun e => by cases e
    ·exact h3.1
   ·rw [hwi]
    exact way_one t.i_lt (fun e => ha e.symm)
 ·rw [List.length_set] at hj ⊢
  rw [hwi] at hj
  have : j = 0 := by omega
  subst this
  rw [pos_zero t.i_lt, hG, if_neg t.ne, hi]; exact fun e => by cases e
 ·rw [hG] at h1
  split at h1
  ·simp only [Option.some.injEq] at h1
   subst h1
   exact ⟨i, t.ne, hi⟩
  ·rename_i haq
   exact ⟨a, haq, h1⟩
 ·by_cases e : a = i
  ·subst e
   rw [hi] at h1
   simp only [Option.some.injEq] at h1
   subst h1
   exact ⟨q, fun e => t.ne e.symm, by rw [hG, if_pos rfl]⟩
  ·exact ⟨a, e, by rw [hG, if_neg ha]; exact h1⟩
theorem hole_end {h : κ → Nat} {c : List (Cell κ)} {q i z : Nat} (t : Hole h c q i z) (hi : c[i]? = some none) :
  Tab h (c.set q none) ∧ (c.set q none).length = c.length ∧ cnt (c.set q none) + 1 = cnt c ∧ ∀ o, some o ∈ c.set q none ↔ Rest c q o := by
 obtain ⟨o0, ho0⟩ := t.full
 have hG := get_set c t.q_lt none
 refine ⟨⟨fun k' => by rw [List.length_set]; exact t.home k', fun a b k x y h1 h2 => ?_, fun a k x h1 j hj => ?_⟩, List.length_set, cnt_free c q _ ho0, fun o => ⟨fun hm => ?_, fun ⟨a, ha, h1⟩ => ?_⟩⟩
 ·rw [hG] at h1 h2
  split at h1
  ·cases h1
  ·split at h2
   ·cases h2
   ·rename_i haq hbq
    exact t.one a b k x y haq hbq h1 h2
 ·rw [List.length_set] at hj ⊢
  rw [hG] at h1 ⊢
  split at h1
  ·cases h1
  ·rename_i haq
   have hal := lt_of_some h1
   obtain ⟨h3, h4⟩ := t.path a k x haq h1 j hj
   split
   ·rename_i e
    have h5 := h4 e
    have h6 := way_mid t.q_lt hal hj e
    have h7 := way_lt (t.home k) hal
    exfalso
    have e2 : pos c.length (h k) (j + way c.length q i) = i := by
     rw [← pos_add (t.home k) (by omega) e, pos_way t.q_lt t.i_lt]
    rcases Nat.lt_or_ge (j + way c.length q i) (way c.length (h k) a) with h8 | h8
    ·have := (t.path a k x haq h1 _ h8).1
     rw [e2] at this
     exact this hi
    ·have e3 : j + way c.length q i = way c.length (h k) a := by omega
     rw [e3, pos_way (t.home k) hal] at e2
     rw [e2, hi] at h1
     cases h1
   ·exact h3
 ·obtain ⟨a, ha⟩ := List.mem_iff_getElem?.1 hm
  rw [hG] at ha
  split at ha
  ·cases ha
  ·rename_i haq
   exact ⟨a, haq, ha⟩
 ·exact List.mem_of_getElem? (i := a) (by rw [hG, if_neg ha]; exact h1)
theorem hole_all {h : κ → Nat} : ∀ (f : Nat) (c : List (Cell κ)) (q i z : Nat), Hole h c q i z → way c.length i z < f →
  Tab h (holeC h f c q i) ∧ (holeC h f c q i).length = c.length ∧ cnt (holeC h f c q i) + 1 = cnt c ∧ ∀ o, some o ∈ holeC h f c q i ↔ Rest c q o
 | 0, c, q, i, z, _, hf => by omega
 | f + 1, c, q, i, z, t, hf => by
  have hg : c.getD i none = c[i]'t.i_lt := by rw [List.getD_eq_getElem?_getD, List.getElem?_eq_getElem t.i_lt]; rfl
  have hi := List.getElem?_eq_getElem t.i_lt
  unfold holeC
  rw [hg]
  cases e : c[i]'t.i_lt with
  | none => exact hole_end t (by rw [hi, e])
  | some o =>
   obtain ⟨k, x⟩ := o
   rw [e] at hi
   have hiz : i ≠ z := fun e => by rw [e, t.free] at hi; cases hi
   have hl := way_less t.i_lt (lt_of_some t.free) hiz
   simp only
   split
   ·rename_i hw
    obtain ⟨m1, m2, m3⟩ := hole_move t hi hw
    obtain ⟨a1, a2, a3, a4⟩ := hole_all f _ i (pos c.length i 1) z m1 (by rw [List.length_set]; omega)
    exact ⟨a1, by rw [a2, List.length_set], by rw [a3, m2], fun o => by rw [a4 o, m3 o]⟩
   ·rename_i hw
    exact hole_all f c q (pos c.length i 1) z (hole_skip t hi hw) (by omega)
def delC (h : κ → Nat) (c : List (Cell κ)) (q : Nat) : List (Cell κ) := holeC h c.length c q (pos c.length q 1)
theorem del_tab {h : κ → Nat} {c : List (Cell κ)} (t : Tab h c) {q : Nat} {k : κ} {x : Nat} (hq : c[q]? = some (some (k, x))) (hf : none ∈ c) :
  Tab h (delC h c q) ∧ (delC h c q).length = c.length ∧ cnt (delC h c q) + 1 = cnt c ∧ ∀ (k' : κ) (x' : Nat), some (k', x') ∈ delC h c q ↔ k' ≠ k ∧ some (k', x') ∈ c := by
 obtain ⟨z, hz⟩ := List.mem_iff_getElem?.1 hf
 have hql := lt_of_some hq
 have hzl := lt_of_some hz
 have hne : q ≠ z := fun e => by rw [e, hz] at hq; cases hq
 have hn : 2 ≤ c.length := by omega
 have t0 := hole_start t hq hz hn
 obtain ⟨a1, a2, a3, a4⟩ := hole_all c.length c q _ z t0 (way_lt t0.i_lt hzl)
 refine ⟨a1, a2, a3, fun k' x' => ?_⟩
 unfold delC
 rw [a4]
 constructor
 ·rintro ⟨a, ha, h1⟩
  exact ⟨fun e => by subst e; exact ha (t.one a q _ x' x h1 hq), List.mem_of_getElem? h1⟩
 ·rintro ⟨hk, hm⟩
  obtain ⟨a, ha⟩ := List.mem_iff_getElem?.1 hm
  refine ⟨a, fun e => ?_, ha⟩
  rw [e, hq] at ha
  simp only [Option.some.injEq, Prod.mk.injEq] at ha
  exact hk ha.1.symm
end
end Go.Proofs.YtlmljhnogmfcfaaGreat.Tn
namespace Go.Proofs.YtlmljhnogmfcfaaGreat.To
open Tm Tn

section
variable {κ : Type}
structure Good (H : Nat → κ → Nat) (c : List (Cell κ)) : Prop where
 hH : ∀ n, 0 < n → ∀ k, H n k < n
 tab : Tab (H c.length) c
 pw : ∃ e, c.length = 8 * 2 ^ e
 hi : 4 * cnt c ≤ 3 * c.length
 few : c.length = 8 ∨ c.length ≤ 8 * cnt c
theorem Good.lo {H : Nat → κ → Nat} {c : List (Cell κ)} (t : Good H c) : 8 ≤ c.length := by
 obtain ⟨e, he⟩ := t.pw
 have := Nat.one_le_two_pow (n := e)
 omega
theorem Good.free {H : Nat → κ → Nat} {c : List (Cell κ)} (t : Good H c) : none ∈ c := free_of_cnt (by have := t.lo; have := t.hi; omega)
theorem good_start {H : Nat → κ → Nat} (hH : ∀ n, 0 < n → ∀ k, H n k < n) : Good H (List.replicate 8 none) := by
 have e : (List.replicate 8 (none : Cell κ)).length = 8 := List.length_replicate
 refine ⟨hH, ?_, ⟨0, by rw [e]⟩, by rw [cnt_none, e]; omega, Or.inl e⟩
 rw [e]; exact tab_empty (hH 8 (by omega))
def roomT (H : Nat → κ → Nat) (c : List (Cell κ)) : List (Cell κ) := if 3 * c.length < 4 * (cnt c + 1) then sizeC (H (2 * c.length)) (2 * c.length) c else c
def putT (H : Nat → κ → Nat) (c : List (Cell κ)) (k : κ) (x : Nat) : List (Cell κ) := putC (H (roomT H c).length) (roomT H c) k x
def putN (n m : Nat) : Nat := if 3 * n < 4 * (m + 1) then 2 * n else n
theorem room_tab {H : Nat → κ → Nat} {c : List (Cell κ)} (t : Good H c) :
  Tab (H (roomT H c).length) (roomT H c) ∧ (roomT H c).length = putN c.length (cnt c) ∧ cnt (roomT H c) = cnt c ∧ ∀ o, some o ∈ roomT H c ↔ some o ∈ c := by
 unfold roomT putN
 by_cases h : 3 * c.length < 4 * (cnt c + 1)
 ·rw [if_pos h, if_pos h]
  have hlo := t.lo
  obtain ⟨a1, a2, a3, a4⟩ := size_tab t.tab (t.hH (2 * c.length) (by omega)) (by have := cnt_le c; omega)
  exact ⟨by rw [a2]; exact a1, a2, a3, a4⟩
 ·rw [if_neg h, if_neg h]
  exact ⟨t.tab, rfl, rfl, fun o => Iff.rfl⟩
theorem put_good {H : Nat → κ → Nat} {c : List (Cell κ)} (t : Good H c) {k : κ} (hk : ∀ y, some (k, y) ∉ c) (x : Nat) :
  Good H (putT H c k x) ∧ (putT H c k x).length = putN c.length (cnt c) ∧ cnt (putT H c k x) = cnt c + 1 ∧ ∀ o, some o ∈ putT H c k x ↔ o = (k, x) ∨ some o ∈ c := by
 obtain ⟨r1, r2, r3, r4⟩ := room_tab t
 have hlo := t.lo
 have hh := t.hi
 have hcl := cnt_le c
 have hN : c.length ≤ putN c.length (cnt c) ∧ 4 * (cnt c + 1) ≤ 3 * putN c.length (cnt c) := by unfold putN; split <;> omega
 obtain ⟨p1, p2, p3, p4⟩ := put_tab r1 (free_of_cnt (by omega)) (k := k) (fun y hm => hk y ((r4 _).1 hm)) x
 unfold putT
 have e2 := p2.trans r2
 have e3 : cnt (putC (H (roomT H c).length) (roomT H c) k x) = cnt c + 1 := by rw [p3, r3]
 refine ⟨⟨t.hH, by rw [p2]; exact p1, ?_, by rw [e2, e3]; exact hN.2, ?_⟩, e2, e3, fun o => by rw [p4 o, r4 o]⟩
 ·rw [e2]
  obtain ⟨e, he⟩ := t.pw
  unfold putN
  split
  ·exact ⟨e + 1, by rw [he, Nat.pow_succ]; omega⟩
  ·exact ⟨e, he⟩
 ·rw [e2, e3]
  have := t.few
  unfold putN
  split <;> omega
def delT (H : Nat → κ → Nat) (c : List (Cell κ)) (q : Nat) : List (Cell κ) :=
 if 8 < c.length ∧ 8 * cnt (delC (H c.length) c q) < c.length then sizeC (H (c.length / 2)) (c.length / 2) (delC (H c.length) c q) else delC (H c.length) c q
def delN (n m : Nat) : Nat := if 8 < n ∧ 8 * m < n then n / 2 else n
theorem del_good {H : Nat → κ → Nat} {c : List (Cell κ)} (t : Good H c) {q : Nat} {k : κ} {x : Nat} (hq : c[q]? = some (some (k, x))) :
  Good H (delT H c q) ∧ (delT H c q).length = delN c.length (cnt c - 1) ∧ cnt (delT H c q) + 1 = cnt c ∧ ∀ (k' : κ) (x' : Nat), some (k', x') ∈ delT H c q ↔ k' ≠ k ∧ some (k', x') ∈ c := by
 obtain ⟨d1, d2, d3, d4⟩ := del_tab t.tab hq t.free
 have hlo := t.lo
 have hh := t.hi
 have hfew := t.few
 obtain ⟨e, he⟩ := t.pw
 obtain ⟨m, hm⟩ : ∃ m, m = cnt (delC (H c.length) c q) := ⟨_, rfl⟩
 have hm1 : cnt c - 1 = m := by omega
 unfold delT delN
 rw [hm1, ← hm]
 by_cases h : 8 < c.length ∧ 8 * m < c.length
 ·rw [if_pos h, if_pos h]
  obtain ⟨e', rfl⟩ : ∃ e', e = e' + 1 := ⟨e - 1, by
   rcases Nat.eq_zero_or_pos e with h0 | h0
   ·subst h0; simp at he; omega
   ·omega⟩
  have hh2 : c.length / 2 = 8 * 2 ^ e' := by rw [he, Nat.pow_succ]; omega
  have h1 := Nat.one_le_two_pow (n := e')
  have he2 : c.length = 2 * (c.length / 2) := by rw [hh2, he, Nat.pow_succ]; omega
  obtain ⟨a1, a2, a3, a4⟩ := size_tab d1 (t.hH (c.length / 2) (by omega)) (by omega)
  exact ⟨⟨t.hH, by rw [a2]; exact a1, ⟨e', by rw [a2, hh2]⟩, by rw [a2, a3]; omega, by rw [a2, a3]; omega⟩, a2, by rw [a3]; omega, fun k' x' => by rw [a4, d4]⟩
 ·rw [if_neg h, if_neg h]
  exact ⟨⟨t.hH, by rw [d2]; exact d1, ⟨e, by rw [d2, he]⟩, by rw [d2]; omega, by rw [d2]; omega⟩, d2, d3, d4⟩
theorem num_one {H : Nat → κ → Nat} {c : List (Cell κ)} (t : Good H c) {k : κ} {x y : Nat} (h1 : some (k, x) ∈ c) (h2 : some (k, y) ∈ c) : x = y := by
 obtain ⟨i, hi⟩ := List.mem_iff_getElem?.1 h1
 obtain ⟨j, hj⟩ := List.mem_iff_getElem?.1 h2
 have := t.tab.one i j k x y hi hj
 rw [this, hj] at hi
 simp only [Option.some.injEq, Prod.mk.injEq] at hi
 exact hi.2.symm
end
section
variable {κ : Type} [DecidableEq κ]
theorem find_there {H : Nat → κ → Nat} {c : List (Cell κ)} (t : Good H c) {i : Nat} {k : κ} {x : Nat} (hi : c[i]? = some (some (k, x))) : ∀ j, j < i → isK k (c.getD j none) = false := fun j hj => by
 have hil := lt_of_some hi
 rw [List.getD_eq_getElem?_getD, List.getElem?_eq_getElem (by omega)]
 simp only [Option.getD_some]
 cases e : c[j]'(by omega) with
 | none => rfl
 | some ky =>
  obtain ⟨k', y⟩ := ky
  simp only [isK, decide_eq_false_iff_not]
  rintro rfl
  have := t.tab.one j i k' y x (by rw [List.getElem?_eq_getElem (by omega), e]) hi
  omega
theorem find_gone {c : List (Cell κ)} {k : κ} (hk : ∀ y, some (k, y) ∉ c) (j : Nat) : isK k (c.getD j none) = false := by
 rw [List.getD_eq_getElem?_getD]
 cases e : c[j]? with
 | none => rfl
 | some o =>
  cases o with
  | none => rfl
  | some ky =>
   obtain ⟨k', y⟩ := ky
   simp only [Option.getD_some, isK, decide_eq_false_iff_not]
   rintro rfl
   exact hk y (List.mem_of_getElem? e)
end
end Go.Proofs.YtlmljhnogmfcfaaGreat.To
namespace Go.Proofs.YtlmljhnogmfcfaaGreat.Pm
open Go.RowKit Ap Mi Nw Hm Tm Tn

theorem mask_any (x : Int) (e : Nat) (he : e ≤ 60) : bits .and .i64 x (((2 ^ e : Nat) : Int) - 1) = x % ((2 ^ e : Nat) : Int) := by
 have h0 : 0 < 2 ^ e := Nat.two_pow_pos e
 have h1 : 2 ^ e ≤ 2 ^ 60 := Nat.pow_le_pow_right (by decide) he
 have hc : ((2 ^ e : Nat) : Int) - 1 = ((2 ^ e - 1 : Nat) : Int) := by omega
 have hd : ((2 ^ e : Nat) : Int) ∣ ((2 ^ 64 : Nat) : Int) := by
  exact_mod_cast Nat.pow_dvd_pow 2 (show e ≤ 64 by omega)
 rw [hc]
 simp only [bits, BitVec.ofInt_natCast, BitVec.toNat_and, BitVec.toNat_ofInt, BitVec.toNat_ofNat]
 rw [Nat.mod_eq_of_lt (show 2 ^ e - 1 < 2 ^ IntKind.i64.bits from by show 2 ^ e - 1 < 2 ^ 64; omega), Nat.and_two_pow_sub_one_eq_mod]
 have hb : (IntKind.i64.bits) = 64 := rfl
 rw [hb]
 have hn : 0 ≤ x % ((2 ^ 64 : Nat) : Int) := Int.emod_nonneg _ (by decide)
 have hl : (x % ((2 ^ 64 : Nat) : Int)).toNat % 2 ^ e < 2 ^ e := Nat.mod_lt _ h0
 have h2 : (2 : Nat) ^ 60 = 1152921504606846976 := by decide
 have hw : IntKind.i64.wrap (((x % ((2 ^ 64 : Nat) : Int)).toNat % 2 ^ e : Nat) : Int) = (((x % ((2 ^ 64 : Nat) : Int)).toNat % 2 ^ e : Nat) : Int) := by
  rw [IntKind.wrap_i64]; omega
 rw [hw, Int.natCast_emod, Int.toNat_of_nonneg hn, Int.emod_emod_of_dvd _ hd]
def Pw (n : Nat) : Prop := ∃ e, e ≤ 24 ∧ n = 2 ^ e
theorem Pw.pos {n : Nat} (h : Pw n) : 0 < n := by obtain ⟨e, _, rfl⟩ := h; exact Nat.two_pow_pos e
theorem Pw.mask {n : Nat} (h : Pw n) (x : Int) : bits .and .i64 x ((n : Int) - 1) = x % (n : Int) := by
 obtain ⟨e, he, rfl⟩ := h
 exact mask_any x e (by omega)
theorem Pw.isPow {n : Nat} (h : Pw n) : isPow (n : Int) = true := by
 obtain ⟨e, he, rfl⟩ := h
 rw [isPow_iff]
 exact ⟨e, he, by unfold pw; simp⟩
theorem next_mod {n i : Nat} (hi : i < n) : ((i : Int) + 1) % (n : Int) = (pos n i 1 : Nat) := by
 rw [← pos_one_mod hi]; simp
theorem back_mod {n a b : Nat} (ha : a < n) (hb : b < n) : ((b : Int) - (a : Int)) % (n : Int) = (way n a b : Nat) := by
 rw [← way_mod ha hb, Int.natCast_emod, show ((b + n - a : Nat) : Int) = ((b : Int) - (a : Int)) + (n : Int) by omega, Int.add_emod_right]
theorem met {n a q i : Nat} (ha : a < n) (hq : q < n) (hi : i < n) (hne : i ≠ q) : way n q i ≤ way n a i ↔ way n a q < way n a i := by
 unfold way; split <;> split <;> split <;> omega
end Go.Proofs.YtlmljhnogmfcfaaGreat.Pm
namespace Go.Proofs.YtlmljhnogmfcfaaGreat.Ta
open Go.RowKit Ap Mi Nw Hm Tm Tn To

abbrev Key := List UInt8
def sV (k : Key) : Value := .string ⟨k.toArray⟩
def ck : Cell Key → Key
 | none => []
 | some (k, _) => k
def cn : Cell Key → Nat
 | none => 0
 | some (_, x) => x
def kc (c : List (Cell Key)) : List Value := c.map fun o => sV (ck o)
def nc (c : List (Cell Key)) : List Value := c.map fun o => .int .i64 (cn o : Int)
theorem kc_len (c : List (Cell Key)) : (kc c).length = c.length := by unfold kc; simp
theorem nc_len (c : List (Cell Key)) : (nc c).length = c.length := by unfold nc; simp
def Kys (c : List (Cell Key)) : Prop := ∀ k x, some (k, x) ∈ c → 1 ≤ k.length ∧ k.length ≤ 250 ∧ x ≤ 9223372036854775807
structure Tb (w : World) (c : List (Cell Key)) (X : Option Addr) (p : Nat) (Y : Option Addr) (q : Nat) : Prop where
 ks : Rs w 1 X c.length p (kc c)
 ns : Rs w 1 Y c.length q (nc c)
theorem Tb.below {w w' : World} {c : List (Cell Key)} {X Y : Option Addr} {p q B : Nat} (h : Tb w c X p Y q) (hb : Below B w w') (hB : w.heap.size ≤ B) : Tb w' c X p Y q := ⟨h.ks.below hb hB, h.ns.below hb hB⟩
def hom (seed : Int) (n : Nat) (k : Key) : Nat := (mixI (sumL seed k) % (n : Int)).toNat
theorem hom_cast (seed : Int) {n : Nat} (hn : 0 < n) (k : Key) : mixI (sumL seed k) % (n : Int) = (hom seed n k : Int) := by
 unfold hom
 have := Int.emod_nonneg (mixI (sumL seed k)) (show (n : Int) ≠ 0 by omega)
 omega
theorem hom_lt (seed : Int) : ∀ n, 0 < n → ∀ k, hom seed n k < n := fun n hn k => by
 have := Int.emod_lt_of_pos (mixI (sumL seed k)) (show (0 : Int) < (n : Int) by omega)
 have := hom_cast seed hn k
 omega
section
variable {w : World} {X Y : Option Addr} {p q : Nat} {seed : Int}
theorem getD_lt {c : List (Cell Key)} {i : Nat} (hi : i < c.length) : c.getD i none = c[i] := by rw [List.getD_eq_getElem?_getD, List.getElem?_eq_getElem hi]; rfl
end
end Go.Proofs.YtlmljhnogmfcfaaGreat.Ta
namespace Go.Proofs.YtlmljhnogmfcfaaGreat.Tb
open Go.RowKit Ap Mi Nw Rg Hm Tm Tn To Ta

theorem below_grown {w w' : World} {row : Option Nat} {B : Nat} (h : w.grownBy w' row) (hB : B ≤ w.heap.size) (hr : ∀ k, row = some k → B ≤ k) : Below B w w' := (Below.refl B w).grown h hB hr
theorem elS : Elm Tryz.prog 39 9 (.string ⟨#[]⟩) 1 where
 sl := Tryz.underlying39
 info := by kernel_rfl
 small := by
  have h : (Tryz.prog.info? 9).map (·.bytes) = some 16 := by kernel_rfl
  intro i hi; rw [hi] at h; simp at h; omega
 cells := rfl
 pos := by omega
theorem elI : Elm Tryz.prog 129 3 (.int .i64 0) 1 where
 sl := Tryz.underlying129
 info := by kernel_rfl
 small := by
  have h : (Tryz.prog.info? 3).map (·.bytes) = some 8 := by kernel_rfl
  intro i hi; rw [hi] at h; simp at h; omega
 cells := rfl
 pos := by omega
structure Own (N : Nat) (w : World) (c : List (Cell Key)) (X : Option Addr) (p : Nat) (Y : Option Addr) (q : Nat) : Prop where
 ks : Mine N 1 w X c.length p (kc c)
 ns : Mine N 1 w Y c.length q (nc c)
 ne : ∀ a b, X = some a → Y = some b → a.block ≠ b.block
theorem Own.tb {N : Nat} {w : World} {c : List (Cell Key)} {X Y : Option Addr} {p q : Nat} (h : Own N w c X p Y q) : Tb w c X p Y q := ⟨Rs.mine h.ks, Rs.mine h.ns⟩
theorem Own.mono {N N' : Nat} {w : World} {c : List (Cell Key)} {X Y : Option Addr} {p q : Nat} (h : Own N w c X p Y q) (hN : N' ≤ N) : Own N' w c X p Y q := ⟨h.ks.mono hN, h.ns.mono hN, h.ne⟩
theorem Own.only {N : Nat} {w w' : World} {c : List (Cell Key)} {X Y : Option Addr} {p q : Nat} {F : Nat → Prop} (h : Own N w c X p Y q) (ho : Only F w w') (hF : ∀ j, F j → j < N ∨ w.heap.size ≤ j) : Own N w' c X p Y q :=
 ⟨h.ks.only ho (fun a ha hf => by have := h.ks.base ha; rcases hF _ hf with h | h <;> omega), h.ns.only ho (fun a ha hf => by have := h.ns.base ha; rcases hF _ hf with h | h <;> omega), h.ne⟩
theorem Own.below {N B : Nat} {w w' : World} {c : List (Cell Key)} {X Y : Option Addr} {p q : Nat} (h : Own N w c X p Y q) (hb : Below B w w') (hB : w.heap.size ≤ B) : Own N w' c X p Y q :=
 h.only (Only.of_below hb hB (fun _ => False)) (fun _ hf => hf.elim)
def copyPost (w : World) (seed : Int) (c : List (Cell Key)) : Ending → World → Prop := fun r w' =>
 ∃ X p Y q, r = .returned (.agg #[.int .u64 seed, .slice X c.length p, .slice Y c.length q]) ∧ Own w.heap.size w' c X p Y q ∧ Below w.heap.size w w'
end Go.Proofs.YtlmljhnogmfcfaaGreat.Tb
namespace Go.Proofs.YtlmljhnogmfcfaaGreat.Tc
open Go.RowKit Ap Mi Nw Rg Hm Tm Tn To Ta Tb

theorem kc_set (c : List (Cell Key)) (i : Nat) (k : Key) (x : Nat) : (kc c).set i (sV k) = kc (c.set i (some (k, x))) := by unfold kc; rw [List.map_set]; rfl
theorem nc_set (c : List (Cell Key)) (i : Nat) (k : Key) (x : Nat) : (nc c).set i (.int .i64 (x : Int)) = nc (c.set i (some (k, x))) := by unfold nc; rw [List.map_set]; rfl
end Go.Proofs.YtlmljhnogmfcfaaGreat.Tc
namespace Go.Proofs.YtlmljhnogmfcfaaGreat.Td
open Go.RowKit Ap Mi Nw Rg Hm Tm Tn To Ta Tb Tc

def zK (n : Nat) : Array Value := madeCells #[.string ⟨#[]⟩] n
def zI (n : Nat) : Array Value := madeCells #[.int .i64 0] n
theorem made_one (z : Value) (n : Nat) : (madeCells #[z] n).toList = List.replicate n z := by
 unfold madeCells
 refine List.ext_getElem (by simp) (fun i h1 h2 => ?_)
 simp [Nat.mod_one]
theorem zK_list (n : Nat) : (zK n).toList = kc (List.replicate n none) := by
 unfold zK kc; rw [made_one, List.map_replicate]; rfl
theorem zI_list (n : Nat) : (zI n).toList = nc (List.replicate n none) := by
 unfold zI nc; rw [made_one, List.map_replicate]; rfl
theorem make_keys (n : Nat) (w : World) (h : n ≤ 100000000) : (Instr.makeSlice 39 (.int .i64 (n : Int)) (.int .i64 (n : Int))).run Tryz.prog w = .ok (.slice (some ⟨w.heap.size, 0, none⟩) n n) (w.alloc (.cells (zK n) 9)) := by
 have hi := elS.info
 rw [Option.map_eq_some_iff] at hi
 obtain ⟨i, hi1, hi2⟩ := hi
 simp only [Prod.mk.injEq] at hi2
 have hb := elS.small i hi1
 have hmul : i.bytes * n ≤ 1024 * 100000000 := Nat.mul_le_mul hb h
 have hmul' : (i.bytes : Int) * (n : Int) ≤ 281474976710656 := by
  have h0 : ((i.bytes * n : Nat) : Int) ≤ 281474976710656 := by omega
  rwa [Int.natCast_mul] at h0
 have hr := run_make (P := Tryz.prog) w 39 9 i (.string ⟨#[]⟩) elS.sl hi1 hi2.1 .i64 .i64 (n : Int) (n : Int) (by omega) (Int.le_refl _) hmul' (by omega)
 rw [Int.toNat_natCast, hi2.2, Nat.mul_one] at hr
 exact hr
theorem make_ints (n : Nat) (w : World) (h : n ≤ 100000000) : (Instr.makeSlice 129 (.int .i64 (n : Int)) (.int .i64 (n : Int))).run Tryz.prog w = .ok (.slice (some ⟨w.heap.size, 0, none⟩) n n) (w.alloc (.cells (zI n) 3)) := by
 have hi := elI.info
 rw [Option.map_eq_some_iff] at hi
 obtain ⟨i, hi1, hi2⟩ := hi
 simp only [Prod.mk.injEq] at hi2
 have hb := elI.small i hi1
 have hmul : i.bytes * n ≤ 1024 * 100000000 := Nat.mul_le_mul hb h
 have hmul' : (i.bytes : Int) * (n : Int) ≤ 281474976710656 := by
  have h0 : ((i.bytes * n : Nat) : Int) ≤ 281474976710656 := by omega
  rwa [Int.natCast_mul] at h0
 have hr := run_make (P := Tryz.prog) w 129 3 i (.int .i64 0) elI.sl hi1 hi2.1 .i64 .i64 (n : Int) (n : Int) (by omega) (Int.le_refl _) hmul' (by omega)
 rw [Int.toNat_natCast, hi2.2, Nat.mul_one] at hr
 exact hr
theorem laid_keys (n : Nat) (w : World) (h : n ≤ 100000000) : Mine w.heap.size 1 (w.alloc (.cells (zK n) 9)) (some ⟨w.heap.size, 0, none⟩) n n (kc (List.replicate n none)) :=
 mine_laid w (zK n) _ _ n (zK_list n) (by rw [kc_len]; simp) (by omega)
theorem laid_ints (n : Nat) (w : World) (h : n ≤ 100000000) : Mine w.heap.size 1 (w.alloc (.cells (zI n) 3)) (some ⟨w.heap.size, 0, none⟩) n n (nc (List.replicate n none)) :=
 mine_laid w (zI n) _ _ n (zI_list n) (by rw [nc_len]; simp) (by omega)
theorem len_none (n : Nat) : (List.replicate n (none : Cell Key)).length = n := List.length_replicate
theorem own_ki (n : Nat) (w : World) (h : n ≤ 100000000) : Own w.heap.size ((w.alloc (.cells (zK n) 9)).alloc (.cells (zI n) 3)) (List.replicate n none) (some ⟨w.heap.size, 0, none⟩) n (some ⟨w.heap.size + 1, 0, none⟩) n := by
 refine ⟨?_, ?_, fun a b ha hb => by injection ha with ha; injection hb with hb; subst ha; subst hb; show w.heap.size ≠ w.heap.size + 1; omega⟩
 ·rw [len_none]; exact (laid_keys n w h).below (bnew _ _) (Nat.le_refl _)
 ·rw [len_none]
  have h1 := laid_ints n (w.alloc (.cells (zK n) 9)) h
  rw [show (w.alloc (.cells (zK n) 9)).heap.size = w.heap.size + 1 by simp] at h1
  exact h1.mono (by omega)
theorem own_ik (n : Nat) (w : World) (h : n ≤ 100000000) : Own w.heap.size ((w.alloc (.cells (zI n) 3)).alloc (.cells (zK n) 9)) (List.replicate n none) (some ⟨w.heap.size + 1, 0, none⟩) n (some ⟨w.heap.size, 0, none⟩) n := by
 refine ⟨?_, ?_, fun a b ha hb => by injection ha with ha; injection hb with hb; subst ha; subst hb; show w.heap.size + 1 ≠ w.heap.size; omega⟩
 ·rw [len_none]
  have h1 := laid_keys n (w.alloc (.cells (zI n) 3)) h
  rw [show (w.alloc (.cells (zI n) 3)).heap.size = w.heap.size + 1 by simp] at h1
  exact h1.mono (by omega)
 ·rw [len_none]; exact (laid_ints n w h).below (bnew _ _) (Nat.le_refl _)
def newPost (w : World) (seed : Int) : Ending → World → Prop := fun r w' =>
 ∃ X p Y q, r = .returned (.agg #[.int .u64 seed, .slice X 8 p, .slice Y 8 q]) ∧ Own w.heap.size w' (List.replicate 8 none) X p Y q ∧ Below w.heap.size w w'
end Go.Proofs.YtlmljhnogmfcfaaGreat.Td
namespace Go.Proofs.YtlmljhnogmfcfaaGreat.Te
open Go.RowKit Ap Mi Nw Rg Hm Tm Tn To Ta Tb Tc Td

theorem fill_snoc {h : Key → Nat} (o : Cell Key) : ∀ (l out : List (Cell Key)), fillC h (l ++ [o]) out = fillC h [o] (fillC h l out)
 | [], _ => rfl
 | none :: r, out => fill_snoc o r out
 | some (k, x) :: r, out => fill_snoc o r (putC h out k x)
theorem fill_at {h0 h : Key → Nat} {c : List (Cell Key)} (t : Tab h0 c) {n : Nat} (hh : ∀ k, h k < n) (hn : cnt c ≤ n) {K : Nat} (hK : K < c.length) :
  (fillC h (c.take K) (List.replicate n none)).length = n ∧ (∀ o, some o ∈ fillC h (c.take K) (List.replicate n none) → some o ∈ c) ∧ (∀ o, c[K] = some o → none ∈ fillC h (c.take K) (List.replicate n none)) := by
 have hap : Apart (c.take K) := (tab_apart t).sublist (List.take_sublist _ _)
 have hcl : cnt (c.take K) ≤ cnt c := (List.take_sublist _ _).countP_le
 obtain ⟨f1, f2, f3, f4⟩ := fill_tab (c.take K) _ (tab_empty hh) hap (fun k x y _ hm => by have := List.eq_of_mem_replicate hm; cases this) (by rw [cnt_none, len_none]; omega)
 rw [len_none] at f2
 rw [cnt_none] at f3
 refine ⟨f2, fun o ho => ?_, fun o ho => free_of_cnt ?_⟩
 ·rcases (f4 o).1 ho with h1 | h1
  ·exact List.mem_of_mem_take h1
  ·have := List.eq_of_mem_replicate h1; cases this
 ·have h5 : cnt (c.take (K + 1)) = cnt (c.take K) + 1 := by
   unfold cnt
   rw [List.take_succ_eq_append_getElem hK, List.countP_append, ho]
   simp
  have h6 : cnt (c.take (K + 1)) ≤ cnt c := (List.take_sublist _ _).countP_le
  omega
end Go.Proofs.YtlmljhnogmfcfaaGreat.Te
namespace Go.Proofs.YtlmljhnogmfcfaaGreat.Tf
open Go.RowKit Ap Mi Nw Rg Hm Tm Tn Ta Tb Tc Td Te
open To (putT delT putN delN roomT)

def okK (k : Key) : Bool := decide (1 ≤ k.length) && decide (k.length ≤ 250)
theorem okK_spec {k : Key} (h : okK k = true) : 1 ≤ k.length ∧ k.length ≤ 250 := by unfold okK at h; simpa using h
def Gets (c : List (Cell Key)) (k : Key) (n e : Int) : Prop :=
 (okK k = false ∧ n = 0 ∧ e = 2) ∨ (okK k = true ∧ (∃ (i x : Nat), c[i]? = some (some (k, x)) ∧ n = (x : Int)) ∧ e = 0) ∨ (okK k = true ∧ (∀ y, some (k, y) ∉ c) ∧ n = 0 ∧ e = 9)
def Puts (seed : Int) (c : List (Cell Key)) (k : Key) (n : Int) (c' : List (Cell Key)) (e : Int) : Prop :=
 ((okK k = false ∨ n < 0) ∧ c' = c ∧ e = 2) ∨ (okK k = true ∧ 0 ≤ n ∧ (∃ i x : Nat, c[i]? = some (some (k, x))) ∧ c' = c ∧ e = 11) ∨ (okK k = true ∧ (∃ x : Nat, n = (x : Int) ∧ c' = putT (hom seed) c k x) ∧ (∀ y, some (k, y) ∉ c) ∧ e = 0)
end Go.Proofs.YtlmljhnogmfcfaaGreat.Tf
namespace Go.Proofs.YtlmljhnogmfcfaaGreat.Tg
open Go.RowKit Ap Mi Nw Rg Hm Tm Tn Ta Tb Tc Td Te Tf

def Sets (c : List (Cell Key)) (k : Key) (n : Int) (c' : List (Cell Key)) (m e : Int) : Prop :=
 ((okK k = false ∨ n < 0) ∧ c' = c ∧ m = 0 ∧ e = 2) ∨ (okK k = true ∧ 0 ≤ n ∧ (∀ y, some (k, y) ∉ c) ∧ c' = c ∧ m = 0 ∧ e = 9) ∨ (okK k = true ∧ (∃ (i x y : Nat), c[i]? = some (some (k, y)) ∧ n = (x : Int) ∧ m = (y : Int) ∧ c' = c.set i (some (k, x))) ∧ e = 0)
end Go.Proofs.YtlmljhnogmfcfaaGreat.Tg
namespace Go.Proofs.YtlmljhnogmfcfaaGreat.Th
open Go.RowKit Ap Mi Nw Rg Hm Tm Tn Ta Tb Tc Td Te Tf
open To (delT)

theorem hole_go {h : Key → Nat} {d : List (Cell Key)} {hx ix z f : Nat} (t : Hole h d hx ix z) (hf : way d.length ix z < f) {k : Key} {x : Nat} (hi : d[ix]? = some (some (k, x))) :
  ∃ f', f = f' + 1 ∧ way d.length (pos d.length ix 1) z < f' ∧ way d.length (pos d.length ix 1) z + 1 = way d.length ix z ∧ (way d.length (h k) hx < way d.length (h k) ix → holeC h f d hx ix = holeC h f' (d.set hx (some (k, x))) ix (pos d.length ix 1)) ∧
   (¬ way d.length (h k) hx < way d.length (h k) ix → holeC h f d hx ix = holeC h f' d hx (pos d.length ix 1)) := by
 have hiz : ix ≠ z := fun e => by rw [e, t.free] at hi; cases hi
 have hl := way_less t.i_lt (lt_of_some t.free) hiz
 have hg : d.getD ix none = some (k, x) := by rw [List.getD_eq_getElem?_getD, hi]; rfl
 refine ⟨f - 1, by omega, by omega, hl, fun hw => ?_, fun hw => ?_⟩
 ·obtain ⟨f', rfl⟩ : ∃ f', f = f' + 1 := ⟨f - 1, by omega⟩
  conv => lhs; unfold holeC; rw [hg]
  simp only [if_pos hw, Nat.add_sub_cancel]
 ·obtain ⟨f', rfl⟩ : ∃ f', f = f' + 1 := ⟨f - 1, by omega⟩
  conv => lhs; unfold holeC; rw [hg]
  simp only [if_neg hw, Nat.add_sub_cancel]
theorem hole_stop {h : Key → Nat} {d : List (Cell Key)} {hx ix f w : Nat} (hf : w < f) (hi : d[ix]? = some none) : holeC h f d hx ix = d.set hx none := by
 obtain ⟨f', rfl⟩ : ∃ f', f = f' + 1 := ⟨f - 1, by omega⟩
 have hg : d.getD ix none = none := by rw [List.getD_eq_getElem?_getD, hi]; rfl
 unfold holeC
 rw [hg]
def Dels (seed : Int) (c : List (Cell Key)) (k : Key) (c' : List (Cell Key)) (m e : Int) : Prop :=
 (c' = c ∧ m = 0 ∧ Gets c k 0 e ∧ e ≠ 0) ∨ (okK k = true ∧ (∃ i x : Nat, c[i]? = some (some (k, x)) ∧ m = (x : Int) ∧ c' = delT (hom seed) c i) ∧ e = 0)
end Go.Proofs.YtlmljhnogmfcfaaGreat.Th
