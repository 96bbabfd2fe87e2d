/- Proves plain facts on a mask of low bits, on steps around a table, and on rows of cells of two. No condition but those in each theorem; no program. -/
import Derived.Test.YthabnffmlgppdaaTo
import Derived.Test.YthabnffmlgppdaaNw
import Derived.Test.YthabnffmlgppdaaHm
import Derived.Laws.BitsLemmas
namespace Go.Proofs.Ythabnffmlgppdaa.Pm
open Go.RowKit Ap Mi Nw Hm Tm Tn

theorem mask_any (x : Int) (e : Nat) (he : e ≤ 60) : bits .and .i64 x (((2 ^ e : Nat) : Int) - 1) = x % ((2 ^ e : Nat) : Int) := by
  have h0 : 0 < 2 ^ e := Nat.two_pow_pos e
  have h1 : 2 ^ e ≤ 2 ^ 60 := Nat.pow_le_pow_right (by decide) he
  have hc : ((2 ^ e : Nat) : Int) - 1 = ((2 ^ e - 1 : Nat) : Int) := by omega
  have hd : ((2 ^ e : Nat) : Int) ∣ ((2 ^ 64 : Nat) : Int) := by
    exact_mod_cast Nat.pow_dvd_pow 2 (show e ≤ 64 by omega)
  rw [hc]
  simp only [bits, BitVec.ofInt_natCast, BitVec.toNat_and, BitVec.toNat_ofInt, BitVec.toNat_ofNat]
  rw [Nat.mod_eq_of_lt (show 2 ^ e - 1 < 2 ^ IntKind.i64.bits from by show 2 ^ e - 1 < 2 ^ 64; omega), Nat.and_two_pow_sub_one_eq_mod]
  have hb : (IntKind.i64.bits) = 64 := rfl
  rw [hb]
  have hn : 0 ≤ x % ((2 ^ 64 : Nat) : Int) := Int.emod_nonneg _ (by decide)
  have hl : (x % ((2 ^ 64 : Nat) : Int)).toNat % 2 ^ e < 2 ^ e := Nat.mod_lt _ h0
  have h2 : (2 : Nat) ^ 60 = 1152921504606846976 := by decide
  have hw : IntKind.i64.wrap (((x % ((2 ^ 64 : Nat) : Int)).toNat % 2 ^ e : Nat) : Int) = (((x % ((2 ^ 64 : Nat) : Int)).toNat % 2 ^ e : Nat) : Int) := by
    rw [IntKind.wrap_i64]; omega
  rw [hw, Int.natCast_emod, Int.toNat_of_nonneg hn, Int.emod_emod_of_dvd _ hd]
/-- A size is a power of two. -/
def Pw (n : Nat) : Prop := ∃ e, e ≤ 24 ∧ n = 2 ^ e
theorem Pw.of_eight {n : Nat} (h : ∃ e, n = 8 * 2 ^ e) (hn : n ≤ 16777216) : Pw n := by
  obtain ⟨e, rfl⟩ := h
  have h2 : 8 * 2 ^ e = 2 ^ (e + 3) := by rw [Nat.pow_add]; omega
  refine ⟨e + 3, ?_, h2⟩
  rcases Nat.lt_or_ge (e + 3) 25 with h | h
  · omega
  · have := Nat.pow_le_pow_right (show 0 < 2 by decide) h
    rw [h2] at hn
    have : (2 : Nat) ^ 25 = 33554432 := by decide
    omega
theorem Pw.pos {n : Nat} (h : Pw n) : 0 < n := by obtain ⟨e, _, rfl⟩ := h; exact Nat.two_pow_pos e
theorem Pw.mask {n : Nat} (h : Pw n) (x : Int) : bits .and .i64 x ((n : Int) - 1) = x % (n : Int) := by
  obtain ⟨e, he, rfl⟩ := h
  exact mask_any x e (by omega)
theorem Pw.isPow {n : Nat} (h : Pw n) : isPow (n : Int) = true := by
  obtain ⟨e, he, rfl⟩ := h
  rw [isPow_iff]
  exact ⟨e, he, by unfold pw; simp⟩
theorem next_mod {n i : Nat} (hi : i < n) : ((i : Int) + 1) % (n : Int) = (pos n i 1 : Nat) := by
  rw [← pos_one_mod hi]; simp
theorem back_mod {n a b : Nat} (ha : a < n) (hb : b < n) : ((b : Int) - (a : Int)) % (n : Int) = (way n a b : Nat) := by
  rw [← way_mod ha hb, Int.natCast_emod, show ((b + n - a : Nat) : Int) = ((b : Int) - (a : Int)) + (n : Int) by omega, Int.add_emod_right]
/-- The hole is met on the way from the home. -/
theorem met {n a q i : Nat} (ha : a < n) (hq : q < n) (hi : i < n) (hne : i ≠ q) : way n q i ≤ way n a i ↔ way n a q < way n a i := by
  unfold way; split <;> split <;> split <;> omega
end Go.Proofs.Ythabnffmlgppdaa.Pm
