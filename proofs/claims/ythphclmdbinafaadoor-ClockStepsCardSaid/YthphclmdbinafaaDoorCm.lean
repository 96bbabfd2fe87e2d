/- Proves plain facts on times: a time plus ticks, deadlines that have come, marks and when they change. No condition but those in each theorem. -/
import Derived.WalkKit
namespace Go.Proofs.YthphclmdbinafaaDoor.Cm
open Go.RowKit

def Tm (a : Int) : Prop := 0 ≤ a ∧ a ≤ 18446744073709551615
def addI (a b : Int) : Int := if 18446744073709551615 - a ≤ b then 18446744073709551615 else a + b
def dueB (d n : Int) : Bool := decide (d ≠ 18446744073709551615 ∧ d ≤ n)
def markI (n d s g : Int) : Int := if dueB d n = true ∨ dueB (addI s g) n = true then 0 else if dueB s n = true then 2 else 1
def nextI (n d s g : Int) : Int := if markI n d s g = 1 then min d s else if markI n d s g = 2 then min d (addI s g) else 18446744073709551615
theorem wrap64 (n : Int) (h0 : 0 ≤ n) (h1 : n ≤ 18446744073709551615) : IntKind.u64.wrap n = n := by
  rw [show IntKind.u64.wrap n = n % 18446744073709551616 by simp [IntKind.wrap, IntKind.bits, IntKind.signed]]; omega
theorem add_tm {a b : Int} (ha : Tm a) (hb : Tm b) : Tm (addI a b) := by
  unfold Tm addI at *; split <;> omega
theorem add_never {a b : Int} (h : 18446744073709551615 - a ≤ b) : addI a b = 18446744073709551615 := by unfold addI; rw [if_pos h]
theorem add_sum {a b : Int} (h : b < 18446744073709551615 - a) : addI a b = a + b := by unfold addI; rw [if_neg (by omega)]
theorem due_never (n : Int) : dueB 18446744073709551615 n = false := by simp [dueB]
theorem due_eq {d n : Int} (h : d ≠ 18446744073709551615) : dueB d n = decide (d ≤ n) := by simp [dueB, h]
theorem mark_cases (n d s g : Int) : markI n d s g = 0 ∨ markI n d s g = 1 ∨ markI n d s g = 2 := by
  unfold markI; split
  · exact .inl rfl
  · split
    · exact .inr (.inr rfl)
    · exact .inr (.inl rfl)
theorem mark_dead {n d s g : Int} (h : dueB d n = true) : markI n d s g = 0 := by unfold markI; rw [if_pos (.inl h)]
theorem mark_end {n d s g : Int} (h : dueB (addI s g) n = true) : markI n d s g = 0 := by unfold markI; rw [if_pos (.inr h)]
theorem mark_stale {n d s g : Int} (h : dueB d n = false) (k : dueB (addI s g) n = false) (l : dueB s n = true) : markI n d s g = 2 := by
  unfold markI; rw [if_neg (by simp [h, k]), if_pos l]
theorem mark_fresh {n d s g : Int} (h : dueB d n = false) (k : dueB (addI s g) n = false) (l : dueB s n = false) : markI n d s g = 1 := by
  unfold markI; rw [if_neg (by simp [h, k]), if_neg (by simp [l])]
/-- The end of the grace is not before the soft purge. -/
theorem end_late {n s g : Int} (hs : Tm s) (hg : Tm g) (h : dueB s n = false) : dueB (addI s g) n = false := by
  unfold Tm dueB addI at *; simp only [decide_eq_false_iff_not] at *; split <;> omega
theorem next_fresh {n d s g : Int} (h : markI n d s g = 1) : nextI n d s g = min d s := by unfold nextI; rw [if_pos h]
theorem next_stale {n d s g : Int} (h : markI n d s g = 2) : nextI n d s g = min d (addI s g) := by
  unfold nextI; rw [if_neg (by omega), if_pos h]
theorem next_dead {n d s g : Int} (h : markI n d s g = 0) : nextI n d s g = 18446744073709551615 := by
  unfold nextI; rw [if_neg (by omega), if_neg (by omega)]
theorem next_tm {n d s g : Int} (hd : Tm d) (hs : Tm s) (hg : Tm g) : Tm (nextI n d s g) := by
  have ha := add_tm hs hg
  rcases mark_cases n d s g with h | h | h
  · rw [next_dead h]; unfold Tm; omega
  · rw [next_fresh h]; unfold Tm at *; omega
  · rw [next_stale h]; unfold Tm at *; omega

/-! ### how the mark changes with time -/
/-- The mark in terms of three times. -/
theorem mark_iff {n d s g : Int} (hs : Tm s) (hg : Tm g) :
    (markI n d s g = 0 ↔ (d ≠ 18446744073709551615 ∧ d ≤ n) ∨ (addI s g ≠ 18446744073709551615 ∧ addI s g ≤ n)) ∧
    (markI n d s g = 2 ↔ ¬ (d ≠ 18446744073709551615 ∧ d ≤ n) ∧ ¬ (addI s g ≠ 18446744073709551615 ∧ addI s g ≤ n) ∧ s ≠ 18446744073709551615 ∧ s ≤ n) ∧
    (markI n d s g = 1 ↔ ¬ (d ≠ 18446744073709551615 ∧ d ≤ n) ∧ ¬ (s ≠ 18446744073709551615 ∧ s ≤ n)) := by
  have he := @end_late n s g hs hg
  unfold markI
  simp only [dueB, decide_eq_true_eq, decide_eq_false_iff_not] at *
  refine ⟨?_, ?_, ?_⟩
  · split
    · rename_i h; exact ⟨fun _ => h, fun _ => rfl⟩
    · rename_i h; split <;> simp <;> omega
  · split
    · rename_i h; simp; omega
    · rename_i h; split <;> simp <;> omega
  · split
    · rename_i h; simp; omega
    · rename_i h; split <;> simp <;> omega
theorem end_ge {s g : Int} (hs : Tm s) (hg : Tm g) : s ≤ addI s g ∧ addI s g ≤ 18446744073709551615 := by
  unfold Tm addI at *; split <;> omega
end Go.Proofs.YthphclmdbinafaaDoor.Cm
