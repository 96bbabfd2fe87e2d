/- Proves words for a row of numbers of the call's own beside a row of bytes. Conditions: few bytes. No function of the program. -/
import Derived.Test.YthaelepggckdbaaVw
namespace Go.Proofs.Ythaelepggckdbaa.Gi
open Go.RowKit Vm Ap Vw

theorem elI : El Try.prog 42 3 (.int .i64 0) where
  sl := Try.underlying42
  info := by kernel_rfl
  small := by
    have h : (Try.prog.info? 3).map (·.bytes) = some 8 := by kernel_rfl
    intro i hi; rw [hi] at h; simp at h; omega
  one := rfl
/-- A row of numbers of the call's own. -/
def OwnI (B : Nat) (w : World) (v : Value) (n : Nat) (xs : List Value) : Prop := w.ownsRow B 3 1 v n xs
/-- A row of bytes and a row of numbers lie in different blocks. -/
theorem apart {B C n : Nat} {w : World} {u v : Value} {l : Bs} {xs : List Value} (h : Own B w u l) (h' : OwnI C w v n xs) : v.ownBlock = none ∨ v.ownBlock ≠ u.ownBlock := by
  rcases h'.2 with ⟨rfl, _⟩ | ⟨g, cap, cur, rfl, _, hg, _⟩
  · exact Or.inl rfl
  · rcases h.2 with ⟨rfl, _⟩ | ⟨g', cap', cur', rfl, _, hg', _⟩
    · exact Or.inr (fun e => by cases e)
    · refine Or.inr (fun e => ?_)
      injection e with e
      have e' : g = g' := e
      subst e'
      rw [hg] at hg'
      injection hg' with hg'
      injection hg' with _ h2
      exact absurd h2 (by decide)
theorem apart' {B C n : Nat} {w : World} {u v : Value} {l : Bs} {xs : List Value} (h : Own B w u l) (h' : OwnI C w v n xs) : u.ownBlock = none ∨ u.ownBlock ≠ v.ownBlock := by
  rcases apart h h' with h1 | h1
  · rcases h.2 with ⟨rfl, _⟩ | ⟨g', cap', cur', rfl, _⟩
    · exact Or.inl rfl
    · exact Or.inr (fun e => by rw [h1] at e; cases e)
  · exact Or.inr (fun e => h1 e.symm)
theorem ownI_below {B B' n : Nat} {w w' : World} {v : Value} {xs : List Value} (h : OwnI B w v n xs) (hb : Below B' w w') (hB : w.heap.size ≤ B') : OwnI B w' v n xs := by
  refine ⟨h.1, ?_⟩
  rcases h.2 with h2 | ⟨g, cap, cur, hv, hBg, hg, r⟩
  · exact Or.inl h2
  · have hlt : g < w.heap.size := (Array.getElem?_eq_some_iff.1 hg).1
    exact Or.inr ⟨g, cap, cur, hv, hBg, by rw [hb.block g (by omega)]; exact hg, r⟩
theorem own_rowI {B n : Nat} {w : World} {v : Value} {xs : List Value} (h : OwnI B w v n xs) : w.ownsRow B 3 1 v n xs := h
theorem ownI_shape {B n : Nat} {w : World} {v : Value} {xs : List Value} (h : OwnI B w v n xs) : ∃ A c, v = .slice A n c := by
  rcases h.2 with ⟨rfl, rfl⟩ | ⟨g, cap, cur, rfl, _⟩
  · exact ⟨none, 0, rfl⟩
  · exact ⟨_, _, rfl⟩
/-- What a row of numbers holds. -/
theorem ownI_cell {B n : Nat} {w : World} {A : Option Addr} {c : Nat} {xs : List Value} (h : OwnI B w (.slice A n c) n xs) (hn : 0 < n) : ∃ g, A = some ⟨g, 0, none⟩ ∧ g < w.heap.size ∧ n ≤ c ∧ c ≤ maxLen ∧ ∀ j (hj : j < xs.length), w.cell? ⟨g, j, none⟩ = some xs[j] := by
  rcases h.2 with ⟨_, h0⟩ | ⟨g, cap, cur, hv, _, hg, hc, hm, _⟩
  · omega
  · injection hv with e1 e2 e3
    subst e1; subst e3
    refine ⟨g, rfl, (Array.getElem?_eq_some_iff.1 hg).1, hc, hm, fun j hj => ?_⟩
    have hl : xs.length = n * 1 := h.1
    rw [h.cellAt j (by omega), List.getElem?_eq_getElem hj]
end Go.Proofs.Ythaelepggckdbaa.Gi
