/- Proves what Copy returns at an order in memory as two maps. Conditions: as the theorem names them. -/
import Derived.Test.YtfoalfemkpiniaaWc
namespace Go.Proofs.Ytfoalfemkpiniaa.Wd
open Go.RowKit Go.Maps Ap Mi Nw Ua Uh Uk Wm Wa Wc

def copyPost (w : World) (DB DA : DataW Unit) : Ending → World → Prop := fun e w' => ∃ g B A, e = .returned (.pointer (some ⟨g, 0, none⟩)) ∧ Lo w' g B A DB DA ∧ w.heap.size ≤ g ∧ w.heap.size ≤ B ∧ w.heap.size ≤ A ∧ Below w.heap.size w w'
theorem copy_end {w0 w1 w2 : World} {DB DA : DataW Unit} (h1 : Wa.Own w1 w0.drew.heap.size DB ∧ Below w0.drew.heap.size w0.drew w1 ∧ w1.heap.size = w0.drew.heap.size + 1) (h2 : Wa.Own w2 w1.heap.size DA ∧ Below w1.heap.size w1 w2 ∧ w2.heap.size = w1.heap.size + 1) :
    copyPost w0 DB DA (.returned (.pointer (some ⟨w2.heap.size, 0, none⟩))) (w2.alloc (.cells #[.map (some w0.heap.size), .map (some w1.heap.size)] 45)) := by
  obtain ⟨a1, a2, a3⟩ := h1
  obtain ⟨b1, b2, b3⟩ := h2
  have a3' : w1.heap.size = w0.heap.size + 1 := a3
  refine ⟨_, _, _, rfl, ⟨Blk.new _ _ _, ?_, ?_, by omega, by omega, by omega⟩, by omega, Nat.le_refl _, by omega, ((Below.refl w0.heap.size w0).drew.trans (a2.trans (b2.mono (by show w0.heap.size ≤ _; omega)))).alloc (by omega) _⟩
  · exact (a1.kept (Only.of_below b2 (Nat.le_refl _) (fun _ => False)) (fun h => h)).kept ((Only.refl (fun _ => False) _).alloc _) (fun h => h)
  · exact b1.kept ((Only.refl (fun _ => False) _).alloc _) (fun h => h)
set_option maxRecDepth 100000 in
set_option maxHeartbeats 4000000 in
theorem copy_raw {w : World} {g B A : Nat} {DB DA : DataW Unit} (hlo : Lo w g B A DB DA) : Calls Try.prog 22 #[.pointer (some ⟨g, 0, none⟩)] w (copyPost w DB DA) := by
  have HU := Lib.hid (usable_any hlo)
  obtain ⟨x0, x1, _⟩ := hlo.bk.two
  have l0 := hlo.bk.lt
  have CB : Hid (∀ W, Below w.heap.size w W → Calls Try.prog 40 #[.map (some B)] W (clonePost W DB)) := fun W hW => clone_any (hlo.ob.kept (Only.of_below hW (Nat.le_refl _) (fun _ => False)) (fun h => h))
  have CA : Hid (∀ W, Below w.heap.size w W → Calls Try.prog 40 #[.map (some A)] W (clonePost W DA)) := fun W hW => clone_any (hlo.oa.kept (Only.of_below hW (Nat.le_refl _) (fun _ => False)) (fun h => h))
  unfold clonePost at CA CB
  clear hlo
  go_enter Try.func22, Try.ntmps22
  go_wp2_with fail
  refine HU.out.mono ?_
  rintro e w0 ⟨rfl, rfl⟩
  go_wp2_with fail
  go_region_with (go_at_call 40; first | (refine (CB.out _ ((Below.refl _ _).drew)).mono ?_; rintro e w1 ⟨rfl, h1, h2, h3⟩; have P1 := Lib.hid (And.intro h1 (And.intro h2 h3)); have y0 := (h2.cell (p := ⟨g, 0, none⟩) l0).trans x0; have y1 := (h2.cell (p := ⟨g, 1, none⟩) l0).trans x1; clear h1 h2 h3) | (refine (CA.out _ ((Below.refl _ _).drew.trans P1.out.2.1)).mono ?_; rintro e w2 ⟨rfl, h1, h2, h3⟩; have P2 := Lib.hid (And.intro h1 (And.intro h2 h3)); clear h1 h2 h3))
  all_goals
    go_wp2_with fail
    go_ret
    exact copy_end P1.out P2.out
end Go.Proofs.Ytfoalfemkpiniaa.Wd
