/- Proves what maps.Clone returns at a map of ints: a new map with the same entries. No condition. -/
import Derived.Test.YtfoalfemkpiniaaWb
namespace Go.Proofs.Ytfoalfemkpiniaa.Wc
open Go.RowKit Go.Maps Ap Mi Nw Ua Uh Uk Wm Wa

def clonePost (w : World) (D : DataW Unit) : Ending → World → Prop := fun e w' => e = .returned (.map (some w.heap.size)) ∧ Wa.Own w' w.heap.size D ∧ Below w.heap.size w w' ∧ w'.heap.size = w.heap.size + 1
theorem clone_any {w : World} {b : Nat} {D : DataW Unit} (h : Wa.Own w b D) : Calls Try.prog 40 #[.map (some b)] w (clonePost w D) := by
  obtain ⟨es, clock, hb, hfit, hs, hD⟩ := h
  have HP : Hid (clonePost w D (.returned (.map (some w.heap.size))) (w.alloc (.map es clock))) :=
    ⟨rfl, ⟨es, clock, (MapKept.heap_alloc w _).1, hfit, hs, hD⟩, bnew _ _, by simp⟩
  have HB := Lib.hid hb
  have hq := fun w => run_eql_map_nil_sl (P := Try.prog) w 43 _ _ (some b) Try.underlying43
  clear hb hfit hs hD
  obtain ⟨Q, hQ⟩ : ∃ Q, Q = clonePost w D := ⟨_, rfl⟩
  rw [← hQ] at HP ⊢
  clear hQ
  go_enter Try.func40, Try.ntmps40
  go_wp2
  rw [run_callFunc_extern (P := Try.prog) (f := 44) (fn := Try.f44) (by kernel_rfl) (by kernel_rfl) (by kernel_rfl) (by kernel_rfl) (e := Extern.MapsClone.clone) (by kernel_rfl), run_maps_clone_sl w 43 HB.out]
  simp only [Result.andThen]
  rw [Oper.upon_value]
  go_wp2
  rw [run_typeAssert_map_sl _ 43 20 _ _ _ Try.underlying43]
  simp only [Result.andThen]
  rw [Oper.upon_value]
  go_wp2
  exact HP.out
end Go.Proofs.Ytfoalfemkpiniaa.Wc
