/- Proves what the rows of package varint's laws give the walks: arguments of bytes, opened. No condition. -/
import Derived.Test.YthlfahblnpijaaaDoorVw
import Derived.Test.YthlfahblnpijaaaDoorBk
import Derived.ProofKit
import Derived.OpenShut
import Derived.Deep.SlicePairs
namespace Go.Proofs.YthlfahblnpijaaaDoor.Ve
open Go.ChangeShapes Go.WideShapes Go.ChangeAt Go.RowKit Vm Vw

theorem cellsB : Tryd.prog.cellsOf 5 = 1 := by kernel_rfl
theorem wf_u8 {n : Int} (h : (Lit.int .u8 n).wf = true) : 0 ≤ n ∧ n < 256 := by
  simp [Lit.wf, IntKind.min, IntKind.max, IntKind.signed, IntKind.bits] at h
  omega
section
variable {H : Type} {enc : TypeId × Value → H} {W : World} {base : Nat} {spare : Nat → Bool} {held : Bool} {fuel : Nat}
theorem arg_of {v : Value} {x : DataW H × List MemPlace} (h : DataW.trod enc Tryd.prog W base spare held fuel 29 [v] = some x) : ∃ (A : Option Addr) (c : Nat) (l : Bs), v = .slice A l.length c ∧ Arg W A l c := by
  rcases open_ints Tryd.underlying29 Tryd.underlying5 cellsB h with ⟨hcs, _⟩ | ⟨a, len, cap, zs, hcs, _, hl, hm, hz, _, hcell, hwf⟩
  · injection hcs with hcs
    subst hcs
    exact ⟨none, 0, [], rfl, Rb.nil _ _, Nat.le_refl _, Nat.zero_le _, fun _ => rfl⟩
  · injection hcs with hcs
    subst hcs
    have hzl : len ≤ zs.length := by rw [hz]; split <;> omega
    have hlen : ((zs.take len).map fun z => UInt8.ofNat z.toNat).length = len := by rw [List.length_map, List.length_take]; omega
    refine ⟨some a, cap, (zs.take len).map fun z => UInt8.ofNat z.toNat, by rw [hlen], ?_, by rw [hlen]; exact hl, hm, fun e => by cases e⟩
    intro h0
    rw [hlen] at h0
    obtain ⟨b, off, spot⟩ := a
    have hspot : spot = none := by simpa [Addr.add] using World.cell?_spot (hcell 0 (by omega))
    subst hspot
    have hlt : b < W.heap.size := by
      have := World.block_lt_of_cell? W _ (hcell 0 (by omega))
      rwa [Vw.add_plain] at this
    refine ⟨b, off, rfl, hlt, fun j hj => ?_⟩
    rw [hlen] at hj
    have hj' : j < zs.length := by omega
    have := hcell j hj'
    rw [Vw.add_plain] at this
    obtain ⟨w1, w2⟩ := wf_u8 (hwf zs[j] (List.getElem_mem hj'))
    rw [this, List.getElem_map, List.getElem_take, of_nat (by omega)]
    simp only [List.getD_eq_getElem?_getD, List.getElem?_eq_getElem hj', Option.getD_some]
    rw [Int.toNat_of_nonneg w1]
end
section
variable {H : Type} {enc : TypeId × Value → H} {W : World}
set_option maxRecDepth 100000 in
theorem open_bs {base : Nat} {v : Value} {d : DataW H} {p : List MemPlace} (hval : Value.okWide Tryd.prog W .any base 29 v)
    (h : DataW.Trod enc Tryd.prog W 0 (fun _ => true) true 29 v d p) : ∃ (A : Option Addr) (c : Nat) (l : Bs), v = .slice A l.length c ∧ Arg W A l c := by
  obtain ⟨a0, len, cap, rfl⟩ := okWide_slice Tryd.underlying29 hval
  obtain ⟨fuel, hf⟩ := h
  exact arg_of (by simpa [Value.cells] using hf)
end
end Go.Proofs.YthlfahblnpijaaaDoor.Ve
