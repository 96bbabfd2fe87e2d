/- Proves what the row of VarintHolds gives the walk: an argument of things, opened. No condition. -/
import Derived.Test.YtngeocacbegjkaaVz
import Derived.Test.YtngeocacbegjkaaVe
namespace Go.Proofs.Ytngeocacbegjkaa.Vi
open Go.ChangeShapes Go.WideShapes Go.ChangeAt Go.RowKit Vm Vw Vl Ve Vz

theorem cellsU : Try.prog.cellsOf 23 = 1 := by kernel_rfl
theorem cellsS : Try.prog.cellsOf 22 = 1 := by kernel_rfl
theorem cellsT : Try.prog.cellsOf 58 = 2 := by kernel_rfl
section
variable {H : Type} {enc : TypeId × Value → H} {W : World}
theorem num_of {base fuel : Nat} {spare : Nat → Bool} {held : Bool} {v : Value} {x : DataW H × List MemPlace} (h : DataW.trod enc Try.prog W base spare held fuel 23 [v] = some x) : ∃ n : Nat, v = .int .u64 (n : Int) ∧ n < big := by
  obtain ⟨n, hn, _, hw⟩ := DataW.trod_int Try.underlying23 h
  injection hn with hn
  obtain ⟨b0, b1⟩ := bounds_u64 hw
  obtain ⟨k, rfl⟩ := Int.eq_ofNat_of_zero_le b0
  exact ⟨k, hn, by unfold big; omega⟩
theorem open_things {base : Nat} {v : Value} {d : DataW H} {p : List MemPlace} (hval : Value.okWide Try.prog W .any base 56 v)
    (h : DataW.Trod enc Try.prog W 0 (fun _ => true) true 56 v d p) : ∃ (A : Option Addr) (c : Nat) (l : List Th), v = .slice A l.length c ∧ Things W A l c := by
  obtain ⟨a0, len, cap, rfl⟩ := okWide_slice Try.underlying56 hval
  obtain ⟨fuel, hf⟩ := h
  have hf' : DataW.trod enc Try.prog W 0 (fun _ => true) true fuel 56 [.slice a0 len cap] = some (d, p) := by simpa [Value.cells] using hf
  rcases Deep.open_slice_pairs Try.underlying56 Try.underlying58 cellsT rfl rfl cellsU cellsS hf' with ⟨hcs, _⟩ | ⟨a, len', cap', m, n, V0, V1, D0, D1, P0, P1, hcs, _, hl, hm, hmm, _, hx⟩
  · injection hcs with hcs
    rw [hcs]
    exact ⟨none, 0, [], rfl, fun h => by simp at h, Nat.le_refl _, Nat.zero_le _, by simp⟩
  · injection hcs with hcs
    simp only [Value.slice.injEq] at hcs
    obtain ⟨rfl, rfl, rfl⟩ := hcs
    simp only [if_true] at hmm
    subst hmm
    have key : ∀ i, i < m → ∃ y : Th, W.cell? (a.add (i * 2)) = some (.int .u64 (y.n : Int)) ∧ W.cell? (a.add (i * 2 + 1)) = some (.slice y.A y.p.length y.c) ∧ y.n < big ∧ Arg W y.A y.p y.c := by
      intro i hi
      obtain ⟨c0, c1, t0, t1⟩ := hx i hi
      obtain ⟨n0, e0, b0⟩ := num_of t0
      obtain ⟨A1, k1, p1, e1, g1⟩ := arg_of t1
      exact ⟨⟨n0, A1, k1, p1⟩, by rw [c0, e0], by rw [c1, e1], b0, g1⟩
    let f : Nat → Th := fun i => if h : i < m then (key i h).choose else ⟨0, none, 0, []⟩
    have hf1 : ∀ i (h : i < m), f i = (key i h).choose := fun i h => by simp only [f, dif_pos h]
    have hlen : ((List.range len).map f).length = len := by simp
    refine ⟨some a, m, (List.range len).map f, by rw [hlen], ?_, by rw [hlen]; exact hl, hm, ?_⟩
    · intro h0
      rw [hlen] at h0
      obtain ⟨b, off, spot⟩ := a
      have hspot : spot = none := by simpa [Addr.add] using World.cell?_spot (key 0 (by omega)).choose_spec.1
      subst hspot
      have hlt : b < W.heap.size := by
        have := World.block_lt_of_cell? W _ (key 0 (by omega)).choose_spec.1
        rwa [Vw.add_plain] at this
      refine ⟨b, off, rfl, hlt, fun j hj => ?_⟩
      rw [hlen] at hj
      have hj' : j < m := by omega
      have hs := (key j hj').choose_spec
      simp only [List.getElem_map, List.getElem_range, hf1 j hj']
      exact ⟨by rw [← Vw.add_plain b off (j * 2)]; exact hs.1, by rw [Nat.add_assoc, ← Vw.add_plain b off (j * 2 + 1)]; exact hs.2.1⟩
    · intro x hxm
      obtain ⟨i, hi, rfl⟩ := List.mem_map.1 hxm
      have hi' : i < m := by have := List.mem_range.1 hi; omega
      rw [hf1 i hi']
      exact (key i hi').choose_spec.2.2
end
end Go.Proofs.Ytngeocacbegjkaa.Vi
