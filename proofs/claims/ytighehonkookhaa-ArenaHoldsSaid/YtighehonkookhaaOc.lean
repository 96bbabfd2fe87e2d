/- Proves what ArenaHolds' row gives its walk: a list of calls among the arguments, opened, with the bounds of its numbers. No condition. -/
import Derived.Test.YtighehonkookhaaNo
import Derived.Test.YtighehonkookhaaOa
namespace Go.Proofs.Ytighehonkookhaa.Oc
open Go.ChangeShapes Go.WideShapes Go.ChangeAt Go.RowKit Go.Joins Nm Nw No
open Oa (In wf_in)

section
variable {H : Type} {enc : TypeId × Value → H} {W : World}
theorem int_at {base fuel : Nat} {spare : Nat → Bool} {held : Bool} {v : Value} {x : DataW H × List MemPlace} (h : DataW.trod enc Try.prog W base spare held fuel 3 [v] = some x) : ∃ n : Int, v = .int .i64 n ∧ In n := by
  obtain ⟨n, hn, _, hw⟩ := DataW.trod_int Try.underlying3 h
  injection hn with hn
  exact ⟨n, hn, wf_in hw⟩
theorem ref_at {base fuel : Nat} {spare : Nat → Bool} {held : Bool} {cs : List Value} {x : DataW H × List MemPlace} (h : DataW.trod enc Try.prog W base spare held fuel 35 cs = some x) : ∃ n y : Int, cs = [.int .i64 n, .int .i64 y] ∧ In n ∧ In y := by
  obtain ⟨y0, y1, k, _, hl, h0, h1⟩ := trod_struct2 Try.underlying35 h
  rw [cellsR] at hl
  obtain ⟨a, b, rfl⟩ := list2 hl
  simp only [cellsI, List.drop_zero, List.take_succ_cons, List.take_zero, List.drop_succ_cons] at h0 h1
  obtain ⟨n, rfl, hn⟩ := int_at h0
  obtain ⟨y, rfl, hy⟩ := int_at h1
  exact ⟨n, y, rfl, hn, hy⟩
theorem act_at {base fuel : Nat} {spare : Nat → Bool} {held : Bool} {cs : List Value} {x : DataW H × List MemPlace} (h : DataW.trod enc Try.prog W base spare held fuel 37 cs = some x) : ∃ a n y : Int, cs = [.int .i64 a, .int .i64 n, .int .i64 y] ∧ In n ∧ In y := by
  obtain ⟨y0, y1, k, _, hl, h0, h1⟩ := trod_struct2 Try.underlying37 h
  rw [cellsA] at hl
  obtain ⟨a, b, c, rfl⟩ := list3 hl
  simp only [cellsI, cellsR, List.drop_zero, List.take_succ_cons, List.take_zero, List.drop_succ_cons] at h0 h1
  obtain ⟨n, rfl, _⟩ := int_at h0
  obtain ⟨u, y, e, hu, hy⟩ := ref_at h1
  simp only [List.cons.injEq, and_true] at e
  exact ⟨n, u, y, by rw [e.1, e.2], hu, hy⟩
theorem open_acts {base : Nat} {v : Value} {d : DataW H} {p : List MemPlace} (hval : Value.okWide Try.prog W .any base 22 v)
    (h : DataW.Trod enc Try.prog W 0 (fun _ => true) true 22 v d p) : ∃ (A : Option Addr) (c : Nat) (l : List (Int × Int × Int)), v = .slice A l.length c ∧ (Rs W 3 A l.length c (acL l) ∧ ∀ x ∈ l, In x.2.1 ∧ In x.2.2) := by
  obtain ⟨a0, len, cap, rfl⟩ := okWide_slice Try.underlying22 hval
  obtain ⟨fuel, hf⟩ := h
  have hf' : DataW.trod enc Try.prog W 0 (fun _ => true) true fuel 22 [.slice a0 len cap] = some (d, p) := by simpa [Value.cells] using hf
  rcases Deep.open_slice Try.underlying22 hf' with ⟨hcs, _⟩ | ⟨a, len', cap', m, n, D, Pl, hcs, _, hl, hm, hmm, _, hx⟩
  · injection hcs with hcs
    rw [hcs]
    exact ⟨none, 0, [], rfl, Rs.nil _ _, by simp⟩
  · injection hcs with hcs
    simp only [Value.slice.injEq] at hcs
    obtain ⟨rfl, rfl, rfl⟩ := hcs
    simp only [if_true] at hmm
    subst hmm
    have key : ∀ i, i < m → ∃ y : Int × Int × Int, W.cell? (a.add (i * 3)) = some (.int .i64 y.1) ∧ W.cell? (a.add (i * 3 + 1)) = some (.int .i64 y.2.1) ∧ W.cell? (a.add (i * 3 + 2)) = some (.int .i64 y.2.2) ∧ In y.2.1 ∧ In y.2.2 := by
      intro i hi
      obtain ⟨cs, hcs, ht⟩ := hx i hi
      rw [cellsA] at hcs
      obtain ⟨_, hlen, hc⟩ := World.cells?_some hcs
      obtain ⟨u, n, y, rfl, hn, hy⟩ := act_at ht
      have e0 := hc 0 (by omega)
      have e1 := hc 1 (by omega)
      have e2 := hc 2 (by omega)
      rw [add_add] at e0 e1 e2
      exact ⟨(u, n, y), e0, e1, e2, hn, hy⟩
    let f : Nat → Int × Int × Int := fun i => if h : i < m then (key i h).choose else (0, 0, 0)
    have hf1 : ∀ i (h : i < m), f i = (key i h).choose := fun i h => by simp only [f, dif_pos h]
    have hlen : ((List.range len).map f).length = len := by simp
    refine ⟨some a, m, (List.range len).map f, by rw [hlen], ⟨?_, by rw [acL_len], by rw [hlen]; exact hl, hm, fun e => by cases e⟩, fun x hx => ?_⟩
    rotate_left
    · obtain ⟨i, hi, rfl⟩ := List.mem_map.1 hx
      have hi' : i < m := by have := List.mem_range.1 hi; omega
      rw [hf1 i hi']
      exact ⟨(key i hi').choose_spec.2.2.2.1, (key i hi').choose_spec.2.2.2.2⟩
    intro h0
    rw [acL_len, hlen] at h0
    obtain ⟨b, off, spot⟩ := a
    have hspot : spot = none := by simpa [Addr.add] using World.cell?_spot (key 0 (by omega)).choose_spec.1
    subst hspot
    have hlt : b < W.heap.size := by
      have := World.block_lt_of_cell? W _ (key 0 (by omega)).choose_spec.1
      rwa [Nw.add_lit] at this
    refine ⟨b, off, rfl, hlt, fun j hj => ?_⟩
    obtain ⟨k, r, hr, rfl⟩ : ∃ k r, r < 3 ∧ j = k * 3 + r := ⟨j / 3, j % 3, by omega, by omega⟩
    have hj' := hj
    rw [acL_len, hlen] at hj'
    have hk : k < len := by omega
    have hkm : k < m := by omega
    obtain ⟨g0, g1, g2⟩ := acL_get ((List.range len).map f) k (by rw [hlen]; exact hk)
    simp only [List.getElem_map, List.getElem_range, hf1 k hkm] at g0 g1 g2
    obtain ⟨s0, s1, s2, _, _⟩ := (key k hkm).choose_spec
    have : r = 0 ∨ r = 1 ∨ r = 2 := by omega
    have hs := List.getElem?_eq_getElem hj
    rw [← Nw.add_lit b off (k * 3 + r)]
    rcases this with rfl | rfl | rfl
    · exact s0.trans (g0.symm.trans hs)
    · exact s1.trans (g1.symm.trans hs)
    · exact s2.trans (g2.symm.trans hs)
end
end Go.Proofs.Ytighehonkookhaa.Oc
