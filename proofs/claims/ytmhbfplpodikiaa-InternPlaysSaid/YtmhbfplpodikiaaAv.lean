/- Proves what a row gives the walks of InternPlays and InternHolds: a list of calls among the arguments, opened. No condition. -/
import Derived.Test.YtmhbfplpodikiaaAl
import Derived.Test.YtmhbfplpodikiaaBk
import Derived.Deep.Slices
import Derived.ChangeSame
import Derived.Lib.SmallJoins
import Derived.ProofKit
import Derived.OpenShut
namespace Go.Proofs.Ytmhbfplpodikiaa.Av
open Go.ChangeShapes Go.WideShapes Go.ChangeAt Go.RowKit Go.Joins Go.Deep Ap Mi Nw Al

theorem cellsI : Try.prog.cellsOf 3 = 1 := by kernel_rfl
theorem cellsS : Try.prog.cellsOf 9 = 1 := by kernel_rfl
theorem cellsA : Try.prog.cellsOf 36 = 3 := by kernel_rfl
theorem add_add (a : Addr) (i j : Nat) : (a.add i).add j = a.add (i + j) := by
  unfold Addr.add
  by_cases hi : i = 0 <;> by_cases hj : j = 0 <;> simp [hi, hj, Nat.add_assoc]
theorem list3 {α : Type} {l : List α} (h : l.length = 3) : ∃ a b c, l = [a, b, c] := by
  match l, h with
  | [a, b, c], _ => exact ⟨a, b, c, rfl⟩
theorem caL_len : ∀ (l : List Ca), (caL l).length = l.length * 3
  | [] => rfl
  | x :: r => by
    have := caL_len r
    unfold caL at this ⊢
    rw [List.flatMap_cons, List.length_append, this, List.length_cons]
    show 3 + r.length * 3 = (r.length + 1) * 3
    omega
section
variable {H : Type} {enc : TypeId × Value → H} {W : World}
theorem int_at {base fuel : Nat} {spare : Nat → Bool} {held : Bool} {v : Value} {x : DataW H × List MemPlace} (h : DataW.trod enc Try.prog W base spare held fuel 3 [v] = some x) : ∃ n : Int, v = .int .i64 n := by
  obtain ⟨n, hn, _, _⟩ := DataW.trod_int Try.underlying3 h
  injection hn with hn
  exact ⟨n, hn⟩
theorem str_at {base fuel : Nat} {spare : Nat → Bool} {held : Bool} {v : Value} {x : DataW H × List MemPlace} (h : DataW.trod enc Try.prog W base spare held fuel 9 [v] = some x) : ∃ k : ByteArray, v = .string k := by
  obtain ⟨s, hs, _, _⟩ := DataW.trod_string Try.underlying9 h
  injection hs with hs
  exact ⟨s, hs⟩
set_option maxRecDepth 100000 in
theorem act_at {base fuel : Nat} {spare : Nat → Bool} {held : Bool} {cs : List Value} {x : DataW H × List MemPlace} (h : DataW.trod enc Try.prog W base spare held fuel 36 cs = some x) : ∃ y : Ca, cs = caC y := by
  obtain ⟨y0, y1, y2, j, _, hl, h0, h1, h2⟩ := trod_struct3 Try.underlying36 h
  rw [cellsA] at hl
  obtain ⟨a, b, c, rfl⟩ := list3 hl
  simp only [cellsI, cellsS, List.drop_zero, List.take_succ_cons, List.take_zero, List.drop_succ_cons] at h0 h1 h2
  obtain ⟨n, rfl⟩ := int_at h0
  obtain ⟨u, rfl⟩ := int_at h1
  obtain ⟨k, rfl⟩ := str_at h2
  exact ⟨⟨n, u, k⟩, rfl⟩
set_option maxRecDepth 100000 in
theorem open_acts {base : Nat} {v : Value} {d : DataW H} {p : List MemPlace} (hval : Value.okWide Try.prog W .any base 33 v)
    (h : DataW.Trod enc Try.prog W 0 (fun _ => true) true 33 v d p) : ∃ (A : Option Addr) (c : Nat) (l : List Ca), v = .slice A l.length c ∧ Rs W 3 A l.length c (caL l) := by
  obtain ⟨a0, len, cap, rfl⟩ := okWide_slice Try.underlying33 hval
  obtain ⟨fuel, hf⟩ := h
  have hf' : DataW.trod enc Try.prog W 0 (fun _ => true) true fuel 33 [.slice a0 len cap] = some (d, p) := by simpa [Value.cells] using hf
  rcases Deep.open_slice Try.underlying33 hf' with ⟨hcs, _⟩ | ⟨a, len', cap', m, n, D, Pl, hcs, _, hl, hm, hmm, _, hx⟩
  · injection hcs with hcs
    rw [hcs]
    exact ⟨none, 0, [], rfl, Rs.nil _ _⟩
  · injection hcs with hcs
    simp only [Value.slice.injEq] at hcs
    obtain ⟨rfl, rfl, rfl⟩ := hcs
    simp only [if_true] at hmm
    subst hmm
    have key : ∀ i, i < m → ∃ y : Ca, W.cell? (a.add (i * 3)) = some (.int .i64 y.q) ∧ W.cell? (a.add (i * 3 + 1)) = some (.int .i64 y.n) ∧ W.cell? (a.add (i * 3 + 2)) = some (.string y.k) := by
      intro i hi
      obtain ⟨cs, hcs, ht⟩ := hx i hi
      rw [cellsA] at hcs
      obtain ⟨_, hlen, hc⟩ := World.cells?_some hcs
      obtain ⟨y, rfl⟩ := act_at ht
      have e0 := hc 0 (by omega)
      have e1 := hc 1 (by omega)
      have e2 := hc 2 (by omega)
      rw [add_add] at e0 e1 e2
      exact ⟨y, e0, e1, e2⟩
    let f : Nat → Ca := fun i => if h : i < m then (key i h).choose else ⟨0, 0, ⟨#[]⟩⟩
    have hf1 : ∀ i (h : i < m), f i = (key i h).choose := fun i h => by simp only [f, dif_pos h]
    have hlen : ((List.range len).map f).length = len := by simp
    refine ⟨some a, m, (List.range len).map f, by rw [hlen], ⟨?_, by rw [caL_len], by rw [hlen]; exact hl, hm, fun e => by cases e⟩⟩
    intro h0
    rw [caL_len, hlen] at h0
    obtain ⟨b, off, spot⟩ := a
    have hspot : spot = none := by simpa [Addr.add] using World.cell?_spot (key 0 (by omega)).choose_spec.1
    subst hspot
    have hlt : b < W.heap.size := by
      have := World.block_lt_of_cell? W _ (key 0 (by omega)).choose_spec.1
      rwa [Nw.add_lit] at this
    refine ⟨b, off, rfl, hlt, fun j hj => ?_⟩
    obtain ⟨k, r, hr, rfl⟩ : ∃ k r, r < 3 ∧ j = k * 3 + r := ⟨j / 3, j % 3, by omega, by omega⟩
    have hj' := hj
    rw [caL_len, hlen] at hj'
    have hk : k < len := by omega
    have hkm : k < m := by omega
    obtain ⟨g0, g1, g2⟩ := caL_get ((List.range len).map f) k (by rw [hlen]; exact hk)
    simp only [List.getElem_map, List.getElem_range, hf1 k hkm] at g0 g1 g2
    obtain ⟨s0, s1, s2⟩ := (key k hkm).choose_spec
    have : r = 0 ∨ r = 1 ∨ r = 2 := by omega
    have hs := List.getElem?_eq_getElem hj
    rw [← Nw.add_lit b off (k * 3 + r)]
    rcases this with rfl | rfl | rfl
    · exact s0.trans (g0.symm.trans hs)
    · exact s1.trans (g1.symm.trans hs)
    · exact s2.trans (g2.symm.trans hs)
end
end Go.Proofs.Ytmhbfplpodikiaa.Av
