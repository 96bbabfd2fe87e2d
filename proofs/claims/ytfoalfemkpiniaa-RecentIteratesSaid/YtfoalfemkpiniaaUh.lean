/- Proves what the rows of package recent's laws give the walks: lists of calls among the arguments, opened. No condition. -/
import Derived.Test.YtfoalfemkpiniaaUa
import Derived.Test.YtfoalfemkpiniaaBk
import Derived.Deep.Slices
import Derived.ChangeSame
import Derived.Lib.SmallJoins
import Derived.ProofKit
import Derived.OpenShut
namespace Go.Proofs.Ytfoalfemkpiniaa.Uh
open Go.ChangeShapes Go.WideShapes Go.ChangeAt Go.RowKit Go.Joins Nw

def In (n : Int) : Prop := -9223372036854775808 ≤ n ∧ n ≤ 9223372036854775807
theorem wf_in {n : Int} (h : (Lit.int .i64 n).wf = true) : In n := Go.bounds_i64 h
theorem cellsI : Try.prog.cellsOf 3 = 1 := by kernel_rfl
theorem cellsA : Try.prog.cellsOf 28 = 2 := by kernel_rfl
theorem add_add (a : Addr) (i j : Nat) : (a.add i).add j = a.add (i + j) := by
  unfold Addr.add
  by_cases hi : i = 0 <;> by_cases hj : j = 0 <;> simp [hi, hj, Nat.add_assoc]
theorem list2 {α : Type} {l : List α} (h : l.length = 2) : ∃ a b, l = [a, b] := by
  match l, h with
  | [a, b], _ => exact ⟨a, b, rfl⟩
/-- The cells of calls: which one, a number. -/
def acL (l : List (Int × Int)) : List Value := l.flatMap fun x => [.int .i64 x.1, .int .i64 x.2]
theorem acL_len : ∀ (l : List (Int × Int)), (acL l).length = l.length * 2
  | [] => rfl
  | x :: r => by
    have := acL_len r
    unfold acL at this ⊢
    rw [List.flatMap_cons, List.length_append, this]; simp; omega
theorem acL_get : ∀ (l : List (Int × Int)) (k : Nat) (hk : k < l.length), (acL l)[k * 2]? = some (.int .i64 l[k].1) ∧ (acL l)[k * 2 + 1]? = some (.int .i64 l[k].2)
  | [], _, hk => by simp at hk
  | x :: r, 0, _ => ⟨rfl, rfl⟩
  | x :: r, k + 1, hk => by
    have := acL_get r k (by simpa using hk)
    rw [show (k + 1) * 2 = k * 2 + 1 + 1 from by omega]
    unfold acL at this ⊢
    rw [List.flatMap_cons]
    exact this
section
variable {H : Type} {enc : TypeId × Value → H} {W : World}
theorem int_at {base fuel : Nat} {spare : Nat → Bool} {held : Bool} {v : Value} {x : DataW H × List MemPlace} (h : DataW.trod enc Try.prog W base spare held fuel 3 [v] = some x) : ∃ n : Int, v = .int .i64 n ∧ In n := by
  obtain ⟨n, hn, _, hw⟩ := DataW.trod_int Try.underlying3 h
  injection hn with hn
  exact ⟨n, hn, wf_in hw⟩
theorem act_at {base fuel : Nat} {spare : Nat → Bool} {held : Bool} {cs : List Value} {x : DataW H × List MemPlace} (h : DataW.trod enc Try.prog W base spare held fuel 28 cs = some x) : ∃ a n : Int, cs = [.int .i64 a, .int .i64 n] ∧ In n := by
  obtain ⟨y0, y1, k, _, hl, h0, h1⟩ := trod_struct2 Try.underlying28 h
  rw [cellsA] at hl
  obtain ⟨a, b, rfl⟩ := list2 hl
  simp only [cellsI, List.drop_zero, List.take_succ_cons, List.take_zero, List.drop_succ_cons] at h0 h1
  obtain ⟨n, rfl, _⟩ := int_at h0
  obtain ⟨y, rfl, hy⟩ := int_at h1
  exact ⟨n, y, rfl, hy⟩
theorem open_acts {base : Nat} {v : Value} {d : DataW H} {p : List MemPlace} (hval : Value.okWide Try.prog W .any base 22 v)
    (h : DataW.Trod enc Try.prog W 0 (fun _ => true) true 22 v d p) : ∃ (A : Option Addr) (c : Nat) (l : List (Int × Int)), v = .slice A l.length c ∧ (Rs W 2 A l.length c (acL l) ∧ ∀ x ∈ l, In x.2) := by
  obtain ⟨a0, len, cap, rfl⟩ := okWide_slice Try.underlying22 hval
  obtain ⟨fuel, hf⟩ := h
  have hf' : DataW.trod enc Try.prog W 0 (fun _ => true) true fuel 22 [.slice a0 len cap] = some (d, p) := by simpa [Value.cells] using hf
  rcases Deep.open_slice Try.underlying22 hf' with ⟨hcs, _⟩ | ⟨a, len', cap', m, n, D, Pl, hcs, _, hl, hm, hmm, _, hx⟩
  · injection hcs with hcs
    rw [hcs]
    exact ⟨none, 0, [], rfl, Rs.nil _ _, by simp⟩
  · injection hcs with hcs
    simp only [Value.slice.injEq] at hcs
    obtain ⟨rfl, rfl, rfl⟩ := hcs
    simp only [if_true] at hmm
    subst hmm
    have key : ∀ i, i < m → ∃ y : Int × Int, W.cell? (a.add (i * 2)) = some (.int .i64 y.1) ∧ W.cell? (a.add (i * 2 + 1)) = some (.int .i64 y.2) ∧ In y.2 := by
      intro i hi
      obtain ⟨cs, hcs, ht⟩ := hx i hi
      rw [cellsA] at hcs
      obtain ⟨_, hlen, hc⟩ := World.cells?_some hcs
      obtain ⟨u, n, rfl, hn⟩ := act_at ht
      have e0 := hc 0 (by omega)
      have e1 := hc 1 (by omega)
      rw [add_add] at e0 e1
      exact ⟨(u, n), e0, e1, hn⟩
    let f : Nat → Int × Int := fun i => if h : i < m then (key i h).choose else (0, 0)
    have hf1 : ∀ i (h : i < m), f i = (key i h).choose := fun i h => by simp only [f, dif_pos h]
    have hlen : ((List.range len).map f).length = len := by simp
    refine ⟨some a, m, (List.range len).map f, by rw [hlen], ⟨?_, by rw [acL_len], by rw [hlen]; exact hl, hm, fun e => by cases e⟩, fun x hx => ?_⟩
    rotate_left
    · obtain ⟨i, hi, rfl⟩ := List.mem_map.1 hx
      have hi' : i < m := by have := List.mem_range.1 hi; omega
      rw [hf1 i hi']
      exact (key i hi').choose_spec.2.2
    intro h0
    rw [acL_len, hlen] at h0
    obtain ⟨b, off, spot⟩ := a
    have hspot : spot = none := by simpa [Addr.add] using World.cell?_spot (key 0 (by omega)).choose_spec.1
    subst hspot
    have hlt : b < W.heap.size := by
      have := World.block_lt_of_cell? W _ (key 0 (by omega)).choose_spec.1
      rwa [Nw.add_lit] at this
    refine ⟨b, off, rfl, hlt, fun j hj => ?_⟩
    obtain ⟨k, r, hr, rfl⟩ : ∃ k r, r < 2 ∧ j = k * 2 + r := ⟨j / 2, j % 2, by omega, by omega⟩
    have hj' := hj
    rw [acL_len, hlen] at hj'
    have hk : k < len := by omega
    have hkm : k < m := by omega
    obtain ⟨g0, g1⟩ := acL_get ((List.range len).map f) k (by rw [hlen]; exact hk)
    simp only [List.getElem_map, List.getElem_range, hf1 k hkm] at g0 g1
    obtain ⟨s0, s1, _⟩ := (key k hkm).choose_spec
    have : r = 0 ∨ r = 1 := by omega
    have hs := List.getElem?_eq_getElem hj
    rw [← Nw.add_lit b off (k * 2 + r)]
    rcases this with rfl | rfl
    · exact s0.trans (g0.symm.trans hs)
    · exact s1.trans (g1.symm.trans hs)
end
end Go.Proofs.Ytfoalfemkpiniaa.Uh
