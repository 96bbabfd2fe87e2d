/- Proves what a row gives the walks of package account's laws: lists of calls, of numbers and of strings among the arguments, opened. No condition. -/
import Derived.Test.YtocfinhbocjbgaaJc
import Derived.Test.YtocfinhbocjbgaaBk
import Derived.Deep.Slices
import Derived.ChangeSame
import Derived.Lib.SmallJoins
import Derived.ProofKit
import Derived.OpenShut
namespace Go.Proofs.Ytocfinhbocjbgaa.Jl
open Go.ChangeShapes Go.WideShapes Go.ChangeAt Go.RowKit Go.Joins Go.Deep Ap Mi Nw

/-- A call: which one, two numbers. -/
abbrev Cal := Int × Int × Int
theorem cellsI : Try.prog.cellsOf 3 = 1 := by kernel_rfl
theorem cellsA : Try.prog.cellsOf 39 = 3 := by kernel_rfl
theorem add_add (a : Addr) (i j : Nat) : (a.add i).add j = a.add (i + j) := by
  unfold Addr.add
  by_cases hi : i = 0 <;> by_cases hj : j = 0 <;> simp [hi, hj, Nat.add_assoc]
theorem list3 {α : Type} {l : List α} (h : l.length = 3) : ∃ a b c, l = [a, b, c] := by
  match l, h with
  | [a, b, c], _ => exact ⟨a, b, c, rfl⟩
theorem list1 {α : Type} {l : List α} (h : l.length = 1) : ∃ a, l = [a] := by
  match l, h with
  | [a], _ => exact ⟨a, rfl⟩
/-- The cells of calls. -/
def acL (l : List Cal) : List Value := l.flatMap fun x => [.int .i64 x.1, .int .i64 x.2.1, .int .i64 x.2.2]
theorem acL_len : ∀ (l : List Cal), (acL l).length = l.length * 3
  | [] => rfl
  | x :: r => by
    have := acL_len r
    unfold acL at this ⊢
    rw [List.flatMap_cons, List.length_append, this]; simp; omega
theorem acL_get : ∀ (l : List Cal) (k : Nat) (hk : k < l.length), (acL l)[k * 3]? = some (.int .i64 l[k].1) ∧ (acL l)[k * 3 + 1]? = some (.int .i64 l[k].2.1) ∧ (acL l)[k * 3 + 2]? = some (.int .i64 l[k].2.2)
  | [], _, hk => by simp at hk
  | x :: r, 0, _ => ⟨rfl, rfl, rfl⟩
  | x :: r, k + 1, hk => by
    have := acL_get r k (by simpa using hk)
    rw [show (k + 1) * 3 = k * 3 + 1 + 1 + 1 from by omega]
    unfold acL at this ⊢
    rw [List.flatMap_cons]
    exact this
/-- The cells of numbers. -/
def inL (l : List Int) : List Value := l.map fun x => .int .i64 x
theorem inL_len (l : List Int) : (inL l).length = l.length := by unfold inL; simp
theorem inL_get {l : List Int} {k : Nat} (hk : k < l.length) : (inL l)[k]? = some (.int .i64 l[k]) := by unfold inL; rw [List.getElem?_map, List.getElem?_eq_getElem hk]; rfl
section
variable {H : Type} {enc : TypeId × Value → H} {W : World}
theorem int_at {base fuel : Nat} {spare : Nat → Bool} {held : Bool} {v : Value} {x : DataW H × List MemPlace} (h : DataW.trod enc Try.prog W base spare held fuel 3 [v] = some x) : ∃ n : Int, v = .int .i64 n := by
  obtain ⟨n, hn, _, hw⟩ := DataW.trod_int Try.underlying3 h
  injection hn with hn
  exact ⟨n, hn⟩
theorem act_at {base fuel : Nat} {spare : Nat → Bool} {held : Bool} {cs : List Value} {x : DataW H × List MemPlace} (h : DataW.trod enc Try.prog W base spare held fuel 39 cs = some x) : ∃ (a n t : Int), cs = [.int .i64 a, .int .i64 n, .int .i64 t] := by
  obtain ⟨y0, y1, y2, j, _, hl, h0, h1, h2⟩ := trod_struct3 Try.underlying39 h
  rw [cellsA] at hl
  obtain ⟨a, b, c, rfl⟩ := list3 hl
  simp only [cellsI, List.drop_zero, List.take_succ_cons, List.take_zero, List.drop_succ_cons] at h0 h1 h2
  obtain ⟨n, rfl⟩ := int_at h0
  obtain ⟨k, rfl⟩ := int_at h1
  obtain ⟨u, rfl⟩ := int_at h2
  exact ⟨n, k, u, rfl⟩
set_option maxRecDepth 100000 in
theorem open_acts {base : Nat} {v : Value} {d : DataW H} {p : List MemPlace} (hval : Value.okWide Try.prog W .any base 30 v)
    (h : DataW.Trod enc Try.prog W 0 (fun _ => true) true 30 v d p) : ∃ (A : Option Addr) (c : Nat) (l : List Cal), v = .slice A l.length c ∧ Rs W 3 A l.length c (acL l) := by
  obtain ⟨a0, len, cap, rfl⟩ := okWide_slice Try.underlying30 hval
  obtain ⟨fuel, hf⟩ := h
  have hf' : DataW.trod enc Try.prog W 0 (fun _ => true) true fuel 30 [.slice a0 len cap] = some (d, p) := by simpa [Value.cells] using hf
  rcases Deep.open_slice Try.underlying30 hf' with ⟨hcs, _⟩ | ⟨a, len', cap', m, n, D, Pl, hcs, _, hl, hm, hmm, _, hx⟩
  · injection hcs with hcs
    rw [hcs]
    exact ⟨none, 0, [], rfl, Rs.nil _ _⟩
  · injection hcs with hcs
    simp only [Value.slice.injEq] at hcs
    obtain ⟨rfl, rfl, rfl⟩ := hcs
    simp only [if_true] at hmm
    subst hmm
    have key : ∀ i, i < m → ∃ y : Cal, W.cell? (a.add (i * 3)) = some (.int .i64 y.1) ∧ W.cell? (a.add (i * 3 + 1)) = some (.int .i64 y.2.1) ∧ W.cell? (a.add (i * 3 + 2)) = some (.int .i64 y.2.2) := by
      intro i hi
      obtain ⟨cs, hcs, ht⟩ := hx i hi
      rw [cellsA] at hcs
      obtain ⟨_, hlen, hc⟩ := World.cells?_some hcs
      obtain ⟨u, n, y, rfl⟩ := act_at ht
      have e0 := hc 0 (by omega)
      have e1 := hc 1 (by omega)
      have e2 := hc 2 (by omega)
      rw [add_add] at e0 e1 e2
      exact ⟨(u, n, y), e0, e1, e2⟩
    let f : Nat → Cal := fun i => if h : i < m then (key i h).choose else (0, 0, 0)
    have hf1 : ∀ i (h : i < m), f i = (key i h).choose := fun i h => by simp only [f, dif_pos h]
    have hlen : ((List.range len).map f).length = len := by simp
    refine ⟨some a, m, (List.range len).map f, by rw [hlen], ⟨?_, by rw [acL_len], by rw [hlen]; exact hl, hm, fun e => by cases e⟩⟩
    intro h0
    rw [acL_len, hlen] at h0
    obtain ⟨b, off, spot⟩ := a
    have hspot : spot = none := by simpa [Addr.add] using World.cell?_spot (key 0 (by omega)).choose_spec.1
    subst hspot
    have hlt : b < W.heap.size := by
      have := World.block_lt_of_cell? W _ (key 0 (by omega)).choose_spec.1
      rwa [Nw.add_lit] at this
    refine ⟨b, off, rfl, hlt, fun j hj => ?_⟩
    obtain ⟨k, r, hr, rfl⟩ : ∃ k r, r < 3 ∧ j = k * 3 + r := ⟨j / 3, j % 3, by omega, by omega⟩
    have hj' := hj
    rw [acL_len, hlen] at hj'
    have hk : k < len := by omega
    have hkm : k < m := by omega
    obtain ⟨g0, g1, g2⟩ := acL_get ((List.range len).map f) k (by rw [hlen]; exact hk)
    simp only [List.getElem_map, List.getElem_range, hf1 k hkm] at g0 g1 g2
    obtain ⟨s0, s1, s2⟩ := (key k hkm).choose_spec
    have : r = 0 ∨ r = 1 ∨ r = 2 := by omega
    have hs := List.getElem?_eq_getElem hj
    rw [← Nw.add_lit b off (k * 3 + r)]
    rcases this with rfl | rfl | rfl
    · exact s0.trans (g0.symm.trans hs)
    · exact s1.trans (g1.symm.trans hs)
    · exact s2.trans (g2.symm.trans hs)
set_option maxRecDepth 100000 in
theorem open_ints {base : Nat} {v : Value} {d : DataW H} {p : List MemPlace} (hval : Value.okWide Try.prog W .any base 54 v)
    (h : DataW.Trod enc Try.prog W 0 (fun _ => true) true 54 v d p) : ∃ (A : Option Addr) (c : Nat) (l : List Int), v = .slice A l.length c ∧ Rs W 1 A l.length c (inL l) := by
  obtain ⟨a0, len, cap, rfl⟩ := okWide_slice Try.underlying54 hval
  obtain ⟨fuel, hf⟩ := h
  have hf' : DataW.trod enc Try.prog W 0 (fun _ => true) true fuel 54 [.slice a0 len cap] = some (d, p) := by simpa [Value.cells] using hf
  rcases Deep.open_slice Try.underlying54 hf' with ⟨hcs, _⟩ | ⟨a, len', cap', m, n, D, Pl, hcs, _, hl, hm, hmm, _, hx⟩
  · injection hcs with hcs
    rw [hcs]
    exact ⟨none, 0, [], rfl, Rs.nil _ _⟩
  · injection hcs with hcs
    simp only [Value.slice.injEq] at hcs
    obtain ⟨rfl, rfl, rfl⟩ := hcs
    simp only [if_true] at hmm
    subst hmm
    have key : ∀ i, i < m → ∃ y : Int, W.cell? (a.add i) = some (.int .i64 y) := by
      intro i hi
      obtain ⟨cs, hcs, ht⟩ := hx i hi
      rw [cellsI] at hcs
      obtain ⟨_, hlen, hc⟩ := World.cells?_some hcs
      obtain ⟨z, rfl⟩ := list1 hlen
      obtain ⟨y, rfl⟩ := int_at ht
      have e0 := hc 0 (by omega)
      rw [add_add] at e0
      exact ⟨y, by simpa using e0⟩
    let f : Nat → Int := fun i => if h : i < m then (key i h).choose else 0
    have hf1 : ∀ i (h : i < m), f i = (key i h).choose := fun i h => by simp only [f, dif_pos h]
    have hlen : ((List.range len).map f).length = len := by simp
    refine ⟨some a, m, (List.range len).map f, by rw [hlen], ⟨?_, by rw [inL_len]; simp, by rw [hlen]; exact hl, hm, fun e => by cases e⟩⟩
    intro h0
    rw [inL_len, hlen] at h0
    obtain ⟨b, off, spot⟩ := a
    have hspot : spot = none := by simpa [Addr.add] using World.cell?_spot (key 0 (by omega)).choose_spec
    subst hspot
    have hlt : b < W.heap.size := by
      have := World.block_lt_of_cell? W _ (key 0 (by omega)).choose_spec
      rwa [Nw.add_lit] at this
    refine ⟨b, off, rfl, hlt, fun k hj => ?_⟩
    have hj' := hj
    rw [inL_len, hlen] at hj'
    have hkm : k < m := by omega
    have g0 := inL_get (l := (List.range len).map f) (k := k) (by rw [hlen]; exact hj')
    simp only [List.getElem_map, List.getElem_range, hf1 k hkm] at g0
    have s0 := (key k hkm).choose_spec
    have hs := List.getElem?_eq_getElem hj
    rw [← Nw.add_lit b off k]
    exact s0.trans (g0.symm.trans hs)
theorem cellsS : Try.prog.cellsOf 9 = 1 := by kernel_rfl
theorem str_at {base fuel : Nat} {spare : Nat → Bool} {held : Bool} {v : Value} {x : DataW H × List MemPlace} (h : DataW.trod enc Try.prog W base spare held fuel 9 [v] = some x) : ∃ k : ByteArray, v = .string k ∧ k.size ≤ 9223372036854775807 := by
  obtain ⟨s, hs, _, hw⟩ := DataW.trod_string Try.underlying9 h
  injection hs with hs
  exact ⟨s, hs, by unfold maxLen at hw; omega⟩
set_option maxRecDepth 100000 in
theorem open_strs {base : Nat} {v : Value} {d : DataW H} {p : List MemPlace} (hval : Value.okWide Try.prog W .any base 22 v)
    (h : DataW.Trod enc Try.prog W 0 (fun _ => true) true 22 v d p) : ∃ (A : Option Addr) (c : Nat) (l : List ByteArray), v = .slice A l.length c ∧ (Jc.Sl W A l c ∧ ∀ x ∈ l, x.size ≤ 9223372036854775807) := by
  obtain ⟨a0, len, cap, rfl⟩ := okWide_slice Try.underlying22 hval
  obtain ⟨fuel, hf⟩ := h
  have hf' : DataW.trod enc Try.prog W 0 (fun _ => true) true fuel 22 [.slice a0 len cap] = some (d, p) := by simpa [Value.cells] using hf
  rcases Deep.open_slice Try.underlying22 hf' with ⟨hcs, _⟩ | ⟨a, len', cap', m, n, D, Pl, hcs, _, hl, hm, hmm, _, hx⟩
  · injection hcs with hcs
    rw [hcs]
    exact ⟨none, 0, [], rfl, Rs.nil _ _, by simp⟩
  · injection hcs with hcs
    simp only [Value.slice.injEq] at hcs
    obtain ⟨rfl, rfl, rfl⟩ := hcs
    simp only [if_true] at hmm
    subst hmm
    have key : ∀ i, i < m → ∃ y : ByteArray, W.cell? (a.add i) = some (.string y) ∧ y.size ≤ 9223372036854775807 := by
      intro i hi
      obtain ⟨cs, hcs, ht⟩ := hx i hi
      rw [cellsS] at hcs
      obtain ⟨_, hlen, hc⟩ := World.cells?_some hcs
      obtain ⟨z, rfl⟩ := list1 hlen
      obtain ⟨y, rfl, hy⟩ := str_at ht
      have e0 := hc 0 (by omega)
      rw [add_add] at e0
      exact ⟨y, by simpa using e0, hy⟩
    let f : Nat → ByteArray := fun i => if h : i < m then (key i h).choose else ⟨#[]⟩
    have hf1 : ∀ i (h : i < m), f i = (key i h).choose := fun i h => by simp only [f, dif_pos h]
    have hlen : ((List.range len).map f).length = len := by simp
    have hsl : (Jc.strs ((List.range len).map f)).length = len := by unfold Jc.strs; simp
    refine ⟨some a, m, (List.range len).map f, by rw [hlen], ⟨?_, by rw [hsl, hlen, Nat.mul_one], by rw [hlen]; exact hl, hm, fun e => by cases e⟩, fun x hx => ?_⟩
    rotate_left
    · obtain ⟨i, hi, rfl⟩ := List.mem_map.1 hx
      have hi' : i < m := by have := List.mem_range.1 hi; omega
      rw [hf1 i hi']
      exact (key i hi').choose_spec.2
    intro h0
    rw [hsl] at h0
    obtain ⟨b, off, spot⟩ := a
    have hspot : spot = none := by simpa [Addr.add] using World.cell?_spot (key 0 (by omega)).choose_spec.1
    subst hspot
    have hlt : b < W.heap.size := by
      have := World.block_lt_of_cell? W _ (key 0 (by omega)).choose_spec.1
      rwa [Nw.add_lit] at this
    refine ⟨b, off, rfl, hlt, fun k hj => ?_⟩
    have hj' := hj
    rw [hsl] at hj'
    have hkm : k < m := by omega
    obtain ⟨s0, _⟩ := (key k hkm).choose_spec
    rw [← Nw.add_lit b off k]
    refine s0.trans ?_
    simp only [Jc.strs, List.getElem_map, List.getElem_range, hf1 k hkm]
end
end Go.Proofs.Ytocfinhbocjbgaa.Jl
