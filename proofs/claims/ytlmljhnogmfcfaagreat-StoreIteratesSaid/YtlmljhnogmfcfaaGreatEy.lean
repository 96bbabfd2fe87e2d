/- Proves what a row gives the walks of package store's laws: an entry, and a list of calls, among the arguments, opened. No condition. -/
import Derived.Test.YtlmljhnogmfcfaaGreatEt
import Derived.Test.YtlmljhnogmfcfaaGreatBk
import Derived.Deep.Slices
import Derived.ChangeSame
import Derived.Lib.SmallJoins
import Derived.ProofKit
import Derived.OpenShut
namespace Go.Proofs.YtlmljhnogmfcfaaGreat.Ey
open Go.ChangeShapes Go.WideShapes Go.ChangeAt Go.RowKit Go.Joins Go.Deep Ap Mi Nw Ea Eb El Et

theorem add_add (a : Addr) (i j : Nat) : (a.add i).add j = a.add (i + j) := by
 unfold Addr.add
 by_cases hi : i = 0 <;> by_cases hj : j = 0 <;> simp [hi, hj, Nat.add_assoc]
theorem flat_get {β : Type} {g : β → List Value} {sz : Nat} (hg : ∀ y, (g y).length = sz) : ∀ (l : List β) (k : Nat) (h : k < l.length) (j : Nat), j < sz → (l.flatMap g)[k * sz + j]? = (g l[k])[j]?
 | [], _, h, _, _ => by simp at h
 | x :: r, 0, _, j, hj => by
  rw [List.flatMap_cons, List.getElem?_append_left (by rw [hg]; omega)]; simp
 | x :: r, k + 1, h, j, hj => by
  have := flat_get hg r k (by simpa using h) j hj
  rw [List.flatMap_cons, List.getElem?_append_right (by rw [hg, Nat.add_mul]; omega)]
  rw [show (k + 1) * sz + j - (g x).length = k * sz + j from by rw [hg, Nat.add_mul]; omega]
  exact this
theorem flat_len {β : Type} {g : β → List Value} {sz : Nat} (hg : ∀ y, (g y).length = sz) : ∀ (l : List β), (l.flatMap g).length = l.length * sz
 | [] => by simp
 | x :: r => by rw [List.flatMap_cons, List.length_append, flat_len hg r, hg, List.length_cons, Nat.add_mul]; omega
theorem row_of {W : World} {β : Type} (z : β) (g : β → List Value) (sz : Nat) (hp : 0 < sz) (hg : ∀ y, (g y).length = sz) (p : β → Prop) {a : Addr} {len cap : Nat} (hl : len ≤ cap) (hm : cap ≤ maxLen)
  (key : ∀ i, i < cap → ∃ y : β, (∀ j, j < sz → W.cell? (a.add (i * sz + j)) = (g y)[j]?) ∧ p y) :
  ∃ l : List β, l.length = len ∧ Rs W sz (some a) len cap (l.flatMap g) ∧ (∀ y ∈ l, p y) ∧ (l ≠ [] → a.block < W.heap.size) := by
 let f : Nat → β := fun i => if h : i < cap then (key i h).choose else z
 have hf1 : ∀ i (h : i < cap), f i = (key i h).choose := fun i h => by simp only [f, dif_pos h]
 have hlen : ((List.range len).map f).length = len := by simp
 have hcell : ∀ i, i < cap → ∀ j, j < sz → (W.cell? (a.add (i * sz + j))).isSome = true := fun i hi j hj => by
  rw [(key i hi).choose_spec.1 j hj, List.getElem?_eq_getElem (by rw [hg]; exact hj)]; rfl
 have h00 : 0 < cap → a.spot = none ∧ a.block < W.heap.size := fun h0 => by
  have h1 := hcell 0 h0 0 hp
  obtain ⟨v, hv⟩ := Option.isSome_iff_exists.1 h1
  obtain ⟨b, off, spot⟩ := a
  have hspot : spot = none := by simpa [Addr.add] using World.cell?_spot hv
  subst hspot
  have := World.block_lt_of_cell? W _ hv
  rw [Nw.add_lit] at this
  exact ⟨rfl, this⟩
 refine ⟨(List.range len).map f, hlen, ⟨?_, by rw [flat_len hg, hlen], hl, hm, fun e => by cases e⟩, fun y hy => ?_, fun hne => ?_⟩
 ·intro h0
  rw [flat_len hg, hlen] at h0
  have hc0 : 0 < cap := by
   rcases Nat.eq_zero_or_pos len with e | e
   ·rw [e] at h0; simp at h0
   ·omega
  obtain ⟨hspot, hlt⟩ := h00 hc0
  obtain ⟨b, off, spot⟩ := a
  simp only at hspot hlt
  subst hspot
  refine ⟨b, off, rfl, hlt, fun i hi => ?_⟩
  have hi' := hi
  rw [flat_len hg, hlen] at hi'
  have hk : i / sz < len := Nat.div_lt_of_lt_mul (by rw [Nat.mul_comm]; exact hi')
  have hj : i % sz < sz := Nat.mod_lt _ hp
  have e : i / sz * sz + i % sz = i := by rw [Nat.mul_comm]; exact Nat.div_add_mod i sz
  have g0 := flat_get hg ((List.range len).map f) (i / sz) (by rw [hlen]; exact hk) (i % sz) hj
  have hkm : i / sz < cap := by omega
  simp only [List.getElem_map, List.getElem_range, hf1 _ hkm] at g0
  have s0 := (key _ hkm).choose_spec.1 _ hj
  rw [← Nw.add_lit b off i]
  have s1 := s0.trans g0.symm
  rw [e] at s1
  rw [s1]
  exact List.getElem?_eq_getElem hi
 ·obtain ⟨i, hi, rfl⟩ := List.mem_map.1 hy
  have hi' : i < cap := by have := List.mem_range.1 hi; omega
  rw [hf1 i hi']
  exact (key i hi').choose_spec.2
 ·have : 0 < cap := by
   rcases Nat.eq_zero_or_pos len with e | e
   ·subst e; exact absurd rfl hne
   ·omega
  exact (h00 this).2
theorem cellsS : Tryz.prog.cellsOf 9 = 1 := by kernel_rfl
theorem list1 {α : Type} {l : List α} (h : l.length = 1) : ∃ a, l = [a] := by
 match l, h with
 | [a], _ => exact ⟨a, rfl⟩
section
variable {H : Type} {enc : TypeId × Value → H} {W : World}
theorem str_at {base fuel : Nat} {spare : Nat → Bool} {held : Bool} {v : Value} {x : DataW H × List MemPlace} (h : DataW.trod enc Tryz.prog W base spare held fuel 9 [v] = some x) : ∃ k : ByteArray, v = .string k ∧ k.size ≤ 9223372036854775807 := by
 obtain ⟨s, hs, _, hw⟩ := DataW.trod_string Tryz.underlying9 h
 injection hs with hs
 exact ⟨s, hs, by unfold maxLen at hw; omega⟩
theorem map_flat {α : Type} (g : α → Value) (l : List α) : l.map g = l.flatMap fun y => [g y] := by
 induction l with
 | nil => rfl
 | cons x r ih => rw [List.map_cons, List.flatMap_cons, ih]; rfl
theorem strs_at {base fuel : Nat} {v : Value} {x : DataW H × List MemPlace} (h : DataW.trod enc Tryz.prog W base (fun _ => true) true fuel 39 [v] = some x) :
  ∃ (A : Option Addr) (c : Nat) (l : List ByteArray), v = .slice A l.length c ∧ Rs W 1 A l.length c (Eb.strs l) ∧ (∀ t ∈ l, t.size ≤ 9223372036854775807) ∧ (l ≠ [] → ∀ a, A = some a → a.block < W.heap.size) := by
 rcases Deep.open_slice Tryz.underlying39 h with ⟨hcs, _⟩ | ⟨a, len, cap, m, n, D, Pl, hcs, _, hl, hm, hmm, _, hx⟩
 ·injection hcs with hcs
  exact ⟨none, 0, [], hcs, Rs.nil _ _, by simp, fun h => absurd rfl h⟩
 ·injection hcs with hcs
  simp only [if_true] at hmm
  subst hmm
  obtain ⟨l, h1, h2, h3, h4⟩ := row_of (W := W) (⟨#[]⟩ : ByteArray) (fun b => [Value.string b]) 1 (by omega) (fun _ => rfl) (fun t => t.size ≤ 9223372036854775807) hl hm (fun i hi => by
   obtain ⟨cs, hcs, ht⟩ := hx i hi
   rw [cellsS] at hcs
   obtain ⟨_, hlen, hc⟩ := World.cells?_some hcs
   obtain ⟨z, rfl⟩ := list1 hlen
   obtain ⟨b, rfl, hb⟩ := str_at ht
   refine ⟨b, fun j hj => ?_, hb⟩
   have e0 := hc j hj
   rw [add_add] at e0
   exact e0)
  subst h1
  refine ⟨some a, m, l, hcs, ?_, h3, fun hne b hb => by cases hb; exact h4 hne⟩
  unfold Eb.strs
  rw [map_flat]
  exact h2
end
end Go.Proofs.YtlmljhnogmfcfaaGreat.Ey
