/- Proves what a row gives the walks of TablePlays and TableHolds: a list of calls among the arguments, opened; and what the law's check of its size returns. No condition. -/
import Derived.Test.YthabnffmlgppdaaPk
import Derived.Test.YthabnffmlgppdaaBk
import Derived.Deep.Slices
import Derived.Deep.Strs
import Derived.ChangeSame
import Derived.Lib.SmallJoins
import Derived.ProofKit
import Derived.OpenShut
namespace Go.Proofs.Ythabnffmlgppdaa.Px
open Go.ChangeShapes Go.WideShapes Go.ChangeAt Go.RowKit Go.Joins Go.Deep Ap Mi Nw Ta Pk

/-- A call: which one, a key, a number. -/
abbrev Act := Int × Key × Int
def In (n : Int) : Prop := -9223372036854775808 ≤ n ∧ n ≤ 9223372036854775807
theorem cellsI : Try.prog.cellsOf 3 = 1 := by kernel_rfl
theorem cellsS : Try.prog.cellsOf 9 = 1 := by kernel_rfl
theorem cellsA : Try.prog.cellsOf 34 = 3 := by kernel_rfl
theorem add_add (a : Addr) (i j : Nat) : (a.add i).add j = a.add (i + j) := by
  unfold Addr.add
  by_cases hi : i = 0 <;> by_cases hj : j = 0 <;> simp [hi, hj, Nat.add_assoc]
theorem list3 {α : Type} {l : List α} (h : l.length = 3) : ∃ a b c, l = [a, b, c] := by
  match l, h with
  | [a, b, c], _ => exact ⟨a, b, c, rfl⟩
/-- The cells of calls. -/
def acL (l : List Act) : List Value := l.flatMap fun x => [.int .i64 x.1, .string ⟨x.2.1.toArray⟩, .int .i64 x.2.2]
theorem acL_len : ∀ (l : List Act), (acL l).length = l.length * 3
  | [] => rfl
  | x :: r => by
    have := acL_len r
    unfold acL at this ⊢
    rw [List.flatMap_cons, List.length_append, this]; simp; omega
theorem acL_get : ∀ (l : List Act) (k : Nat) (hk : k < l.length), (acL l)[k * 3]? = some (.int .i64 l[k].1) ∧ (acL l)[k * 3 + 1]? = some (.string ⟨l[k].2.1.toArray⟩) ∧ (acL l)[k * 3 + 2]? = some (.int .i64 l[k].2.2)
  | [], _, hk => by simp at hk
  | x :: r, 0, _ => ⟨rfl, rfl, rfl⟩
  | x :: r, k + 1, hk => by
    have := acL_get r k (by simpa using hk)
    rw [show (k + 1) * 3 = k * 3 + 1 + 1 + 1 from by omega]
    unfold acL at this ⊢
    rw [List.flatMap_cons]
    exact this
section
variable {H : Type} {enc : TypeId × Value → H} {W : World}
theorem int_at {base fuel : Nat} {spare : Nat → Bool} {held : Bool} {v : Value} {x : DataW H × List MemPlace} (h : DataW.trod enc Try.prog W base spare held fuel 3 [v] = some x) : ∃ n : Int, v = .int .i64 n ∧ In n := by
  obtain ⟨n, hn, _, hw⟩ := DataW.trod_int Try.underlying3 h
  injection hn with hn
  exact ⟨n, hn, Go.bounds_i64 hw⟩
theorem str_at {base fuel : Nat} {spare : Nat → Bool} {held : Bool} {v : Value} {x : DataW H × List MemPlace} (h : DataW.trod enc Try.prog W base spare held fuel 9 [v] = some x) : ∃ k : Key, v = .string ⟨k.toArray⟩ ∧ k.length ≤ 9223372036854775807 := by
  obtain ⟨s, hs, _, hw⟩ := DataW.trod_string Try.underlying9 h
  injection hs with hs
  obtain ⟨k, rfl, hk⟩ := key_of s
  exact ⟨k, hs, by rw [hk]; unfold maxLen at hw; omega⟩
theorem act_at {base fuel : Nat} {spare : Nat → Bool} {held : Bool} {cs : List Value} {x : DataW H × List MemPlace} (h : DataW.trod enc Try.prog W base spare held fuel 34 cs = some x) : ∃ (a : Int) (k : Key) (n : Int), cs = [.int .i64 a, .string ⟨k.toArray⟩, .int .i64 n] ∧ k.length ≤ 9223372036854775807 ∧ In n := by
  obtain ⟨y0, y1, y2, j, _, hl, h0, h1, h2⟩ := trod_struct3 Try.underlying34 h
  rw [cellsA] at hl
  obtain ⟨a, b, c, rfl⟩ := list3 hl
  simp only [cellsI, cellsS, List.drop_zero, List.take_succ_cons, List.take_zero, List.drop_succ_cons] at h0 h1 h2
  obtain ⟨n, rfl, _⟩ := int_at h0
  obtain ⟨k, rfl, hk⟩ := str_at h1
  obtain ⟨u, rfl, hu⟩ := int_at h2
  exact ⟨n, k, u, rfl, hk, hu⟩
theorem open_acts {base : Nat} {v : Value} {d : DataW H} {p : List MemPlace} (hval : Value.okWide Try.prog W .any base 23 v)
    (h : DataW.Trod enc Try.prog W 0 (fun _ => true) true 23 v d p) : ∃ (A : Option Addr) (c : Nat) (l : List Act), v = .slice A l.length c ∧ (Rs W 3 A l.length c (acL l) ∧ ∀ x ∈ l, x.2.1.length ≤ 9223372036854775807 ∧ In x.2.2) := by
  obtain ⟨a0, len, cap, rfl⟩ := okWide_slice Try.underlying23 hval
  obtain ⟨fuel, hf⟩ := h
  have hf' : DataW.trod enc Try.prog W 0 (fun _ => true) true fuel 23 [.slice a0 len cap] = some (d, p) := by simpa [Value.cells] using hf
  rcases Deep.open_slice Try.underlying23 hf' with ⟨hcs, _⟩ | ⟨a, len', cap', m, n, D, Pl, hcs, _, hl, hm, hmm, _, hx⟩
  · injection hcs with hcs
    rw [hcs]
    exact ⟨none, 0, [], rfl, Rs.nil _ _, by simp⟩
  · injection hcs with hcs
    simp only [Value.slice.injEq] at hcs
    obtain ⟨rfl, rfl, rfl⟩ := hcs
    simp only [if_true] at hmm
    subst hmm
    have key : ∀ i, i < m → ∃ y : Act, W.cell? (a.add (i * 3)) = some (.int .i64 y.1) ∧ W.cell? (a.add (i * 3 + 1)) = some (.string ⟨y.2.1.toArray⟩) ∧ W.cell? (a.add (i * 3 + 2)) = some (.int .i64 y.2.2) ∧ y.2.1.length ≤ 9223372036854775807 ∧ In y.2.2 := by
      intro i hi
      obtain ⟨cs, hcs, ht⟩ := hx i hi
      rw [cellsA] at hcs
      obtain ⟨_, hlen, hc⟩ := World.cells?_some hcs
      obtain ⟨u, n, y, rfl, hn, hy⟩ := act_at ht
      have e0 := hc 0 (by omega)
      have e1 := hc 1 (by omega)
      have e2 := hc 2 (by omega)
      rw [add_add] at e0 e1 e2
      exact ⟨(u, n, y), e0, e1, e2, hn, hy⟩
    let f : Nat → Act := fun i => if h : i < m then (key i h).choose else (0, [], 0)
    have hf1 : ∀ i (h : i < m), f i = (key i h).choose := fun i h => by simp only [f, dif_pos h]
    have hlen : ((List.range len).map f).length = len := by simp
    refine ⟨some a, m, (List.range len).map f, by rw [hlen], ⟨?_, by rw [acL_len], by rw [hlen]; exact hl, hm, fun e => by cases e⟩, fun x hx => ?_⟩
    rotate_left
    · obtain ⟨i, hi, rfl⟩ := List.mem_map.1 hx
      have hi' : i < m := by have := List.mem_range.1 hi; omega
      rw [hf1 i hi']
      exact ⟨(key i hi').choose_spec.2.2.2.1, (key i hi').choose_spec.2.2.2.2⟩
    intro h0
    rw [acL_len, hlen] at h0
    obtain ⟨b, off, spot⟩ := a
    have hspot : spot = none := by simpa [Addr.add] using World.cell?_spot (key 0 (by omega)).choose_spec.1
    subst hspot
    have hlt : b < W.heap.size := by
      have := World.block_lt_of_cell? W _ (key 0 (by omega)).choose_spec.1
      rwa [Nw.add_lit] at this
    refine ⟨b, off, rfl, hlt, fun j hj => ?_⟩
    obtain ⟨k, r, hr, rfl⟩ : ∃ k r, r < 3 ∧ j = k * 3 + r := ⟨j / 3, j % 3, by omega, by omega⟩
    have hj' := hj
    rw [acL_len, hlen] at hj'
    have hk : k < len := by omega
    have hkm : k < m := by omega
    obtain ⟨g0, g1, g2⟩ := acL_get ((List.range len).map f) k (by rw [hlen]; exact hk)
    simp only [List.getElem_map, List.getElem_range, hf1 k hkm] at g0 g1 g2
    obtain ⟨s0, s1, s2, _, _⟩ := (key k hkm).choose_spec
    have : r = 0 ∨ r = 1 ∨ r = 2 := by omega
    have hs := List.getElem?_eq_getElem hj
    rw [← Nw.add_lit b off (k * 3 + r)]
    rcases this with rfl | rfl | rfl
    · exact s0.trans (g0.symm.trans hs)
    · exact s1.trans (g1.symm.trans hs)
    · exact s2.trans (g2.symm.trans hs)
end
/-- Few calls with short keys. -/
def Few (l : List Act) : Prop := l.length ≤ 120 ∧ ∀ x ∈ l, x.2.1.length ≤ 300
theorem few_at {l : List Act} (h : Few l) {i : Nat} (hi : i < l.length) : l[i].2.1.length ≤ 300 := h.2 _ (List.getElem_mem hi)
def smallPost (l : List Act) (w : World) : Ending → World → Prop := fun r w' => w = w' ∧ ∃ b, r = .returned (.bool b) ∧ (b = true → Few l)
set_option maxRecDepth 100000 in
set_option maxHeartbeats 1000000 in
theorem small_any (D : Option Addr) (q : Nat) (l : List Act) (W : World) (ha : Rs W 3 D l.length q (acL l)) (hl : ∀ x ∈ l, x.2.1.length ≤ 9223372036854775807) :
    Calls Try.prog 8 #[.slice D l.length q] W (smallPost l W) := by
  have HA := Lib.hid ha; have HL := Lib.hid hl
  have hdl := ha.le
  have hdm := ha.max
  unfold maxLen at hdm
  clear ha hl
  go_enter Try.func8, Try.ntmps8
  go_wp2_with fail
  go_loopw [3] (fun i wr => ∃ k : Nat, k ≤ l.length ∧ k ≤ 121 ∧ i = .int .i64 (k : Int) ∧ wr = W ∧ Hid (∀ j (h : j < l.length), j < k → l[j].2.1.length ≤ 300)) (fun i _ => 121 - (intOf i).toNat)
  case atStart => exact ⟨0, Nat.zero_le _, by omega, rfl, rfl, fun j _ h => by omega⟩
  case round =>
    obtain ⟨k, hk, hk2, rfl, rfl, hm⟩ := hrel
    by_cases hlt : k < l.length
    · by_cases hlt2 : k < 121
      · have i1 : (k : Int) < (l.length : Int) := by omega
        have i2 : (k : Int) < 121 := by omega
        obtain ⟨f0, f1, f2⟩ := acL_get l k hlt
        obtain ⟨tb, to_, rfl, ltb, a1⟩ := HA.out.rd.at_ f1
        rw [← Nat.add_assoc] at a1
        obtain ⟨ky, hky⟩ : ∃ ky, ky = l[k].2.1 := ⟨_, rfl⟩
        have HK := Lib.hid hky
        have hkl : ky.length ≤ 9223372036854775807 := by rw [hky]; exact HL.out _ (List.getElem_mem hlt)
        rw [← hky] at a1
        clear f0 f1 f2 hky
        by_cases h3 : (300 : Int) < (ky.length : Int)
        · go_wp2_with fail
          go_ret
          exact ⟨rfl, false, rfl, fun e => by cases e⟩
        · have HB : Hid (ky.length ≤ 300) := by show _ ≤ _; omega
          go_wp2_with fail
          go_roundw
          case rel => exact ⟨k + 1, by omega, by omega, by go_num, trivial, fun j hj hjk => by
            rcases Nat.lt_or_ge j k with h | h
            · exact hm.out j hj h
            · have : j = k := by omega
              subst this
              rw [← HK.out]; exact HB.out⟩
          case measure => simp [intOf]; omega
      · have i1 : (k : Int) < (l.length : Int) := by omega
        have i2 : ¬ (k : Int) < 121 := by omega
        have HN : Hid ((120 : Int) < (l.length : Int)) := by show _ < _; omega
        go_wp2_with fail
        go_ret
        exact ⟨rfl, _, rfl, fun e => by have h1 : (l.length : Int) ≤ 120 := of_decide_eq_true e; have := HN.out; omega⟩
    · obtain rfl : k = l.length := by omega
      have hnn : ¬ (l.length : Int) < l.length := by omega
      go_wp2_with fail
      go_ret
      refine ⟨rfl, _, rfl, fun e => ?_⟩
      have h1 : (l.length : Int) ≤ 120 := of_decide_eq_true e
      refine ⟨by omega, fun x hx => ?_⟩
      obtain ⟨j, hj, rfl⟩ := List.mem_iff_getElem.1 hx
      exact hm.out j hj hj
end Go.Proofs.Ythabnffmlgppdaa.Px
