/- Proves what the rows of package response's laws give the walks: responses among the arguments, opened. Condition: what the form says of an argument's size. -/
import Derived.Test.YthlfahblnpijaaaDoorSja
import Derived.Test.YthlfahblnpijaaaDoorVe
import Derived.Lib.SmallJoins
import Derived.Deep.Slices
import Derived.Deep.SlicePairs
import Derived.SizedLaws
namespace Go.Proofs.YthlfahblnpijaaaDoor.Szo
open Go.ChangeShapes Go.WideShapes Go.ChangeAt Go.RowKit Go.Joins Vm Vw Qm Sm Se Sja Ve

theorem cellsIt : Tryd.prog.cellsOf 49 = 4 := by kernel_rfl
theorem cellsRe : Tryd.prog.cellsOf 28 = 6 := by kernel_rfl
theorem cellsU : Tryd.prog.cellsOf 25 = 1 := by kernel_rfl
theorem list4 {α : Type} {l : List α} (h : l.length = 4) : ∃ a0 a1 a2 a3, l = [a0, a1, a2, a3] := by
  match l, h with
  | [a0, a1, a2, a3], _ => exact ⟨a0, a1, a2, a3, rfl⟩
theorem list6 {α : Type} {l : List α} (h : l.length = 6) : ∃ a0 a1 a2 a3 a4 a5, l = [a0, a1, a2, a3, a4, a5] := by
  match l, h with
  | [a0, a1, a2, a3, a4, a5], _ => exact ⟨a0, a1, a2, a3, a4, a5, rfl⟩
section
variable {H : Type} {enc : TypeId × Value → H} {W : World}
theorem mem_all {P : Program} {e : TypeId} {d : DataW H} : ∀ {ds : List (DataW H)}, d ∈ ds → ∀ n ∈ d.weights P e, n ∈ DataW.weightsAll P e ds
  | x :: r, hd, n, hn => by
    simp only [DataW.weightsAll, List.mem_append]
    rcases List.mem_cons.1 hd with rfl | h
    · exact Or.inl hn
    · exact Or.inr (mem_all h n hn)
theorem num_at {base fuel : Nat} {spare : Nat → Bool} {held : Bool} {v : Value} {t : TypeId} {x : DataW H × List MemPlace} (ht : Tryd.prog.underlying t = some (.int .u64)) (h : DataW.trod enc Tryd.prog W base spare held fuel t [v] = some x) : ∃ n : Nat, v = .int .u64 (n : Int) ∧ n < 18446744073709551616 := by
  obtain ⟨n, hn, _, hw⟩ := DataW.trod_int ht h
  injection hn with hn
  obtain ⟨b0, b1⟩ := bounds_u64 hw
  obtain ⟨k, rfl⟩ := Int.eq_ofNat_of_zero_le b0
  exact ⟨k, hn, by omega⟩
theorem int_at {base fuel : Nat} {spare : Nat → Bool} {held : Bool} {v : Value} {t : TypeId} {x : DataW H × List MemPlace} (ht : Tryd.prog.underlying t = some (.int .i64)) (h : DataW.trod enc Tryd.prog W base spare held fuel t [v] = some x) : ∃ n : Int, v = .int .i64 n ∧ -9223372036854775808 ≤ n ∧ n ≤ 9223372036854775807 := by
  obtain ⟨n, hn, _, hw⟩ := DataW.trod_int ht h
  injection hn with hn
  obtain ⟨b0, b1⟩ := bounds_i64 hw
  exact ⟨n, hn, b0, b1⟩
set_option maxRecDepth 100000 in
theorem len_at {base fuel n c : Nat} {A : Option Addr} {x : DataW H × List MemPlace} (h : DataW.trod enc Tryd.prog W base (fun _ => true) true fuel 29 [.slice A n c] = some x) (hw : ∀ n ∈ x.1.weights Tryd.prog 29, n ≤ reachBytes) : n ≤ 140737488355328 := by
  rcases open_ints Tryd.underlying29 Tryd.underlying5 cellsB h with ⟨hcs, _⟩ | ⟨a, len, cap, zs, hcs, _, hl, hm, hz, hx, hcell, hwf⟩
  · injection hcs with hcs
    simp only [Value.slice.injEq] at hcs
    omega
  · injection hcs with hcs
    simp only [Value.slice.injEq] at hcs
    obtain ⟨_, rfl, _⟩ := hcs
    simp only [if_true] at hz
    subst hx
    have hb : Tryd.prog.bytesOf 5 = 1 := by kernel_rfl
    have h1 := hw ((n + (cap - n)) * 1) (by
      simp only [DataW.weights, Tryd.underlying29, hb, lits, List.length_map, List.length_take, List.length_drop, List.mem_cons]
      left
      congr 1
      omega)
    unfold reachBytes at h1
    omega
set_option maxRecDepth 100000 in
theorem nums_at {base fuel : Nat} {v : Value} {x : DataW H × List MemPlace} (h : DataW.trod enc Tryd.prog W base (fun _ => true) true fuel 26 [v] = some x) (hw : ∀ n ∈ x.1.weights Tryd.prog 26, n ≤ reachBytes) :
    ∃ (A : Option Addr) (c : Nat) (l : List Nat), v = .slice A l.length c ∧ (A = none → c = 0) ∧ RN W A l ∧ l.length ≤ 140737488355328 ∧ ∀ n ∈ l, n < 18446744073709551616 := by
  rcases open_ints Tryd.underlying26 Tryd.underlying25 cellsU h with ⟨hcs, _⟩ | ⟨a, len, cap, zs, hcs, _, hl, hm, hz, hx, hcell, hwf⟩
  · injection hcs with hcs
    subst hcs
    exact ⟨none, 0, [], rfl, fun _ => rfl, RN.nil _ _, by simp, by simp⟩
  · injection hcs with hcs
    subst hcs
    simp only [if_true] at hz
    subst hx
    have hzl : len ≤ zs.length := by omega
    have hlen : ((zs.take len).map Int.toNat).length = len := by rw [List.length_map, List.length_take]; omega
    have hb : Tryd.prog.bytesOf 25 = 8 := by kernel_rfl
    have hwf' : ∀ z ∈ zs, 0 ≤ z ∧ z < 18446744073709551616 := fun z hzm => by
      obtain ⟨b0, b1⟩ := bounds_u64 (hwf z hzm)
      exact ⟨b0, by omega⟩
    refine ⟨some a, cap, (zs.take len).map Int.toNat, by rw [hlen], (fun e => by cases e), ?_, ?_, ?_⟩
    · intro h0
      rw [hlen] at h0
      obtain ⟨b, off, spot⟩ := a
      have hspot : spot = none := by simpa [Addr.add] using World.cell?_spot (hcell 0 (by omega))
      subst hspot
      have hlt : b < W.heap.size := by
        have := World.block_lt_of_cell? W _ (hcell 0 (by omega))
        rwa [Vw.add_plain] at this
      refine ⟨b, off, rfl, hlt, fun j hj => ?_⟩
      rw [hlen] at hj
      have hj' : j < zs.length := by omega
      have := hcell j hj'
      rw [Vw.add_plain] at this
      rw [this, List.getElem_map, List.getElem_take]
      have hz0 := (hwf' zs[j] (List.getElem_mem hj')).1
      simp only [List.getD_eq_getElem?_getD, List.getElem?_eq_getElem hj', Option.getD_some]
      rw [Int.toNat_of_nonneg hz0]
    · rw [hlen]
      have h1 := hw ((len + (cap - len)) * 8) (by
        simp only [DataW.weights, Tryd.underlying26, hb, lits, List.length_map, List.length_take, List.length_drop, List.mem_cons]
        left
        congr 1
        omega)
      unfold reachBytes at h1
      omega
    · intro n hn
      obtain ⟨z, hz1, rfl⟩ := List.mem_map.1 hn
      have := hwf' z (List.mem_of_mem_take hz1)
      omega
/-- What an item's parts are. -/
def ImOk (W : World) (y : Im) : Prop := Arg W y.A y.i.value y.k ∧ (-9223372036854775808 ≤ y.i.mark ∧ y.i.mark ≤ 9223372036854775807) ∧ y.i.value.length ≤ 140737488355328 ∧ y.i.version < 18446744073709551616 ∧ y.i.dead < 18446744073709551616
set_option maxRecDepth 100000 in
theorem items_at {base fuel : Nat} {v : Value} {x : DataW H × List MemPlace} (h : DataW.trod enc Tryd.prog W base (fun _ => true) true fuel 24 [v] = some x) (hw : ∀ n ∈ x.1.weights Tryd.prog 24, n ≤ reachBytes) :
    ∃ (A : Option Addr) (c : Nat) (l : List Im), v = .slice A l.length c ∧ (A = none → c = 0) ∧ RI W A l ∧ l.length ≤ 140737488355328 ∧ ∀ y ∈ l, ImOk W y := by
  rcases Deep.open_slice Tryd.underlying24 h with ⟨hcs, _⟩ | ⟨a, len, cap, m, n, D, Pl, hcs, _, hl, hm, hmm, rfl, hx⟩
  · injection hcs with hcs
    subst hcs
    exact ⟨none, 0, [], rfl, fun _ => rfl, RI.nil _ _, by simp, by simp⟩
  · injection hcs with hcs
    subst hcs
    simp only [if_true] at hmm
    subst hmm
    have key : ∀ i, i < len → ∃ y : Im, (W.cell? (a.add (i * 4)) = some (.int .i64 y.i.mark) ∧ W.cell? (a.add (i * 4 + 1)) = some (.slice y.A y.i.value.length y.k) ∧ W.cell? (a.add (i * 4 + 2)) = some (.int .u64 (y.i.version : Int)) ∧ W.cell? (a.add (i * 4 + 3)) = some (.int .u64 (y.i.dead : Int))) ∧ ImOk W y := by
      intro i hi
      obtain ⟨cs', h1, h2⟩ := hx i (by omega)
      rw [cellsIt] at h1
      obtain ⟨_, hlen, hcell⟩ := World.cells?_some h1
      obtain ⟨xs, k, _, hxy, _, hxl, hf⟩ := DataW.trod_struct Tryd.underlying49 h2
      obtain ⟨v0, v1, v2, v3, rfl⟩ := list4 hlen
      obtain ⟨y0, y1, y2, y3, rfl⟩ := list4 hxl
      simp only [Prod.mk.injEq] at hxy
      have hwt : ∀ (j : Nat) (t : TypeId) (y : DataW H), ([47, 29, 25, 41] : List TypeId)[j]? = some t → ([y0.1, y1.1, y2.1, y3.1] : List (DataW H))[j]? = some y → ∀ m ∈ y.weights Tryd.prog t, m ≤ reachBytes := fun j t y e1 e2 m hm => by
        refine hw m ?_
        simp only [DataW.weights, Tryd.underlying24]
        refine List.mem_cons_of_mem _ (List.mem_append_left _ (mem_all (d := D i) (List.mem_map.2 ⟨i, List.mem_range.2 hi, rfl⟩) m ?_))
        rw [hxy.1]
        simp only [DataW.weights, Tryd.underlying49]
        exact DataW.weights_mem_each (P := Tryd.prog) (j := j) e1 e2 m hm
      have g0 := hf 0 _ rfl; have g1 := hf 1 _ rfl; have g2 := hf 2 _ rfl; have g3 := hf 3 _ rfl
      obtain ⟨mk, rfl, o1, o2⟩ := int_at Tryd.underlying47 g0
      obtain ⟨A1, k1, p1, rfl, ga⟩ := arg_of g1
      obtain ⟨ver, rfl, z1⟩ := num_at Tryd.underlying25 g2
      obtain ⟨dd, rfl, z2⟩ := num_at Tryd.underlying41 g3
      have hvl : p1.length ≤ 140737488355328 := len_at g1 (hwt 1 _ _ rfl rfl)
      have e0 := hcell 0 (by omega)
      have e1 := hcell 1 (by omega)
      have e2 := hcell 2 (by omega)
      have e3 := hcell 3 (by omega)
      rw [Deep.add_add] at e0 e1 e2 e3
      exact ⟨⟨⟨mk, p1, ver, dd⟩, A1, k1⟩, ⟨by simpa using e0, by simpa using e1, by simpa using e2, by simpa using e3⟩, ga, ⟨o1, o2⟩, hvl, z1, z2⟩
    let f : Nat → Im := fun i => if h : i < len then (key i h).choose else zeroM
    have hf1 : ∀ i (h : i < len), f i = (key i h).choose := fun i h => by simp only [f, dif_pos h]
    have hlen : ((List.range len).map f).length = len := by simp
    refine ⟨some a, m, (List.range len).map f, by rw [hlen], (fun e => by cases e), ?_, ?_, ?_⟩
    · intro h0
      rw [hlen] at h0
      obtain ⟨b, off, spot⟩ := a
      have hspot : spot = none := by simpa [Addr.add] using World.cell?_spot (key 0 (by omega)).choose_spec.1.1
      subst hspot
      have hlt : b < W.heap.size := by
        have := World.block_lt_of_cell? W _ (key 0 (by omega)).choose_spec.1.1
        rwa [Vw.add_plain] at this
      refine ⟨b, off, rfl, hlt, fun j hj => ?_⟩
      rw [hlen] at hj
      have hs := (key j hj).choose_spec.1
      simp only [List.getElem_map, List.getElem_range, hf1 j hj]
      exact ⟨by rw [← Vw.add_plain b off (j * 4)]; exact hs.1, by rw [Nat.add_assoc, ← Vw.add_plain b off (j * 4 + 1)]; exact hs.2.1, by rw [Nat.add_assoc, ← Vw.add_plain b off (j * 4 + 2)]; exact hs.2.2.1, by rw [Nat.add_assoc, ← Vw.add_plain b off (j * 4 + 3)]; exact hs.2.2.2⟩
    · rw [hlen]
      have hb : Tryd.prog.bytesOf 49 = 48 := by kernel_rfl
      have h1 := hw ((len + (m - len)) * 48) (by
        simp only [DataW.weights, Tryd.underlying24, hb, List.length_map, List.length_range, List.mem_cons]
        left
        trivial)
      unfold reachBytes at h1
      omega
    · intro y hy
      obtain ⟨i, hi, rfl⟩ := List.mem_map.1 hy
      have hi' : i < len := List.mem_range.1 hi
      rw [hf1 i hi']
      exact (key i hi').choose_spec.2
set_option maxRecDepth 100000 in
set_option maxHeartbeats 2000000 in
theorem open_resp {base : Nat} {v : Value} {d : DataW H} {p : List MemPlace} (hval : Value.okWide Tryd.prog W .any base 28 v)
    (h : DataW.Trod enc Tryd.prog W 0 (fun _ => true) true 28 v d p) (hw : ∀ n ∈ d.weights Tryd.prog 28, n ≤ reachBytes) : ∃ x : Res, v = resV x ∧ RRc W x ∧ LimS x := by
  obtain ⟨cs, rfl, hsz⟩ := okWide_struct Tryd.underlying28 hval
  rw [cellsRe] at hsz
  obtain ⟨a0, a1, a2, a3, a4, a5, ha⟩ := list6 (l := cs.toList) (by simpa using hsz)
  obtain ⟨fuel, hf⟩ := h
  obtain ⟨xs, n, _, hx, _, hn, hel⟩ := DataW.trod_struct Tryd.underlying28 hf
  obtain ⟨y0, y1, y2, y3, y4, y5, hy⟩ := list6 (l := xs) hn
  subst hy
  simp only [Prod.mk.injEq] at hx
  obtain ⟨rfl, _⟩ := hx
  have hcs : (Value.agg cs).cells.toList = [a0, a1, a2, a3, a4, a5] := ha
  rw [hcs] at hel
  have hwt : ∀ (j : Nat) (t : TypeId) (y : DataW H), ([22, 23, 24, 25, 3, 26] : List TypeId)[j]? = some t → ([y0.1, y1.1, y2.1, y3.1, y4.1, y5.1] : List (DataW H))[j]? = some y → ∀ m ∈ y.weights Tryd.prog t, m ≤ reachBytes := fun j t y h1 h2 m hm => by
    refine hw m ?_
    simp only [DataW.weights, Tryd.underlying28]
    exact DataW.weights_mem_each (P := Tryd.prog) (j := j) h1 h2 m hm
  have g0 := hel 0 _ rfl; have g1 := hel 1 _ rfl; have g2 := hel 2 _ rfl; have g3 := hel 3 _ rfl; have g4 := hel 4 _ rfl; have g5 := hel 5 _ rfl
  obtain ⟨op, rfl, o1, o2⟩ := int_at Tryd.underlying22 g0
  obtain ⟨err, rfl, e1, e2⟩ := int_at Tryd.underlying23 g1
  obtain ⟨IA, ik, its, rfl, i1, i2, i3, i4⟩ := items_at g2 (hwt 2 _ _ rfl rfl)
  obtain ⟨ver, rfl, z1⟩ := num_at Tryd.underlying25 g3
  obtain ⟨cnt, rfl, c1, c2⟩ := int_at Tryd.underlying3 g4
  obtain ⟨NA, nk, ns, rfl, n1, n2, n3, n4⟩ := nums_at g5 (hwt 5 _ _ rfl rfl)
  refine ⟨⟨op, err, its, IA, ik, ver, cnt, ns, NA, nk⟩, ?_, ⟨i2, i1, fun y hy => (i4 y hy).1.rd, fun y hy => (i4 y hy).1.non, n2, n1⟩, ⟨o1, o2, e1, e2, c1, c2, z1, i3, n3, fun y hy => (i4 y hy).2, n4⟩⟩
  unfold resV
  congr 1
  exact Array.toList_inj.1 ha
end
end Go.Proofs.YthlfahblnpijaaaDoor.Szo
