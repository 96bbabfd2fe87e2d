/- Proves what the rows of package request's laws give the walks: the table of the Ops is laid; commands and frames among the arguments opened; and a world that meets the rows' condition. No condition. -/
import Derived.Test.YthlfahblnpijaaaDoorQt
import Derived.Test.YthlfahblnpijaaaDoorRow
import Derived.Test.YthlfahblnpijaaaDoorBk
import Derived.Test.YthlfahblnpijaaaDoorVe
import Derived.Test.YthlfahblnpijaaaDoorCards
import Derived.Test.YthlfahblnpijaaaDoorTie
import Derived.ProofKit
import Derived.OpenShut
import Derived.Deep.DeepHandedRow
import Derived.Lib.LaidTab
import Derived.Lib.SmallJoins
import Derived.Lay
import Derived.Shelf.Vars
import Derived.Carry
import Derived.SliceStrings
import Derived.SizedLaws
namespace Go.Proofs.YthlfahblnpijaaaDoor.Qu
open Go.ChangeShapes Go.WideShapes Go.ChangeAt Go.RowKit Go.Joins Vm Vw Qm Qs Qe Qt Ve

abbrev laid : List (String × DataW Unit) := Rows.responseHoldsRow.laid
def rowsName : String := "tagcache/request.rows"
theorem gRows : Tryd.prog.globalNamed rowsName = some 0 := by kernel_rfl
theorem gRowsType : (Tryd.prog.globals[(0 : Nat)]?).map (·.type) = some 96 := by kernel_rfl
theorem cellsRows : Tryd.prog.cellsOf 96 = 30 := by kernel_rfl
theorem cellsRow : Tryd.prog.cellsOf 95 = 2 := by kernel_rfl
theorem cellsStr : Tryd.prog.cellsOf 9 = 1 := by kernel_rfl
theorem cellsParts : Tryd.prog.cellsOf 93 = 1 := by kernel_rfl
section
variable {H : Type} {enc : TypeId × Value → H} {W : World}
theorem laid_at (i : Nat) (h : i < 15) : ∃ ds : List (DataW H), (Rows.laid_tagcache_request_rows : DataW H) = .agg ds ∧ ds[i]? = some (.agg [.lit (.string (wordL i)), .lit (.int .u64 (maskN i : Int))]) := by
  refine ⟨_, rfl, ?_⟩
  match i, h with
  | 0, _ | 1, _ | 2, _ | 3, _ | 4, _ | 5, _ | 6, _ | 7, _ | 8, _ | 9, _ | 10, _ | 11, _ | 12, _ | 13, _ | 14, _ => rfl
  | i + 15, h => omega
theorem rows_at (i : Nat) (h : i < 15) : rowsCells.toList[i * 2]? = some (.string (wordS i)) ∧ rowsCells.toList[i * 2 + 1]? = some (.int .u64 (maskN i : Int)) := by
  match i, h with
  | 0, _ | 1, _ | 2, _ | 3, _ | 4, _ | 5, _ | 6, _ | 7, _ | 8, _ | 9, _ | 10, _ | 11, _ | 12, _ | 13, _ | 14, _ => exact ⟨rfl, rfl⟩
  | i + 15, h => omega
theorem rows_cells {base fuel : Nat} {sp : Nat → Bool} {held : Bool} {cs : List Value} {p : List MemPlace} (h : DataW.trod enc Tryd.prog W base sp held fuel 96 cs = some (Rows.laid_tagcache_request_rows, p)) : cs = rowsCells.toList := by
  obtain ⟨xs, m, _, hx, hl, hn, hel⟩ := DataW.trod_array Tryd.underlying96 h
  rw [cellsRows] at hl
  have hagg : (Rows.laid_tagcache_request_rows : DataW H) = .agg (xs.map (·.1)) := congrArg Prod.fst hx
  have key : ∀ i, i < 15 → cs[i * 2]? = some (.string (wordS i)) ∧ cs[i * 2 + 1]? = some (.int .u64 (maskN i : Int)) := fun i hi => by
    have he := hel i hi
    rw [cellsRow] at he
    obtain ⟨y, hy⟩ : ∃ y, xs[i]? = some y := ⟨_, List.getElem?_eq_getElem (by omega)⟩
    rw [hy] at he
    obtain ⟨y0, y1, n, e, _, h0, h1⟩ := trod_struct2 Tryd.underlying95 he
    obtain ⟨s, hs, e0, _⟩ := DataW.trod_string Tryd.underlying9 h0
    obtain ⟨z, hz, e1, _⟩ := DataW.trod_int Tryd.underlying93 h1
    obtain ⟨ds, hd, hdi⟩ := laid_at (H := H) i hi
    rw [hd] at hagg
    injection hagg with hagg
    have h2 : (xs.map (·.1))[i]? = some y.1 := by rw [List.getElem?_map, hy]; rfl
    rw [← hagg, hdi] at h2
    subst e
    subst e0
    subst e1
    simp only [Option.some.injEq, DataW.agg.injEq, List.cons.injEq, DataW.lit.injEq, Lit.string.injEq, Lit.int.injEq, true_and, and_true] at h2
    obtain ⟨h3, h4⟩ := h2
    have hs' : s = wordS i := by
      unfold wordS
      rw [h3]
    rw [cellsStr] at hs
    rw [cellsParts] at hz
    have g0 := congrArg (·[0]?) hs
    have g1 := congrArg (·[0]?) hz
    simp [List.getElem?_drop] at g0 g1
    refine ⟨?_, ?_⟩
    · rw [g0, hs']
    · rw [g1, h4]
  apply List.ext_getElem?
  intro j
  by_cases hj : j < 30
  · obtain ⟨a1, a2⟩ := key (j / 2) (by omega)
    obtain ⟨b1, b2⟩ := rows_at (j / 2) (by omega)
    rcases Nat.mod_two_eq_zero_or_one j with hm | hm
    · rw [show j = j / 2 * 2 by omega, a1, b1]
    · rw [show j = j / 2 * 2 + 1 by omega, a2, b2]
  · rw [List.getElem?_eq_none (by omega), List.getElem?_eq_none (by show 30 ≤ j; omega)]
end
theorem env_of {W : World} (hL : laidMetH Tryd.prog laid W) : Env W := by
  rw [MakeChecks.laidMetH_plain _ _ _ (by kernel_rfl)] at hL
  obtain ⟨ps, ⟨g', t', cs, fuel, p, q, hg', ht', hvar, hd, _, _⟩, _⟩ := hL
  obtain rfl := Option.some.inj (gRows.symm.trans hg')
  obtain rfl := Option.some.inj (gRowsType.symm.trans ht')
  have hc := rows_cells hd
  unfold World.var? at hvar
  rw [show ("tagcache/request.rows" : String) = rowsName from rfl, gRows] at hvar
  simp only [Option.bind_some] at hvar
  split at hvar
  · rename_i cs' t fr hh
    injection hvar with hvar
    subst hvar
    refine ⟨t, fr, ?_⟩
    rw [hh]
    have : cs' = rowsCells := by
      apply Array.toList_inj.1
      simpa using hc
    rw [this]
  · cases hvar
noncomputable abbrev start (os : Os) : World := World.laidAll Tryd.prog os laid
theorem start_met (os : Os) (args : Array Value) : laidMet Tryd.prog laid ((start os).forCall (fun _ _ => 0) ⟨#[], args, []⟩).memory :=
  laidMet_laidAll args (by kernel_rfl) (by kernel_rfl)
theorem start_vars (os : Os) (args : Array Value) : ((start os).forCall (fun _ _ => 0) ⟨#[], args, []⟩).variablesB Tryd.prog = true := by kernel_rfl
theorem start_rest (os : Os) (args : Array Value) : (((start os).forCall (fun _ _ => 0) ⟨#[], args, []⟩).heap.toList.drop Tryd.prog.globals.size).take ((begin Tryd.prog (fun _ _ => 0) default).world.heap.size - Tryd.prog.globals.size) =
      (begin Tryd.prog (fun _ _ => 0) default).world.heap.toList.drop Tryd.prog.globals.size := by kernel_rfl
theorem cellsCmd : Tryd.prog.cellsOf 43 = 10 := by kernel_rfl
theorem cellsF : Tryd.prog.cellsOf 31 = 2 := by kernel_rfl
section
variable {H : Type} {enc : TypeId × Value → H} {W : World}
theorem byte_at {base fuel : Nat} {spare : Nat → Bool} {held : Bool} {v : Value} {x : DataW H × List MemPlace} (h : DataW.trod enc Tryd.prog W base spare held fuel 5 [v] = some x) : ∃ c : UInt8, v = .int .u8 (c.toNat : Int) := by
  obtain ⟨n, hn, _, hw⟩ := DataW.trod_int Tryd.underlying5 h
  injection hn with hn
  obtain ⟨b0, b1⟩ := wf_u8 hw
  obtain ⟨k, rfl⟩ := Int.eq_ofNat_of_zero_le b0
  exact ⟨UInt8.ofNat k, by rw [hn, of_nat (by omega)]⟩
set_option maxRecDepth 100000 in
theorem open_frame {base : Nat} {v : Value} {d : DataW H} {p : List MemPlace} (hval : Value.okWide Tryd.prog W .any base 31 v)
    (h : DataW.Trod enc Tryd.prog W 0 (fun _ => true) true 31 v d p) : ∃ (c : UInt8) (A : Option Addr) (k : Nat) (l : Bs), v = .agg #[.int .u8 (c.toNat : Int), .slice A l.length k] ∧ Arg W A l k := by
  obtain ⟨v0, v1, y0, y1, n, rfl, _, _, t0, t1⟩ := open_agg2 Tryd.underlying31 (by kernel_rfl) cellsF hval h
  obtain ⟨c, rfl⟩ := byte_at t0
  obtain ⟨A, k, l, rfl, g⟩ := arg_of t1
  exact ⟨c, A, k, l, rfl, g⟩
theorem mem_all {P : Program} {e : TypeId} {d : DataW H} : ∀ {ds : List (DataW H)}, d ∈ ds → ∀ n ∈ d.weights P e, n ∈ DataW.weightsAll P e ds
  | x :: r, hd, n, hn => by
    simp only [DataW.weightsAll, List.mem_append]
    rcases List.mem_cons.1 hd with rfl | h
    · exact Or.inl hn
    · exact Or.inr (mem_all h n hn)
set_option maxRecDepth 100000 in
/-- A string's cell. -/
theorem str_at {base fuel : Nat} {spare : Nat → Bool} {held : Bool} {v : Value} {x : DataW H × List MemPlace} (h : DataW.trod enc Tryd.prog W base spare held fuel 9 [v] = some x) (hw : ∀ n ∈ x.1.weights Tryd.prog 9, n ≤ reachBytes) : ∃ l : Bs, v = .string ⟨l.toArray⟩ ∧ l.length ≤ 140737488355328 := by
  obtain ⟨s, hs, rfl, _⟩ := DataW.trod_string Tryd.underlying9 h
  injection hs with hs
  have h1 := hw s.data.toList.length (by simp [DataW.weights])
  unfold reachBytes at h1
  exact ⟨s.data.toList, by rw [hs], by omega⟩
set_option maxRecDepth 100000 in
/-- A cell that holds a list of strings. -/
theorem strs_at {base fuel : Nat} {held : Bool} {v : Value} {x : DataW H × List MemPlace} (h : DataW.trod enc Tryd.prog W base (fun _ => true) held fuel 40 [v] = some x) (hw : ∀ n ∈ x.1.weights Tryd.prog 40, n ≤ reachBytes) :
    ∃ (A : Option Addr) (c : Nat) (l : List Bs), v = .slice A l.length c ∧ (A = none → c = 0) ∧ Rd W A l ∧ l.length ≤ 140737488355328 ∧ ∀ s ∈ l, s.length ≤ 140737488355328 := by
  rcases open_strings Tryd.underlying40 Tryd.underlying9 cellsStr h with ⟨hcs, hx⟩ | ⟨a, len, cap, ss, hcs, _, hl, hm, hz, hx, hcell, hws⟩
  · injection hcs with hcs
    exact ⟨none, 0, [], hcs, fun _ => rfl, Rd.nil _ _, Nat.zero_le _, by simp⟩
  · injection hcs with hcs
    simp only [if_true] at hz
    have hlen : ((ss.take len).map (·.data.toList)).length = len := by rw [List.length_map, List.length_take]; omega
    subst hx
    have hb : Tryd.prog.bytesOf 9 = 16 := by kernel_rfl
    have h16 := hw ((len + (cap - len)) * 16) (by
      simp only [DataW.weights, Tryd.underlying40, hb, strs, List.length_map, List.length_take, List.length_drop, List.mem_cons]
      left
      congr 1
      omega)
    have hel : ∀ s ∈ (ss.take len).map (·.data.toList), s.length ≤ 140737488355328 := by
      intro x hx
      obtain ⟨s, hs, rfl⟩ := List.mem_map.1 hx
      have h1 := hw s.data.toList.length (by
        simp only [DataW.weights, Tryd.underlying40, List.mem_cons, List.mem_append]
        exact Or.inr (Or.inl (mem_all (d := .lit (.string s.data.toList)) (by unfold strs; exact List.mem_map.2 ⟨s, hs, rfl⟩) _ (by simp [DataW.weights]))))
      unfold reachBytes at h1
      omega
    unfold reachBytes at h16
    refine ⟨some a, cap, (ss.take len).map (·.data.toList), by rw [hlen]; exact hcs, (fun h => by cases h), ?_, by rw [hlen]; omega, hel⟩
    intro h0
    rw [hlen] at h0
    obtain ⟨b, off, spot⟩ := a
    have hspot : spot = none := by simpa [Addr.add] using World.cell?_spot (hcell 0 (by omega))
    subst hspot
    have hlt : b < W.heap.size := by
      have := World.block_lt_of_cell? W _ (hcell 0 (by omega))
      rwa [Vw.add_plain] at this
    refine ⟨b, off, rfl, hlt, fun j hj => ?_⟩
    rw [hlen] at hj
    have := hcell j (by omega)
    rw [Vw.add_plain] at this
    rw [this]
    have e1 : ss[j]? = some ss[j] := List.getElem?_eq_getElem (by omega)
    simp [e1]
set_option maxRecDepth 100000 in
theorem len_at {base fuel n c : Nat} {A : Option Addr} {x : DataW H × List MemPlace} (h : DataW.trod enc Tryd.prog W base (fun _ => true) true fuel 29 [.slice A n c] = some x) (hw : ∀ n ∈ x.1.weights Tryd.prog 29, n ≤ reachBytes) : n ≤ 140737488355328 := by
  rcases open_ints Tryd.underlying29 Tryd.underlying5 cellsB h with ⟨hcs, _⟩ | ⟨a, len, cap, zs, hcs, _, hl, hm, hz, hx, hcell, hwf⟩
  · injection hcs with hcs
    simp only [Value.slice.injEq] at hcs
    omega
  · injection hcs with hcs
    simp only [Value.slice.injEq] at hcs
    obtain ⟨_, rfl, _⟩ := hcs
    simp only [if_true] at hz
    subst hx
    have hb : Tryd.prog.bytesOf 5 = 1 := by kernel_rfl
    have h1 := hw ((n + (cap - n)) * 1) (by
      simp only [DataW.weights, Tryd.underlying29, hb, lits, List.length_map, List.length_take, List.length_drop, List.mem_cons]
      left
      congr 1
      omega)
    unfold reachBytes at h1
    omega
theorem num_at {base fuel : Nat} {spare : Nat → Bool} {held : Bool} {v : Value} {t : TypeId} {x : DataW H × List MemPlace} (ht : Tryd.prog.underlying t = some (.int .u64)) (h : DataW.trod enc Tryd.prog W base spare held fuel t [v] = some x) : ∃ n : Nat, v = .int .u64 (n : Int) ∧ n < 18446744073709551616 := by
  obtain ⟨n, hn, _, hw⟩ := DataW.trod_int ht h
  injection hn with hn
  obtain ⟨b0, b1⟩ := bounds_u64 hw
  obtain ⟨k, rfl⟩ := Int.eq_ofNat_of_zero_le b0
  exact ⟨k, hn, by omega⟩
theorem op_at {base fuel : Nat} {spare : Nat → Bool} {held : Bool} {v : Value} {x : DataW H × List MemPlace} (h : DataW.trod enc Tryd.prog W base spare held fuel 22 [v] = some x) : ∃ n : Int, v = .int .i64 n ∧ -9223372036854775808 ≤ n ∧ n ≤ 9223372036854775807 := by
  obtain ⟨n, hn, _, hw⟩ := DataW.trod_int Tryd.underlying22 h
  injection hn with hn
  obtain ⟨b0, b1⟩ := bounds_i64 hw
  exact ⟨n, hn, b0, b1⟩
theorem list10 {α : Type} {l : List α} (h : l.length = 10) : ∃ a0 a1 a2 a3 a4 a5 a6 a7 a8 a9, l = [a0, a1, a2, a3, a4, a5, a6, a7, a8, a9] := by
  match l, h with
  | [a0, a1, a2, a3, a4, a5, a6, a7, a8, a9], _ => exact ⟨a0, a1, a2, a3, a4, a5, a6, a7, a8, a9, rfl⟩
set_option maxRecDepth 100000 in
set_option maxHeartbeats 2000000 in
theorem open_cmd {base : Nat} {v : Value} {d : DataW H} {p : List MemPlace} (hval : Value.okWide Tryd.prog W .any base 43 v)
    (h : DataW.Trod enc Tryd.prog W 0 (fun _ => true) true 43 v d p) (hw : ∀ n ∈ d.weights Tryd.prog 43, n ≤ reachBytes) : ∃ x : Com, v = comV x ∧ Rc W x ∧ LimC x.c := by
  obtain ⟨cs, rfl, hsz⟩ := okWide_struct Tryd.underlying43 hval
  rw [cellsCmd] at hsz
  obtain ⟨a0, a1, a2, a3, a4, a5, a6, a7, a8, a9, ha⟩ := list10 (l := cs.toList) (by simpa using hsz)
  obtain ⟨fuel, hf⟩ := h
  obtain ⟨xs, n, _, hx, _, hn, hel⟩ := DataW.trod_struct Tryd.underlying43 hf
  obtain ⟨y0, y1, y2, y3, y4, y5, y6, y7, y8, y9, hy⟩ := list10 (l := xs) hn
  subst hy
  simp only [Prod.mk.injEq] at hx
  obtain ⟨rfl, _⟩ := hx
  have hcs : (Value.agg cs).cells.toList = [a0, a1, a2, a3, a4, a5, a6, a7, a8, a9] := ha
  rw [hcs] at hel
  have hwt : ∀ (j : Nat) (t : TypeId) (y : DataW H), ([22, 9, 40, 29, 40, 41, 25, 9, 9, 9] : List TypeId)[j]? = some t → ([y0.1, y1.1, y2.1, y3.1, y4.1, y5.1, y6.1, y7.1, y8.1, y9.1] : List (DataW H))[j]? = some y → ∀ m ∈ y.weights Tryd.prog t, m ≤ reachBytes := fun j t y h1 h2 m hm => by
    refine hw m ?_
    simp only [DataW.weights, Tryd.underlying43]
    exact DataW.weights_mem_each (P := Tryd.prog) (j := j) h1 h2 m hm
  have g0 := hel 0 _ rfl; have g1 := hel 1 _ rfl; have g2 := hel 2 _ rfl; have g3 := hel 3 _ rfl; have g4 := hel 4 _ rfl
  have g5 := hel 5 _ rfl; have g6 := hel 6 _ rfl; have g7 := hel 7 _ rfl; have g8 := hel 8 _ rfl; have g9 := hel 9 _ rfl
  obtain ⟨op, rfl, o1, o2⟩ := op_at g0
  obtain ⟨key, rfl, z1⟩ := str_at g1 (hwt 1 _ _ rfl rfl)
  obtain ⟨KA, kc, keys, rfl, z2, z3, z4, z5⟩ := strs_at g2 (hwt 2 _ _ rfl rfl)
  obtain ⟨VA, vc, value, rfl, z6⟩ := arg_of g3
  obtain ⟨TA, tc, tags, rfl, z7, z8, z9, z10⟩ := strs_at g4 (hwt 4 _ _ rfl rfl)
  obtain ⟨life, rfl, z11⟩ := num_at Tryd.underlying41 g5
  obtain ⟨version, rfl, z12⟩ := num_at Tryd.underlying25 g6
  obtain ⟨tag, rfl, z13⟩ := str_at g7 (hwt 7 _ _ rfl rfl)
  obtain ⟨pre, rfl, z14⟩ := str_at g8 (hwt 8 _ _ rfl rfl)
  obtain ⟨child, rfl, z15⟩ := str_at g9 (hwt 9 _ _ rfl rfl)
  have hvl : value.length ≤ 140737488355328 := len_at g3 (hwt 3 _ _ rfl rfl)
  refine ⟨⟨⟨op, key, keys, value, tags, life, version, tag, pre, child⟩, KA, kc, VA, vc, TA, tc⟩, ?_, ⟨z3, z2, z6.rd, z6.non, z8, z7⟩, ⟨o1, o2, z1, z15, z13, z14, hvl, z4, z9, z5, z10, z11, z12⟩⟩
  unfold comV
  congr 1
  exact Array.toList_inj.1 ha
end
end Go.Proofs.YthlfahblnpijaaaDoor.Qu
