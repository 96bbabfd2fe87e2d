/- Proves what the methods Cells and Copy of a table return and leave. Conditions: as each theorem names them. -/
import Derived.Test.YthabnffmlgppdaaPg
import Derived.Test.YthabnffmlgppdaaTd
import Derived.BigRegion
import Derived.Deep.CutRange
import Derived.Deep.RegionWith
namespace Go.Proofs.Ythabnffmlgppdaa.Ph
open Go.RowKit Ap Mi Nw Rg Hm Tm Tn Ta Tb Pm Pa Pb Pc Pd Pe Pf
open Tc (kc_set nc_set)
open Td (zK zI make_keys make_ints own_ki own_ik len_none)

/-- What a copy of the cells leaves. -/
def clonePost (w : World) (n : Nat) (xs : List Value) : Ending → World → Prop := fun e w' =>
  ∃ A c, e = .returned (.slice A n c) ∧ Mine w.heap.size 2 w' A n c xs ∧ Below w.heap.size w w'
theorem rs_none {w : World} {sz n c : Nat} {xs : List Value} (h : Rs w sz none n c xs) (hp : 0 < sz) : n = 0 ∧ c = 0 ∧ xs = [] := by
  have h0 : xs = [] := by
    rcases Nat.eq_zero_or_pos xs.length with h0 | h0
    · exact List.eq_nil_of_length_eq_zero h0
    · obtain ⟨_, _, e, _⟩ := h.rd h0; cases e
  subst h0
  have hl := h.len
  refine ⟨?_, h.non rfl, rfl⟩
  rcases Nat.eq_zero_or_pos n with h2 | h2
  · exact h2
  · have := Nat.mul_pos h2 hp; simp at hl; omega
theorem clone_nil (w : World) (A : Option Addr) (n c : Nat) : (binOp .eql 49 (.slice A n c) (.slice none 0 0)).run Try.prog w = .ok (.bool A.isNone) w := Lib.run_eql_slice_nil w 49 79 A n c 0 0 Try.underlying49
set_option maxRecDepth 100000 in
set_option maxHeartbeats 1000000 in
theorem clone_any (A : Option Addr) (n c : Nat) (xs : List Value) (w : World) (h : Rs w 2 A n c xs) (h1 : ∀ u ∈ xs, u.oneCell' = true) (hn : n ≤ 1000000000) :
    Calls Try.prog 45 #[.slice A n c] w (clonePost w n xs) := by
  cases A with
  | none =>
    obtain ⟨rfl, rfl, rfl⟩ := rs_none h (by omega)
    have hnil := fun w => clone_nil w none 0 0
    clear h
    unfold clonePost
    go_enter Try.func45, Try.ntmps45
    go_wp2_with fail
    go_ret
    exact ⟨_, _, rfl, Mine.nil _ _ _, Below.refl _ _⟩
  | some a =>
    have HS := Lib.hid ((h.below (bnew w (.cells #[] 79)) (Nat.le_refl _)).src Try.underlying49 (by omega) h1)
    have HM := Lib.hid (Mine.lit (sz := 2) w #[] 79 0 rfl (by unfold maxLen; omega))
    have hnil := fun w => clone_nil w (some a) n c
    clear h h1
    unfold clonePost
    go_enter Try.func45, Try.ntmps45
    go_wp2_with (at_builtin; (refine wpList_mine rfl _ _ elC _ rfl rfl HM.out _ rfl n _ HS.out (by omega) (by omega) (by simp) ?_))
    intro A' c' w1 m1 g1 _
    have HM1 := Lib.hid m1
    have HB1 : Hid (Below w.heap.size w w1) := (bnew w _).trans (Tb.below_grown g1 (by simp) (fun k e => by simp at e; omega))
    clear m1 g1
    go_wp2_with fail
    go_ret
    refine ⟨A', c', by simp, ?_, HB1.out⟩
    simpa using HM1.out
section
variable {F F' : Nat → Prop} {w w' : World} {g : Nat} {seed m : Int} {c : List (Cell Key)}
/-- What Copy leaves. -/
def copyPost (w : World) (seed : Int) (c : List (Cell Key)) : Ending → World → Prop := fun e w' =>
  ∃ g, e = .returned (.pointer (some ⟨g, 0, none⟩)) ∧ Pt (fun j => w.heap.size ≤ j) w' g seed c ∧ Below w.heap.size w w'
set_option maxRecDepth 100000 in
set_option maxHeartbeats 1000000 in
theorem copy_any (h : Pt F w g seed c) : Calls Try.prog 24 #[.pointer (some ⟨g, 0, none⟩)] w (copyPost w seed c) := by
  have HU := Lib.hid (usable_any h.pl)
  have HH := Lib.hid h
  have hlim := h.pl.lim
  obtain ⟨A, cap, h1, h2, h3, h4⟩ := h.pl.has
  obtain ⟨c0, c1, c2, _, _, _⟩ := h1.three
  have HG := Lib.hid h1
  have HA := Lib.hid h3
  obtain ⟨x, hx⟩ : ∃ x, x = cnt c := ⟨_, rfl⟩
  have HX := Lib.hid hx
  rw [← hx] at c2 HG
  clear h h1 h2 h3 h4 hx
  unfold copyPost
  go_enter Try.func24, Try.ntmps24
  go_wp2_with fail
  refine HU.out.mono ?_
  rintro e w1 ⟨rfl, rfl⟩
  go_wp2_with fail
  have HGd := Lib.hid (show Blk w.drew g _ _ from HG.out)
  have HAd := Lib.hid (mine_drew HA.out)
  have Od := Lib.hid ((Below.refl w.heap.size w).drew)
  refine wp_region_noPanic ?_
  refine wp_region_held_drew (S := fun v => v.cell? ⟨g, 0, none⟩ = some (.int .u64 seed) ∧ v.cell? ⟨g, 1, none⟩ = some (.slice A c.length cap) ∧ v.cell? ⟨g, 2, none⟩ = some (.int .i64 (x : Int))) (by kernel_rfl) (⟨c0, c1, c2⟩) (fun hHeld => ?_)
  generalize w.drew = u1 at HGd HAd Od hHeld ⊢
  refine wpAnyH_take (i := 0) (oi := ⟨some 6, _, _, _, _, _⟩) (v := ?_) rfl (by kernel_rfl) (by kernel_rfl) (by kernel_rfl) (fun _ _ _ h => h) (Or.inl ⟨by rfl, ?_⟩) (by assumption) ?_
  rotate_left
  · intro w hSw; go_simp; first | done | with_reducible rfl
  try simp only [Act.put, List.setIfInBounds_toArray, List.set_cons_zero, List.set_cons_succ]
  refine wpAnyH_take (i := 1) (oi := ⟨some 7, _, _, _, _, _⟩) (v := ?_) rfl (by kernel_rfl) (by kernel_rfl) (by kernel_rfl) (fun _ _ _ h => h) (Or.inl ⟨by rfl, ?_⟩) (by assumption) ?_
  rotate_left
  · intro w hSw; go_simp; first | done | with_reducible rfl
  try simp only [Act.put, List.setIfInBounds_toArray, List.set_cons_zero, List.set_cons_succ]
  refine wpAnyH_take (i := 2) (oi := ⟨some 8, _, _, _, _, _⟩) (v := ?_) rfl (by kernel_rfl) (by kernel_rfl) (by kernel_rfl) (fun _ _ _ h => h) (Or.inl ⟨by rfl, ?_⟩) (by assumption) ?_
  rotate_left
  · intro w hSw; go_simp; first | done | with_reducible rfl
  try simp only [Act.put, List.setIfInBounds_toArray, List.set_cons_zero, List.set_cons_succ]
  refine wpAnyH_take (i := 3) (oi := ⟨some 9, _, _, _, _, _⟩) (v := ?_) rfl (by kernel_rfl) (by kernel_rfl) (by kernel_rfl) (fun _ _ _ h => h) (Or.inl ⟨by rfl, ?_⟩) (by assumption) ?_
  rotate_left
  · intro w hSw; go_simp; first | done | with_reducible rfl
  try simp only [Act.put, List.setIfInBounds_toArray, List.set_cons_zero, List.set_cons_succ]
  refine wpAnyH_take (i := 4) (oi := ⟨some 10, _, _, _, _, _⟩) (v := ?_) rfl (by kernel_rfl) (by kernel_rfl) (by kernel_rfl) (fun _ _ _ h => h) (Or.inl ⟨by rfl, ?_⟩) (by assumption) ?_
  rotate_left
  · intro w hSw; go_simp; first | done | with_reducible rfl
  try simp only [Act.put, List.setIfInBounds_toArray, List.set_cons_zero, List.set_cons_succ]
  refine wpAnyH_take (i := 5) (oi := ⟨some 11, _, _, _, _, _⟩) (v := ?_) rfl (by kernel_rfl) (by kernel_rfl) (by kernel_rfl) (fun _ _ _ h => h) (Or.inl ⟨by rfl, ?_⟩) (by assumption) ?_
  rotate_left
  · intro w hSw; go_simp; first | done | with_reducible rfl
  try simp only [Act.put, List.setIfInBounds_toArray, List.set_cons_zero, List.set_cons_succ]
  refine wpAnyH_take (i := 6) (oi := ⟨some 12, _, _, _, _, _⟩) (v := ?_) rfl (by kernel_rfl) (by kernel_rfl) (by kernel_rfl) (fun _ _ _ h => h) (Or.inl ⟨by rfl, ?_⟩) (by assumption) ?_
  rotate_left
  · intro w hSw; go_simp; first | done | with_reducible rfl
  try simp only [Act.put, List.setIfInBounds_toArray, List.set_cons_zero, List.set_cons_succ]
  refine wpAnyH_take (i := 7) (oi := ⟨some 13, _, _, _, _, _⟩) (v := ?_) rfl (by kernel_rfl) (by kernel_rfl) (by kernel_rfl) (fun _ _ _ h => h) (Or.inl ⟨by rfl, ?_⟩) (by assumption) ?_
  rotate_left
  · intro w hSw; go_simp; first | done | with_reducible rfl
  try simp only [Act.put, List.setIfInBounds_toArray, List.set_cons_zero, List.set_cons_succ]
  refine wpAnyH_take (i := 9) (oi := ⟨some 15, _, _, _, _, _⟩) (v := ?_) rfl (by kernel_rfl) (by kernel_rfl) (by kernel_rfl) (fun _ _ _ h => h) (Or.inl ⟨by rfl, ?_⟩) (by assumption) ?_
  rotate_left
  · intro w hSw; go_simp; first | done | with_reducible rfl
  try simp only [Act.put, List.setIfInBounds_toArray, List.set_cons_zero, List.set_cons_succ]
  refine wpAnyH_take (i := 10) (oi := ⟨some 16, _, _, _, _, _⟩) (v := ?_) rfl (by kernel_rfl) (by kernel_rfl) (by kernel_rfl) (fun _ _ _ h => h) (Or.inl ⟨by rfl, ?_⟩) (by assumption) ?_
  rotate_left
  · intro w hSw; go_simp; first | done | with_reducible rfl
  try simp only [Act.put, List.setIfInBounds_toArray, List.set_cons_zero, List.set_cons_succ]
  refine wpAnyH_take (i := 11) (oi := ⟨some 17, _, _, _, _, _⟩) (v := ?_) rfl (by kernel_rfl) (by kernel_rfl) (by kernel_rfl) (fun _ _ _ h => h) (Or.inl ⟨by rfl, ?_⟩) (by assumption) ?_
  rotate_left
  · intro w hSw; go_simp; first | done | with_reducible rfl
  try simp only [Act.put, List.setIfInBounds_toArray, List.set_cons_zero, List.set_cons_succ]
  refine wpAnyH_take (i := 12) (oi := ⟨some 18, _, _, _, _, _⟩) (v := ?_) rfl (by kernel_rfl) (by kernel_rfl) (by kernel_rfl) (fun _ _ _ h => h) (Or.inl ⟨by rfl, ?_⟩) (by assumption) ?_
  rotate_left
  · intro w hSw; go_simp; first | done | with_reducible rfl
  try simp only [Act.put, List.setIfInBounds_toArray, List.set_cons_zero, List.set_cons_succ]
  refine wpAnyH_ready (rs := [8]) (by kernel_rfl) (by simp) ?_
  refine AllReadyH.cons (o := ⟨some 14, _, _, _, _, _⟩) rfl (fun K hK => ?_) AllReadyH.nil
  go_simp
  refine (clone_any A c.length cap _ u1 (Rs.mine HAd.out) (pc_one _) (by omega)).mono ?_
  rintro e u2 ⟨A2, k2, rfl, m2, b2⟩
  have HM2 := Lib.hid m2; have HB2 := Lib.hid b2
  have HG2 := Lib.hid (HGd.out.below b2 HGd.out.lt)
  have hz2 := b2.size
  clear m2 b2
  go_simp
  refine hK.out _ _ (⟨HG2.out.cell 0, HG2.out.cell 1, HG2.out.cell 2⟩) (fun hHeld => ?_)
  clear hK K
  try simp only [Act.put, List.setIfInBounds_toArray, List.set_cons_zero, List.set_cons_succ]
  refine wpAnyH_take (i := 13) (oi := ⟨some 19, _, _, _, _, _⟩) (v := ?_) rfl (by kernel_rfl) (by kernel_rfl) (by kernel_rfl) (fun _ _ _ h => h) (Or.inl ⟨by rfl, ?_⟩) (by assumption) ?_
  rotate_left
  · intro w hSw; go_simp; first | done | with_reducible rfl
  try simp only [Act.put, List.setIfInBounds_toArray, List.set_cons_zero, List.set_cons_succ]
  refine wpAnyH_ready (rs := [14]) (by kernel_rfl) (by simp) ?_
  refine AllReadyH.cons (o := ⟨some 20, _, _, _, _, _⟩) rfl (fun K hK => ?_) AllReadyH.nil
  go_simp
  have HG4 := Lib.hid (HG2.out.below (bnew u2 (.cells #[.int .u64 seed, .slice A2 c.length k2, .int .i64 (x : Int)] 51)) HG2.out.lt)
  refine hK.out _ _ (⟨HG4.out.cell 0, HG4.out.cell 1, HG4.out.cell 2⟩) (fun hHeld => ?_)
  clear hK K
  try simp only [Act.put, List.setIfInBounds_toArray, List.set_cons_zero, List.set_cons_succ]
  refine wpAnyH_take (i := 15) (oi := ⟨some 2, _, _, _, _, _⟩) (v := ?_) rfl (by kernel_rfl) (by kernel_rfl) (by kernel_rfl) (fun _ _ _ h => h) (Or.inl ⟨by rfl, ?_⟩) (by assumption) ?_
  rotate_left
  · intro w hSw; go_simp; first | done | with_reducible rfl
  try simp only [Act.put, List.setIfInBounds_toArray, List.set_cons_zero, List.set_cons_succ]
  refine wpAnyH_done (by kernel_rfl) ?_ _
  refine NoPanic.normal ?_
  go_wp2_with fail
  go_ret
  have hzd := Od.out.size
  have hxx := HX.out
  subst hxx
  refine ⟨_, rfl, ⟨⟨⟨A2, k2, Blk.new u2 _ _, by omega, (HM2.out.mono (Nat.zero_le _)).below (bnew u2 _) (Nat.le_refl _), fun a ha => ?_⟩, HH.out.pl.kys, HH.out.pl.sd, HH.out.pl.pw, HH.out.pl.lim⟩, HH.out.good⟩, ?_⟩
  · have h1 := HM2.out.base ha; exact ⟨by omega, by omega⟩
  · exact (Od.out.trans (HB2.out.mono hzd)).trans ((bnew u2 _).mono (by omega))
/-- What Cells leaves. -/
def cellsPost (w : World) (c : List (Cell Key)) : Ending → World → Prop := fun e w' =>
  ∃ X Y, e = .returned (.tuple #[.slice X c.length c.length, .slice Y c.length c.length]) ∧ Own w.heap.size w' c X c.length Y c.length ∧ Below w.heap.size w w'
theorem kc_put (c : List (Cell Key)) (i : Nat) (o : Cell Key) : (kc c).set i (.string ⟨(ck o).toArray⟩) = kc (c.set i o) := by unfold kc; rw [List.map_set]; rfl
theorem nc_put (c : List (Cell Key)) (i : Nat) (o : Cell Key) : (nc c).set i (.int .i64 (cn o : Int)) = nc (c.set i o) := by unfold nc; rw [List.map_set]
/-- What has been copied when K cells are done. -/
def part (c : List (Cell Key)) (K : Nat) : List (Cell Key) := c.take K ++ List.replicate (c.length - K) none
theorem part_len {c : List (Cell Key)} {K : Nat} (h : K ≤ c.length) : (part c K).length = c.length := by unfold part; simp; omega
theorem part_zero (c : List (Cell Key)) : part c 0 = List.replicate c.length none := by unfold part; simp
theorem part_all (c : List (Cell Key)) : part c c.length = c := by unfold part; simp
theorem part_set {c : List (Cell Key)} {K : Nat} {o : Cell Key} (h : c[K]? = some o) : (part c K).set K o = part c (K + 1) := by
  obtain ⟨hl, rfl⟩ := List.getElem?_eq_some_iff.1 h
  unfold part
  rw [List.set_append_right _ _ (by rw [List.length_take]; omega), List.take_succ_eq_append_getElem hl]
  have e : c.length - K = (c.length - (K + 1)) + 1 := by omega
  rw [show (c.take K).length = K by simp; omega, Nat.sub_self, e, List.replicate_succ, List.set_cons_zero, List.append_assoc]
  rfl
theorem own_put {N : Nat} {d : List (Cell Key)} {gX oX gY oY p q : Nat} (h : Own N w d (some ⟨gX, oX, none⟩) p (some ⟨gY, oY, none⟩) q) {K : Nat} (hK : K < d.length) (o : Cell Key) :
    Own N ((w.setCell ⟨gX, oX + K, none⟩ (.string ⟨(ck o).toArray⟩)).setCell ⟨gY, oY + K, none⟩ (.int .i64 (cn o : Int))) (d.set K o) (some ⟨gX, oX, none⟩) p (some ⟨gY, oY, none⟩) q ∧
      Below N w ((w.setCell ⟨gX, oX + K, none⟩ (.string ⟨(ck o).toArray⟩)).setCell ⟨gY, oY + K, none⟩ (.int .i64 (cn o : Int))) := by
  have hne : gX ≠ gY := h.ne _ _ rfl rfl
  have o1 : Only (fun j => j = gX) w (w.setCell ⟨gX, oX + K, none⟩ (.string ⟨(ck o).toArray⟩)) := only_own (F := fun j => j = gX) rfl _
  have o2 : Only (fun j => j = gY) (w.setCell ⟨gX, oX + K, none⟩ (.string ⟨(ck o).toArray⟩)) ((w.setCell ⟨gX, oX + K, none⟩ (.string ⟨(ck o).toArray⟩)).setCell ⟨gY, oY + K, none⟩ (.int .i64 (cn o : Int))) := only_own (F := fun j => j = gY) rfl _
  have bX := h.ks.base rfl; have bY := h.ns.base rfl
  refine ⟨⟨?_, ?_, h.ne⟩, ?_⟩
  · rw [List.length_set]
    exact (mine_put h.ks K _ (by rw [kc_len]; exact hK) (kc_put d K o)).only o2 (fun a ha e => by injection ha with ha; subst ha; exact hne e)
  · rw [List.length_set]
    exact mine_put (h.ns.only o1 (fun a ha e => by injection ha with ha; subst ha; exact hne e.symm)) K _ (by rw [nc_len]; exact hK) (nc_put d K o)
  · refine ((o1.mono (G := fun j => j = gX ∨ j = gY) fun _ _ e => Or.inl e).trans (o2.mono fun _ _ e => Or.inl (Or.inr e))).below (fun j e => ?_) (by have := bX.1; have := bX.2.1; omega)
    rcases e with rfl | rfl
    · exact bX.1
    · exact bY.1
set_option maxRecDepth 100000 in
set_option maxHeartbeats 2000000 in
theorem cells_gen (p : Value) (hn : c.length ≤ 1000000) (HSZ : Hid (∀ W, Below w.heap.size w W → Calls Try.prog 16 #[p] W fun e w' => e = .returned (.int .i64 (c.length : Int)) ∧ W = w'))
    (HC : Hid (∀ W, Below w.heap.size w W → ∀ i o, c[i]? = some o → ∃ g gA oA cap sd m, p = .pointer (some ⟨g, 0, none⟩) ∧ g < w.heap.size ∧ gA < w.heap.size ∧ Blk W g #[.int .u64 sd, .slice (some ⟨gA, oA, none⟩) c.length cap, .int .i64 m] 51 ∧
      W.cell? ⟨gA, oA + i * 2, none⟩ = some (.string ⟨(ck o).toArray⟩) ∧ W.cell? ⟨gA, oA + i * 2 + 1, none⟩ = some (.int .i64 (cn o : Int)))) :
    Calls Try.prog 21 #[p] w (cellsPost w c) := by
  unfold cellsPost
  have MK : ∀ W : World, (Instr.makeSlice 28 (.int .i64 (c.length : Int)) (.int .i64 (c.length : Int))).run Try.prog W = .ok (.slice (some ⟨W.heap.size, 0, none⟩) c.length c.length) (W.alloc (.cells (zK c.length) 9)) := fun W => make_keys c.length W (by omega)
  have MI : ∀ W : World, (Instr.makeSlice 29 (.int .i64 (c.length : Int)) (.int .i64 (c.length : Int))).run Try.prog W = .ok (.slice (some ⟨W.heap.size, 0, none⟩) c.length c.length) (W.alloc (.cells (zI c.length) 3)) := fun W => make_ints c.length W (by omega)
  go_enter Try.func21, Try.ntmps21
  go_upto_region 1 with (fail)
  go_cut [4, 5] from 7 (fun s4 s5 wx => ∃ X Y, s4 = .slice X c.length c.length ∧ s5 = .slice Y c.length c.length ∧ Own w.heap.size wx (List.replicate c.length none) X c.length Y c.length ∧ Below w.heap.size w wx)
  case first =>
    go_region_with (go_at_call 16; refine (HSZ.out _ (by first | exact Below.refl _ _ | exact (Below.refl _ _).drew | exact (Below.refl _ _).drew.alloc (Nat.le_refl _) _ | exact (bnew _ _) | exact (bnew _ _).drew)).mono ?_; rintro e w1 ⟨rfl, rfl⟩)
    all_goals (go_wp2_with fail; go_meet; first | exact ⟨_, _, rfl, rfl, (own_ki c.length w (by omega)).only ((Only.refl (fun _ => False) _).drew) (fun _ hf => hf.elim), ((bnew w _).alloc (by simp) _).drew⟩ | exact ⟨_, _, rfl, rfl, (own_ik c.length w (by omega)).only ((Only.refl (fun _ => False) _).drew) (fun _ hf => hf.elim), ((bnew w _).alloc (by simp) _).drew⟩)
  case rest =>
    obtain ⟨X, Y, rfl, rfl, ho, hb⟩ := hcut
    have HO := Lib.hid ho; have HB := Lib.hid hb
    clear ho hb MK MI HSZ
    go_wp2_with fail
    go_loopw [15] (fun i wr => ∃ K : Nat, K ≤ c.length ∧ i = .int .i64 (K : Int) ∧ Own w.heap.size wr (part c K) X c.length Y c.length ∧ Below w.heap.size w wr) (fun i _ => c.length - (intOf i).toNat)
    case atStart => exact ⟨0, Nat.zero_le _, rfl, by rw [part_zero]; exact HO.out, HB.out⟩
    case round =>
      obtain ⟨K, hK, rfl, ho, hb⟩ := hrel
      by_cases hlt : K < c.length
      · have i1 : (K : Int) < (c.length : Int) := by omega
        obtain ⟨o, hgo, _⟩ := get_of hlt
        have HG := Lib.hid hgo
        obtain ⟨g, gA, oA, cap, sd, m, rfl, lg, lA, hB, e0, e1⟩ := HC.out wr hb K o hgo
        obtain ⟨c0, c1, c2, _⟩ := hB.three
        have hpl : K < (part c K).length := by rw [part_len hK]; exact hlt
        obtain ⟨gX, oX, rfl, lX, lX2⟩ := mine_place ho.ks (by rw [kc_len]; omega)
        obtain ⟨gY, oY, rfl, lY, lY2⟩ := mine_place ho.ns (by rw [nc_len]; omega)
        obtain ⟨x0, xf0⟩ := mine_cell ho.ks (kc_get hpl)
        obtain ⟨y0, yf0⟩ := mine_cell ho.ns (nc_get hpl)
        have nXY : gX ≠ gY := ho.ne _ _ rfl rfl
        have HOr := Lib.hid ho; have HBr := Lib.hid hb
        have hzr := hb.size
        have lg2 : g < wr.heap.size := by omega
        have lA2 : gA < wr.heap.size := by omega
        have n1 : gX ≠ g := by omega
        have n2 : gX ≠ gA := by omega
        have n3 : gY ≠ g := by omega
        have n4 : gY ≠ gA := by omega
        clear ho hb hB hgo
        go_wp2_with fail
        go_region
        obtain ⟨HO2, HB2⟩ := own_put HOr.out hpl o
        rw [part_set HG.out] at HO2
        have HO3 := Lib.hid (HO2.only ((Only.refl (fun _ => False) _).drew) (fun _ hf => hf.elim))
        have HB3 := Lib.hid (HBr.out.trans (HB2.mono (by omega)).drew)
        clear HO2 HB2 x0 y0 xf0 yf0 c0 c1 c2 e0 e1
        go_wp2_with fail
        go_roundw
        case rel => exact ⟨K + 1, by omega, by go_num, HO3.out, HB3.out⟩
        case measure => simp [intOf]; omega
      · obtain rfl : K = c.length := by omega
        have hnn : ¬ (c.length : Int) < c.length := by omega
        have HOr := Lib.hid ho; have HBr := Lib.hid hb
        clear ho hb
        rw [part_all] at HOr
        go_wp2_with fail
        go_ret2
        exact ⟨_, _, rfl, HOr.out, HBr.out⟩
theorem cells_any (h : Pl F w g seed m c) : Calls Try.prog 21 #[.pointer (some ⟨g, 0, none⟩)] w (cellsPost w c) := by
  refine cells_gen _ h.lim (fun W hW => size_any (h.below hW (Nat.le_refl _))) (fun W hW i o hi => ?_)
  obtain ⟨gA, oA, cap, hB, _, _, _, _, _, _, _, hM⟩ := h.slot hi
  obtain ⟨gA', oA', cap', hB', _, _, _, e0, e1, _⟩ := (h.below hW (Nat.le_refl _)).slot hi
  have e := hB'.symm.trans (hB.below hW h.lt)
  have hA : gA' = gA := by simp at e; exact e.1.1
  exact ⟨g, gA', oA', cap', seed, m, rfl, h.lt, by rw [hA]; exact (hM.base rfl).2.1, hB', e0, e1⟩
end
end Go.Proofs.Ythabnffmlgppdaa.Ph
