/- Proves the contracts of the methods List and Copy of the program's heap of deadlines, and of its methods at nil and zero heaps. Conditions: as each theorem names them. -/
import Derived.Test.YtpalbccoiejmoaaYed
import Derived.Test.YtpalbccoiejmoaaZq
import Derived.Deep.RegionWith
namespace Go.Proofs.Ytpalbccoiejmoaa.Ye
open Go.RowKit Go.Maps Ap Mi Nw Ya Yb Yc Yd Zk Zm Za Zl Zs Zt

theorem below_of_grown {w w' : World} {row : Option Nat} {B : Nat} (h : w.grownBy w' row) (hB : B ≤ w.heap.size) (hr : ∀ k, row = some k → B ≤ k) : Below B w w' := (Below.refl B w).grown h hB hr
/-- What a copy of a slice leaves. -/
def clonePost (w : World) (n : Nat) (xs : List Value) : Ending → World → Prop := fun e w' =>
  ∃ A c, e = .returned (.slice A n c) ∧ Mine w.heap.size 2 w' A n c xs ∧ Below w.heap.size w w'
theorem clone_nil (w : World) (A : Option Addr) (n c : Nat) : (binOp .eql 26 (.slice A n c) (.slice none 0 0)).run Try.prog w = .ok (.bool A.isNone) w := Lib.run_eql_slice_nil w 26 41 A n c 0 0 Try.underlying26
set_option maxRecDepth 100000 in
set_option maxHeartbeats 1000000 in
theorem clone_any (A : Option Addr) (n c : Nat) (Q : List Td) (w : World) (h : Rs w 2 A n c (tv Q)) (hn : n ≤ 1000000000) :
    Calls Try.prog 35 #[.slice A n c] w (clonePost w n (tv Q)) := by
  have h1 := tv_one Q
  have h2 := tv_len Q
  obtain ⟨xs, hxs⟩ : ∃ xs, xs = tv Q := ⟨_, rfl⟩
  rw [← hxs] at h h1 h2 ⊢
  clear hxs
  cases A with
  | none =>
    have h0 : xs = [] := by
      rcases Nat.eq_zero_or_pos xs.length with h0 | h0
      · exact List.eq_nil_of_length_eq_zero h0
      · obtain ⟨_, _, e, _⟩ := h.rd h0; cases e
    subst h0
    have hl := h.len
    obtain rfl : n = 0 := by simp at hl; omega
    obtain rfl : c = 0 := h.non rfl
    have hnil := fun w => clone_nil w none 0 0
    clear h h1 h2 hl
    unfold clonePost
    go_enter Try.func35, Try.ntmps35
    go_wp2_with fail
    go_ret
    exact ⟨_, _, rfl, Mine.nil _ _ _, Below.refl _ _⟩
  | some a =>
    have HS := Lib.hid ((h.below (bnew w (.cells #[] 41)) (Nat.le_refl _)).src Try.underlying26 (by omega) h1)
    have HM := Lib.hid (Mine.lit (sz := 2) w #[] 41 0 rfl (by unfold maxLen; omega))
    have hnil := fun w => clone_nil w (some a) n c
    clear h h1 h2
    unfold clonePost
    go_enter Try.func35, Try.ntmps35
    go_wp2_with (at_builtin; (refine wpList_mine rfl _ _ elT _ rfl rfl HM.out _ rfl n _ HS.out (by omega) (by omega) (by simp) ?_))
    intro A' c' w1 m1 g1 _
    have HM1 := Lib.hid m1
    have HB1 : Hid (Below w.heap.size w w1) := (bnew w _).trans (below_of_grown g1 (by simp) (fun k e => by simp at e; omega))
    clear m1 g1
    go_wp2_with fail
    go_ret
    refine ⟨A', c', by simp, ?_, HB1.out⟩
    simpa using HM1.out
def mclonePost (w : World) (D : DataW Unit) : Ending → World → Prop := fun e w' => e = .returned (.map (some w.heap.size)) ∧ Own w' w.heap.size D ∧ Below w.heap.size w w' ∧ w'.heap.size = w.heap.size + 1
set_option maxRecDepth 100000 in
theorem mclone_any {w : World} {b : Nat} {D : DataW Unit} (h : Own w b D) : Calls Try.prog 41 #[.map (some b)] w (mclonePost w D) := by
  obtain ⟨es, clock, hb, hfit, hs, hD⟩ := h
  have HP : Hid (mclonePost w D (.returned (.map (some w.heap.size))) (w.alloc (.map es clock))) :=
    ⟨rfl, ⟨es, clock, (MapKept.heap_alloc w _).1, hfit, hs, hD⟩, bnew _ _, by simp⟩
  have HB := Lib.hid hb
  have hq := fun w => run_eql_map_nil_sl (P := Try.prog) w 53 _ _ (some b) Try.underlying53
  clear hb hfit hs hD
  obtain ⟨Q, hQ⟩ : ∃ Q, Q = mclonePost w D := ⟨_, rfl⟩
  rw [← hQ] at HP ⊢
  clear hQ
  go_enter Try.func41, Try.ntmps41
  go_wp2
  rw [run_callFunc_extern (P := Try.prog) (f := 51) (fn := Try.f51) (by kernel_rfl) (by kernel_rfl) (by kernel_rfl) (by kernel_rfl) (e := Extern.MapsClone.clone) (by kernel_rfl), run_maps_clone_sl w 53 HB.out]
  simp only [Result.andThen]
  rw [Oper.upon_value]
  go_wp2
  rw [run_typeAssert_map_sl _ 53 20 _ _ _ Try.underlying53]
  simp only [Result.andThen]
  rw [Oper.upon_value]
  go_wp2
  exact HP.out
section
variable {F : Nat → Prop} {w : World} {g : Nat} {L : List Td}
set_option maxRecDepth 100000 in
theorem list_any (h : Hp F w g L) : Calls Try.prog 19 #[.pointer (some ⟨g, 0, none⟩)] w (listPost w L) := by
  obtain ⟨⟨A, c, B, D, Q, f, hlo, hF, hm, hf, hh, hp⟩, hsrt⟩ := h
  have hlen : Q.length ≤ 1048576 := by rw [hp.length_eq]; exact hsrt.len
  have HC := Lib.hid (clone_any A Q.length c Q w (Lt.mine hlo.mi) (by omega))
  have HL : Hid (L.length = Q.length) := hp.length_eq.symm
  have HI : Hid (Zq.inOrder Q = L) := Zq.inOrder_is hp hsrt.pw
  have HQ : Hid (∀ n, n = Q.length → ∀ W A' c', Mine w.heap.size 2 W A' n c' (tv Q) → Calls Try.prog 36 #[.slice A' n c', .func (.func 37) #[] #[]] W fun e w' => e = .returned (.tuple #[]) ∧ Mine w.heap.size 2 w' A' n c' (tv (Zq.inOrder Q)) ∧ Below w.heap.size W w') := fun n hn W A' c' hM => Zq.sort_all hM hn.symm (by omega)
  obtain ⟨x0, x1, _⟩ := hlo.bk.two
  have lg := hlo.bk.lt
  unfold listPost
  unfold clonePost at HC
  obtain ⟨n, hn⟩ : ∃ n, n = Q.length := ⟨_, rfl⟩
  have HN := Lib.hid hn
  rw [← hn] at x0 HC HL
  clear hlo hF hm hf hh hp hsrt hn hlen
  go_enter Try.func19, Try.ntmps19
  go_wp2_with fail
  refine HC.out.mono ?_
  rintro e w1 ⟨A1, c1, rfl, m1, b1⟩
  have HS := Lib.hid (HQ.out n HN.out w1 A1 c1 m1)
  have HB1 := Lib.hid b1
  clear m1 b1 HC
  go_wp2_with fail
  refine HS.out.mono ?_
  rintro e w2 ⟨rfl, m2, b2⟩
  have HM2 := Lib.hid m2
  have HB2 := Lib.hid (HB1.out.trans b2)
  clear m2 b2 HS
  go_wp2_with fail
  go_ret
  refine ⟨A1, c1, by rw [HL.out]; rfl, ?_, HB2.out⟩
  rw [HL.out, ← HI.out]; exact HM2.out
theorem mine0 {N n c : Nat} {w : World} {A : Option Addr} {xs : List Value} (h : Mine N 2 w A n c xs) : Mine 0 2 w A n c xs :=
  ⟨h.le, h.max, h.len, h.non, fun a ha => by obtain ⟨g, o, e, h1, h2⟩ := h.lies a ha; exact ⟨g, o, e, Nat.zero_le _, h2⟩⟩
theorem copy_end {w0 w2 : World} {D : DataW Unit} {Q L : List Td} {f : Int → Int} {A : Option Addr} {c : Nat} (hm : Md D (fun m => m ∈ ns Q) Q.length f) (hf : Plc f Q) (hh : HeapQ Q) (hp : Q.Perm L) (hs : Srt L)
    (h1 : Mine w0.heap.size 2 w2 A Q.length c (tv Q)) (B : Nat) (h2 : Own w2 B D) (hB : w0.heap.size ≤ B) (hne : ∀ a, A = some a → a.block ≠ B) (h3 : Below w0.heap.size w0 w2) :
    mkPost w0 L (.returned (.pointer (some ⟨w2.heap.size, 0, none⟩))) (w2.alloc (.cells #[.slice A Q.length c, .map (some B)] 55)) := by
  have hz := h3.size
  have hlt := h2.lt
  have ho : Only (fun _ => False) w2 (w2.alloc (.cells #[.slice A Q.length c, .map (some B)] 55)) := (Only.refl (fun _ => False) _).alloc _
  refine ⟨_, rfl, ⟨⟨A, c, B, D, Q, f, ⟨Blk.new _ _ _, h2.kept ho (fun h => h), mine0 (h1.only ho (fun _ _ h => h)), by omega, fun a ha => ⟨by have := (h1.base ha).2.1; omega, hne a ha⟩⟩, ⟨hz, hB, fun a ha => (h1.base ha).1⟩, hm, hf, hh, hp⟩, hs⟩, h3.alloc hz _⟩
set_option maxRecDepth 100000 in
set_option maxHeartbeats 4000000 in
theorem copy_any (h : Hp F w g L) : Calls Try.prog 24 #[.pointer (some ⟨g, 0, none⟩)] w (mkPost w L) := by
  obtain ⟨⟨A, c, B, D, Q, f, hlo, hF, hm, hf, hh, hp⟩, hsrt⟩ := h
  have hlen : Q.length ≤ 1048576 := by rw [hp.length_eq]; exact hsrt.len
  have HU := Lib.hid (usable_any hlo.bk)
  obtain ⟨x0, x1, _⟩ := hlo.bk.two
  have lg := hlo.bk.lt
  obtain ⟨n, hn⟩ : ∃ n, n = Q.length := ⟨_, rfl⟩
  have CS : Hid (∀ W, Below w.heap.size w W → Calls Try.prog 35 #[.slice A n c] W (clonePost W n (tv Q))) := fun W hW => by
    have := clone_any A n c Q W (by rw [hn]; exact Rs.below (Lt.mine hlo.mi) hW (Nat.le_refl _)) (by omega)
    exact this
  have CM : Hid (∀ W, Below w.heap.size w W → Calls Try.prog 41 #[.map (some B)] W (mclonePost W D)) := fun W hW => mclone_any (hlo.ob.kept (Only.of_below hW (Nat.le_refl _) (fun _ => False)) (fun h => h))
  have HE : Hid (∀ w2 A1 c1 B1, Mine w.heap.size 2 w2 A1 n c1 (tv Q) → Own w2 B1 D → w.heap.size ≤ B1 → (∀ a, A1 = some a → a.block ≠ B1) → Below w.heap.size w w2 → mkPost w L (.returned (.pointer (some ⟨w2.heap.size, 0, none⟩))) (w2.alloc (.cells #[.slice A1 n c1, .map (some B1)] 55))) := fun w2 A1 c1 B1 k1 k2 k3 k4 k5 => by
    rw [hn] at k1 ⊢
    exact copy_end hm hf hh hp hsrt k1 B1 k2 k3 k4 k5
  rw [← hn] at x0
  unfold clonePost at CS
  unfold mclonePost at CM
  obtain ⟨P, hP⟩ : ∃ P, P = mkPost w L := ⟨_, rfl⟩
  rw [← hP] at HE ⊢
  have BD : Hid (Below w.heap.size w w.drew) := (Below.refl _ _).drew
  clear hlo hF hm hf hh hp hsrt hlen hn hP
  go_enter Try.func24, Try.ntmps24
  go_wp2_with fail
  refine HU.out.mono ?_
  rintro e w0 ⟨rfl, rfl⟩
  go_wp2_with fail
  go_region_with (first
    | (go_at_call 35; refine (CS.out _ (by first | exact BM.out | exact BD.out)).mono ?_; rintro e ws ⟨A1, c1, rfl, ms, bs⟩; have MS := Lib.hid ms; have BS0 := Lib.hid bs; have BS : Hid (Below w0.heap.size w0 ws) := (by first | exact BM.out.trans (bs.mono BM.out.size) | exact BD.out.trans bs); have y1 := (BS.out.cell (p := ⟨g, 1, none⟩) lg).trans x1; clear ms bs)
    | (go_at_call 41; refine (CM.out _ (by first | exact BS.out | exact BD.out)).mono ?_; rintro e wm ⟨rfl, om, bm, zm⟩; have OM := Lib.hid om; have BM0 := Lib.hid bm; have BM : Hid (Below w0.heap.size w0 wm) := (by first | exact BS.out.trans (bm.mono BS.out.size) | exact BD.out.trans bm); have y0 := (BM.out.cell (p := ⟨g, 0, none⟩) lg).trans x0; clear om bm))
  all_goals
    go_wp2_with fail
    go_ret
    have e := HE.out wm A1 c1 ws.heap.size (MS.out.below BM0.out (Nat.le_refl _)) OM.out BS.out.size (fun a ha h => by have := (MS.out.base ha).2.1; omega) BM.out
    rw [zm] at e
    exact e
end
/-- The cells of a zero heap. -/
def zeroC : Array Value := #[.slice none 0 0, .map none]
/-- A nil or zero heap. -/
def Idle (w : World) (p : Option Addr) : Prop := p = none ∨ ∃ g, p = some ⟨g, 0, none⟩ ∧ Blk w g zeroC 55
theorem Idle.below {w w' : World} {p : Option Addr} (h : Idle w p) (hb : Below w.heap.size w w') : Idle w' p := by
  rcases h with h | ⟨g, h, h1⟩
  · exact Or.inl h
  · exact Or.inr ⟨g, h, h1.below hb h1.lt⟩
section
variable {w : World} {p : Option Addr}
set_option maxRecDepth 100000 in
theorem usable_idle (h : Idle w p) : Calls Try.prog 40 #[.pointer p] w fun e w' => e = .returned (.bool false) ∧ w' = w := by
  have hnq := neq_map
  rcases h with rfl | ⟨g, rfl, hb⟩
  · go_enter Try.func40, Try.ntmps40
    go_wp2_with fail
    go_ret
    exact ⟨rfl, rfl⟩
  · unfold zeroC at hb
    obtain ⟨x0, x1, _⟩ := hb.two
    have lg := hb.lt
    clear hb
    go_enter Try.func40, Try.ntmps40
    go_wp2_with fail
    go_ret
    exact ⟨rfl, rfl⟩
set_option maxRecDepth 100000 in
theorem look_idle (h : Idle w p) (n : Int) : Calls Try.prog 31 #[.pointer p, .int .i64 n] w fun e w' => e = .returned (.tuple #[.int .i64 0, .bool false, .int .i64 1]) ∧ w' = w := by
  have HU := Lib.hid (usable_idle h)
  clear h
  go_enter Try.func31, Try.ntmps31
  go_wp2_with fail
  refine HU.out.mono ?_
  rintro e w1 ⟨rfl, rfl⟩
  go_wp2_with fail
  go_ret3
  exact ⟨rfl, rfl⟩
set_option maxRecDepth 100000 in
theorem need_idle (h : Idle w p) (n : Int) : Calls Try.prog 38 #[.pointer p, .int .i64 n] w fun e w' => e = .returned (.tuple #[.int .i64 0, .int .i64 1]) ∧ w' = w := by
  have HU := Lib.hid (look_idle h n)
  clear h
  go_enter Try.func38, Try.ntmps38
  go_wp2_with fail
  refine HU.out.mono ?_
  rintro e w1 ⟨rfl, rfl⟩
  go_wp2_with fail
  go_ret2
  exact ⟨rfl, rfl⟩
set_option maxRecDepth 100000 in
theorem put_idle (h : Idle w p) (n a : Int) : Calls Try.prog 13 #[.pointer p, .int .i64 n, .int .u64 a] w (lkPost w (.int .i64 1)) := by
  refine lk_same ?_
  have HU := Lib.hid (look_idle h n)
  clear h
  go_enter Try.func13, Try.ntmps13
  go_wp2_with fail
  refine HU.out.mono ?_
  rintro e w1 ⟨rfl, rfl⟩
  go_wp2_with fail
  go_ret
  exact ⟨rfl, rfl⟩
set_option maxRecDepth 100000 in
theorem move_idle (h : Idle w p) (n a : Int) : Calls Try.prog 21 #[.pointer p, .int .i64 n, .int .u64 a] w (lkPost w (.int .i64 1)) := by
  refine lk_same ?_
  have HU := Lib.hid (need_idle h n)
  clear h
  go_enter Try.func21, Try.ntmps21
  go_wp2_with fail
  refine HU.out.mono ?_
  rintro e w1 ⟨rfl, rfl⟩
  go_wp2_with fail
  go_ret
  exact ⟨rfl, rfl⟩
set_option maxRecDepth 100000 in
theorem remove_idle (h : Idle w p) (n : Int) : Calls Try.prog 25 #[.pointer p, .int .i64 n] w (lkPost w (.tuple #[.int .u64 0, .int .i64 1])) := by
  refine lk_same ?_
  have HU := Lib.hid (need_idle h n)
  clear h
  go_enter Try.func25, Try.ntmps25
  go_wp2_with fail
  refine HU.out.mono ?_
  rintro e w1 ⟨rfl, rfl⟩
  go_wp2_with fail
  go_ret2
  exact ⟨rfl, rfl⟩
set_option maxRecDepth 100000 in
theorem get_idle (h : Idle w p) (n : Int) : Calls Try.prog 39 #[.pointer p, .int .i64 n] w (lkPost w (.tuple #[.int .u64 0, .int .i64 1])) := by
  refine lk_same ?_
  have HU := Lib.hid (need_idle h n)
  clear h
  go_enter Try.func39, Try.ntmps39
  go_wp2_with fail
  refine HU.out.mono ?_
  rintro e w1 ⟨rfl, rfl⟩
  go_wp2_with fail
  go_ret2
  exact ⟨rfl, rfl⟩
set_option maxRecDepth 100000 in
theorem first_idle (h : Idle w p) : Calls Try.prog 33 #[.pointer p] w (lkPost w (.tuple #[tval (0, 0), .int .i64 1])) := by
  obtain ⟨v0, hv0⟩ : ∃ v0, v0 = w.alloc (.cells #[.int .i64 0, .int .u64 0] 41) := ⟨_, rfl⟩
  have b0 : Below w.heap.size w v0 := by rw [hv0]; exact bnew _ _
  have P0 : Hid (Blk v0 w.heap.size #[.int .i64 0, .int .u64 0] 41) := by show Blk _ _ _ _; rw [hv0]; exact Blk.new _ _ _
  have HU := Lib.hid (usable_idle (h.below b0))
  have HB0 := Lib.hid b0
  obtain ⟨p0, p1, pf0, pf1⟩ := P0.out.two
  have lw := P0.out.lt
  unfold lkPost
  clear h b0
  go_enter Try.func33, Try.ntmps33
  go_wp2_with fail
  rw [← hv0]
  clear hv0
  refine HU.out.mono ?_
  rintro e w1 ⟨rfl, rfl⟩
  go_wp2_with fail
  obtain ⟨w6, hw6⟩ : ∃ w6, w6 = (w1.setCell ⟨w.heap.size, 0, none⟩ (.int .i64 0)).setCell ⟨w.heap.size, 1, none⟩ (.int .u64 0) := ⟨_, rfl⟩
  have R6 : Hid (Blk w6 w.heap.size #[.int .i64 0, .int .u64 0] 41) := by
    show Blk _ _ _ _; rw [hw6]; exact (P0.out.set 0 (.int .i64 0)).set 1 (.int .u64 0)
  have B6 : Hid (Below w.heap.size w w6) := by
    show Below _ _ _; rw [hw6]
    exact HB0.out.trans ((((Only.refl (fun j => j = w.heap.size) w1).put (ad := ⟨w.heap.size, 0, none⟩) rfl _).put (ad := ⟨w.heap.size, 1, none⟩) rfl _).below (fun j hj => by rw [hj]; exact Nat.le_refl _) HB0.out.size)
  rw [← hw6]
  clear hw6 p0 p1 pf0 pf1
  obtain ⟨t0, t1, _⟩ := R6.out.two
  exact bodyPost_ret (v := .tuple #[.agg #[.int .i64 0, .int .u64 0], .int .i64 1]) (by simp [results, Try.results33, go_sem, t0, t1]) rfl ⟨rfl, B6.out⟩
set_option maxRecDepth 100000 in
theorem due_idle (h : Idle w p) (now : Int) : Calls Try.prog 26 #[.pointer p, .int .u64 now] w (fun e w' => ∃ A c, e = .returned (.tuple #[.slice A 0 c, .int .i64 1]) ∧ Lt w' A [] c ∧ Below w.heap.size w w') := by
  have HU := Lib.hid (usable_idle h)
  clear h
  go_enter Try.func26, Try.ntmps26
  go_wp2_with fail
  refine HU.out.mono ?_
  rintro e w1 ⟨rfl, rfl⟩
  go_wp2_with fail
  go_ret2
  exact ⟨none, 0, rfl, Lt.nil _, Below.refl _ _⟩
set_option maxRecDepth 100000 in
theorem len_idle (h : Idle w p) : Calls Try.prog 23 #[.pointer p] w (lkPost w (.int .i64 0)) := by
  refine lk_same ?_
  rcases h with rfl | ⟨g, rfl, hb⟩
  · go_enter Try.func23, Try.ntmps23
    go_wp2_with fail
    go_ret
    exact ⟨rfl, rfl⟩
  · unfold zeroC at hb
    obtain ⟨x0, x1, _⟩ := hb.two
    have lg := hb.lt
    clear hb
    go_enter Try.func23, Try.ntmps23
    go_wp2_with fail
    go_ret
    exact ⟨rfl, rfl⟩
set_option maxRecDepth 100000 in
theorem list_idle (h : Idle w p) : Calls Try.prog 19 #[.pointer p] w (fun e w' => ∃ A c, e = .returned (.slice A 0 c) ∧ Below w.heap.size w w') := by
  rcases h with rfl | ⟨g, rfl, hb⟩
  · go_enter Try.func19, Try.ntmps19
    go_wp2_with fail
    go_ret
    exact ⟨none, 0, rfl, Below.refl _ _⟩
  · have HC := Lib.hid (clone_any none 0 0 [] w (Rs.nil w 2) (by omega))
    have HQ : Hid (∀ W A' c', Mine w.heap.size 2 W A' 0 c' (tv []) → Calls Try.prog 36 #[.slice A' 0 c', .func (.func 37) #[] #[]] W fun e w' => e = .returned (.tuple #[]) ∧ Mine w.heap.size 2 w' A' 0 c' (tv (Zq.inOrder [])) ∧ Below w.heap.size W w') := fun W A' c' hM => Zq.sort_all hM rfl (by omega)
    unfold zeroC at hb
    obtain ⟨x0, x1, _⟩ := hb.two
    have lg := hb.lt
    unfold clonePost at HC
    clear hb
    go_enter Try.func19, Try.ntmps19
    go_wp2_with fail
    refine HC.out.mono ?_
    rintro e w1 ⟨A1, c1, rfl, m1, b1⟩
    have HS := Lib.hid (HQ.out w1 A1 c1 m1)
    have HB1 := Lib.hid b1
    clear m1 b1 HC
    go_wp2_with fail
    refine HS.out.mono ?_
    rintro e w2 ⟨rfl, m2, b2⟩
    have HB2 := Lib.hid (HB1.out.trans b2)
    clear m2 b2 HS
    go_wp2_with fail
    go_ret
    exact ⟨A1, c1, rfl, HB2.out⟩
set_option maxRecDepth 100000 in
theorem copy_idle (h : Idle w p) : Calls Try.prog 24 #[.pointer p] w (lkPost w (.pointer none)) := by
  refine lk_same ?_
  have HU := Lib.hid (usable_idle h)
  clear h
  go_enter Try.func24, Try.ntmps24
  go_wp2_with fail
  refine HU.out.mono ?_
  rintro e w1 ⟨rfl, rfl⟩
  go_wp2_with fail
  go_ret
  exact ⟨rfl, rfl⟩
end
end Go.Proofs.Ytpalbccoiejmoaa.Ye
