/- Proves what package request's Valid returns: whether a command is valid. Conditions: the table is laid; a command of bounded parts. -/
import Derived.Test.YthlfahblnpijaaaDoorQv
namespace Go.Proofs.YthlfahblnpijaaaDoor.Qw
open Go.RowKit Go.BigFrame Vm Ap Vw Va Gc Mi Mb Qm Qs Qe Qv

theorem quietL {P : Program} {f : FuncId} {args : Array Value} {w : World} {n : Nat} {v : Value}
    (h : Calls P f args (w.drewN n) fun e w' => e = .returned v ∧ w.drewN n = w') : Calls P f args (w.drewN n) fun e w' => e = .returned v ∧ ∃ m, w' = w.drewN m :=
  h.mono fun _ _ hh => ⟨hh.1, n, hh.2.symm⟩
set_option maxRecDepth 100000 in
set_option maxHeartbeats 4000000 in
theorem valid_any (x : Com) (w : World) (he : Env w) (hr : Rc w x) (hb : Bnd x.c) :
    Calls Tryd.prog 26 #[comV x] w (boolOf (validG x.c) w) := by
  unfold comV
  obtain ⟨w0, hw0⟩ : ∃ w0, w0 = w.alloc (comO x) := ⟨_, rfl⟩
  have B0 : Below w.heap.size w w0 := by rw [hw0]; exact alloc_below _ _
  have HB := Lib.hid B0
  have bx : Box w0 w.heap.size x := by rw [hw0]; exact Box.new _ _
  have he0 := he.below B0 (Nat.le_refl _)
  have hr0 := hr.below B0 (Nat.le_refl _)
  obtain ⟨c0, c1, c2, c3, c4, c5, c6, c7, c8, c9, _⟩ := bx
  unfold comO at hw0
  clear B0 he hr
  have HK := Lib.hid (fun W => known_op x.c.op W)
  by_cases h : inOp x.c.op = true
  · obtain ⟨k, hk, eop, ek⟩ := in_cases h
    have HH := Lib.hid h
    have hmk := he0.mask k hk
    have HV : Hid (validG x.c = (true && (allowS (hasP k 0) x.c.key (validK x.c.key) && (allowS (hasP k 1) x.c.child (validK x.c.child) && (allowS (hasP k 7) x.c.tag (validT x.c.tag) && (allowS (hasP k 8) x.c.pre (validP x.c.pre) &&
      (allowL (hasP k 2) x.c.keys 1 16 validK && (allowL (hasP k 4) x.c.tags 0 16 validT && ((decide (x.c.value.length = 0) || (hasP k 3 && decide (x.c.value.length ≤ 65536))) && ((decide (x.c.life ≠ 0) == hasP k 5) && (decide (x.c.version = 0) || hasP k 6))))))))))) := by
      show _ = _; unfold validG; rw [h, ek]
    have A0 := Lib.hid (fun n => allowedK_any (hasP k 0) x.c.key (w0.drewN n) hb.key)
    have A1 := Lib.hid (fun n => allowedK_any (hasP k 1) x.c.child (w0.drewN n) hb.child)
    have A7 := Lib.hid (fun n => allowedT_any (hasP k 7) x.c.tag (w0.drewN n) hb.tag)
    have A8 := Lib.hid (fun n => allowedP_any (hasP k 8) x.c.pre (w0.drewN n) hb.pre)
    have A2 := Lib.hid (fun n => allowedListK_any (hasP k 2) x.KA x.c.keys x.kc 1 16 (w0.drewN n) (hr0.rk.drewN n) (by omega) hb.eachK)
    have A4 := Lib.hid (fun n => allowedListT_any (hasP k 4) x.TA x.c.tags x.tc 0 16 (w0.drewN n) (hr0.rt.drewN n) (by omega) hb.eachT)
    generalize allowS (hasP k 0) x.c.key (validK x.c.key) = b0 at *
    generalize allowS (hasP k 1) x.c.child (validK x.c.child) = b1 at *
    generalize allowS (hasP k 7) x.c.tag (validT x.c.tag) = b7 at *
    generalize allowS (hasP k 8) x.c.pre (validP x.c.pre) = b8 at *
    generalize allowL (hasP k 2) x.c.keys 1 16 validK = b2 at *
    generalize allowL (hasP k 4) x.c.tags 0 16 validT = b4 at *
    have H0 := Lib.hid (fun W => has_any k 0 1 W hk (by omega) rfl)
    have H1 := Lib.hid (fun W => has_any k 1 2 W hk (by omega) rfl)
    have H2 := Lib.hid (fun W => has_any k 2 4 W hk (by omega) rfl)
    have H3 := Lib.hid (fun W => has_any k 3 8 W hk (by omega) rfl)
    have H4 := Lib.hid (fun W => has_any k 4 16 W hk (by omega) rfl)
    have H5 := Lib.hid (fun W => has_any k 5 32 W hk (by omega) rfl)
    have H6 := Lib.hid (fun W => has_any k 6 64 W hk (by omega) rfl)
    have H7 := Lib.hid (fun W => has_any k 7 128 W hk (by omega) rfl)
    have H8 := Lib.hid (fun W => has_any k 8 256 W hk (by omega) rfl)
    generalize hasP k 0 = h0 at *
    generalize hasP k 1 = h1 at *
    generalize hasP k 2 = h2 at *
    generalize hasP k 3 = h3 at *
    generalize hasP k 4 = h4 at *
    generalize hasP k 5 = h5 at *
    generalize hasP k 6 = h6 at *
    generalize hasP k 7 = h7 at *
    generalize hasP k 8 = h8 at *
    rw [eop] at c0 HK HH ⊢
    have hvl := hb.value
    obtain ⟨m, hm⟩ : ∃ m, m = maskN k := ⟨_, rfl⟩
    rw [← hm] at hmk H0 H1 H2 H3 H4 H5 H6 H7 H8
    clear hm h ek he0 hr0 hb
    go_enter Tryd.func26, Tryd.ntmps26
    go_wp2_with fail
    rw [← eop, ← hw0]
    rw [eop]
    clear hw0
    refine (HK.out _).mono ?_
    rintro e w' ⟨rfl, rfl⟩
    rw [HH.out]
    go_wp2_with fail
    simp only [List.append_eq, List.cons_append, List.nil_append]
    refine wp_region_quiet_lit (by kernel_rfl) (by kernel_rfl) ?_
    repeat (go_big_quiet_step (first | (go_at_call 36; first | with_reducible exact quietL (H0.out _) | with_reducible exact quietL (H1.out _) | with_reducible exact quietL (H2.out _) | with_reducible exact quietL (H3.out _) | with_reducible exact quietL (H4.out _) | with_reducible exact quietL (H5.out _) | with_reducible exact quietL (H6.out _) | with_reducible exact quietL (H7.out _) | with_reducible exact quietL (H8.out _)) | (go_at_call 41; first | with_reducible exact quietL (A0.out _) | with_reducible exact quietL (A1.out _) | with_reducible exact quietL (A7.out _) | with_reducible exact quietL (A8.out _)) | (go_at_call 45; first | with_reducible exact quietL (A2.out _) | with_reducible exact quietL (A4.out _))))
    cases b0
    · skip
      repeat (go_big_quiet_step (first | (go_at_call 36; first | with_reducible exact quietL (H0.out _) | with_reducible exact quietL (H1.out _) | with_reducible exact quietL (H2.out _) | with_reducible exact quietL (H3.out _) | with_reducible exact quietL (H4.out _) | with_reducible exact quietL (H5.out _) | with_reducible exact quietL (H6.out _) | with_reducible exact quietL (H7.out _) | with_reducible exact quietL (H8.out _)) | (go_at_call 41; first | with_reducible exact quietL (A0.out _) | with_reducible exact quietL (A1.out _) | with_reducible exact quietL (A7.out _) | with_reducible exact quietL (A8.out _)) | (go_at_call 45; first | with_reducible exact quietL (A2.out _) | with_reducible exact quietL (A4.out _))))
      refine wpQuiet_nil ?_
      intro _ hw'
      obtain ⟨nq, hw''⟩ := hw'
      subst hw''
      go_wp2_with fail
      go_ret
      exact ⟨ret_b (by rw [HV.out]; rfl), below_drewN HB.out _⟩
    repeat (go_big_quiet_step (first | (go_at_call 36; first | with_reducible exact quietL (H0.out _) | with_reducible exact quietL (H1.out _) | with_reducible exact quietL (H2.out _) | with_reducible exact quietL (H3.out _) | with_reducible exact quietL (H4.out _) | with_reducible exact quietL (H5.out _) | with_reducible exact quietL (H6.out _) | with_reducible exact quietL (H7.out _) | with_reducible exact quietL (H8.out _)) | (go_at_call 41; first | with_reducible exact quietL (A0.out _) | with_reducible exact quietL (A1.out _) | with_reducible exact quietL (A7.out _) | with_reducible exact quietL (A8.out _)) | (go_at_call 45; first | with_reducible exact quietL (A2.out _) | with_reducible exact quietL (A4.out _))))
    cases b1
    · skip
      repeat (go_big_quiet_step (first | (go_at_call 36; first | with_reducible exact quietL (H0.out _) | with_reducible exact quietL (H1.out _) | with_reducible exact quietL (H2.out _) | with_reducible exact quietL (H3.out _) | with_reducible exact quietL (H4.out _) | with_reducible exact quietL (H5.out _) | with_reducible exact quietL (H6.out _) | with_reducible exact quietL (H7.out _) | with_reducible exact quietL (H8.out _)) | (go_at_call 41; first | with_reducible exact quietL (A0.out _) | with_reducible exact quietL (A1.out _) | with_reducible exact quietL (A7.out _) | with_reducible exact quietL (A8.out _)) | (go_at_call 45; first | with_reducible exact quietL (A2.out _) | with_reducible exact quietL (A4.out _))))
      refine wpQuiet_nil ?_
      intro _ hw'
      obtain ⟨nq, hw''⟩ := hw'
      subst hw''
      go_wp2_with fail
      go_ret
      exact ⟨ret_b (by rw [HV.out]; rfl), below_drewN HB.out _⟩
    repeat (go_big_quiet_step (first | (go_at_call 36; first | with_reducible exact quietL (H0.out _) | with_reducible exact quietL (H1.out _) | with_reducible exact quietL (H2.out _) | with_reducible exact quietL (H3.out _) | with_reducible exact quietL (H4.out _) | with_reducible exact quietL (H5.out _) | with_reducible exact quietL (H6.out _) | with_reducible exact quietL (H7.out _) | with_reducible exact quietL (H8.out _)) | (go_at_call 41; first | with_reducible exact quietL (A0.out _) | with_reducible exact quietL (A1.out _) | with_reducible exact quietL (A7.out _) | with_reducible exact quietL (A8.out _)) | (go_at_call 45; first | with_reducible exact quietL (A2.out _) | with_reducible exact quietL (A4.out _))))
    cases b7
    · skip
      repeat (go_big_quiet_step (first | (go_at_call 36; first | with_reducible exact quietL (H0.out _) | with_reducible exact quietL (H1.out _) | with_reducible exact quietL (H2.out _) | with_reducible exact quietL (H3.out _) | with_reducible exact quietL (H4.out _) | with_reducible exact quietL (H5.out _) | with_reducible exact quietL (H6.out _) | with_reducible exact quietL (H7.out _) | with_reducible exact quietL (H8.out _)) | (go_at_call 41; first | with_reducible exact quietL (A0.out _) | with_reducible exact quietL (A1.out _) | with_reducible exact quietL (A7.out _) | with_reducible exact quietL (A8.out _)) | (go_at_call 45; first | with_reducible exact quietL (A2.out _) | with_reducible exact quietL (A4.out _))))
      refine wpQuiet_nil ?_
      intro _ hw'
      obtain ⟨nq, hw''⟩ := hw'
      subst hw''
      go_wp2_with fail
      go_ret
      exact ⟨ret_b (by rw [HV.out]; rfl), below_drewN HB.out _⟩
    repeat (go_big_quiet_step (first | (go_at_call 36; first | with_reducible exact quietL (H0.out _) | with_reducible exact quietL (H1.out _) | with_reducible exact quietL (H2.out _) | with_reducible exact quietL (H3.out _) | with_reducible exact quietL (H4.out _) | with_reducible exact quietL (H5.out _) | with_reducible exact quietL (H6.out _) | with_reducible exact quietL (H7.out _) | with_reducible exact quietL (H8.out _)) | (go_at_call 41; first | with_reducible exact quietL (A0.out _) | with_reducible exact quietL (A1.out _) | with_reducible exact quietL (A7.out _) | with_reducible exact quietL (A8.out _)) | (go_at_call 45; first | with_reducible exact quietL (A2.out _) | with_reducible exact quietL (A4.out _))))
    cases b8
    · skip
      repeat (go_big_quiet_step (first | (go_at_call 36; first | with_reducible exact quietL (H0.out _) | with_reducible exact quietL (H1.out _) | with_reducible exact quietL (H2.out _) | with_reducible exact quietL (H3.out _) | with_reducible exact quietL (H4.out _) | with_reducible exact quietL (H5.out _) | with_reducible exact quietL (H6.out _) | with_reducible exact quietL (H7.out _) | with_reducible exact quietL (H8.out _)) | (go_at_call 41; first | with_reducible exact quietL (A0.out _) | with_reducible exact quietL (A1.out _) | with_reducible exact quietL (A7.out _) | with_reducible exact quietL (A8.out _)) | (go_at_call 45; first | with_reducible exact quietL (A2.out _) | with_reducible exact quietL (A4.out _))))
      refine wpQuiet_nil ?_
      intro _ hw'
      obtain ⟨nq, hw''⟩ := hw'
      subst hw''
      go_wp2_with fail
      go_ret
      exact ⟨ret_b (by rw [HV.out]; rfl), below_drewN HB.out _⟩
    repeat (go_big_quiet_step (first | (go_at_call 36; first | with_reducible exact quietL (H0.out _) | with_reducible exact quietL (H1.out _) | with_reducible exact quietL (H2.out _) | with_reducible exact quietL (H3.out _) | with_reducible exact quietL (H4.out _) | with_reducible exact quietL (H5.out _) | with_reducible exact quietL (H6.out _) | with_reducible exact quietL (H7.out _) | with_reducible exact quietL (H8.out _)) | (go_at_call 41; first | with_reducible exact quietL (A0.out _) | with_reducible exact quietL (A1.out _) | with_reducible exact quietL (A7.out _) | with_reducible exact quietL (A8.out _)) | (go_at_call 45; first | with_reducible exact quietL (A2.out _) | with_reducible exact quietL (A4.out _))))
    cases b2
    · skip
      repeat (go_big_quiet_step (first | (go_at_call 36; first | with_reducible exact quietL (H0.out _) | with_reducible exact quietL (H1.out _) | with_reducible exact quietL (H2.out _) | with_reducible exact quietL (H3.out _) | with_reducible exact quietL (H4.out _) | with_reducible exact quietL (H5.out _) | with_reducible exact quietL (H6.out _) | with_reducible exact quietL (H7.out _) | with_reducible exact quietL (H8.out _)) | (go_at_call 41; first | with_reducible exact quietL (A0.out _) | with_reducible exact quietL (A1.out _) | with_reducible exact quietL (A7.out _) | with_reducible exact quietL (A8.out _)) | (go_at_call 45; first | with_reducible exact quietL (A2.out _) | with_reducible exact quietL (A4.out _))))
      refine wpQuiet_nil ?_
      intro _ hw'
      obtain ⟨nq, hw''⟩ := hw'
      subst hw''
      go_wp2_with fail
      go_ret
      exact ⟨ret_b (by rw [HV.out]; rfl), below_drewN HB.out _⟩
    repeat (go_big_quiet_step (first | (go_at_call 36; first | with_reducible exact quietL (H0.out _) | with_reducible exact quietL (H1.out _) | with_reducible exact quietL (H2.out _) | with_reducible exact quietL (H3.out _) | with_reducible exact quietL (H4.out _) | with_reducible exact quietL (H5.out _) | with_reducible exact quietL (H6.out _) | with_reducible exact quietL (H7.out _) | with_reducible exact quietL (H8.out _)) | (go_at_call 41; first | with_reducible exact quietL (A0.out _) | with_reducible exact quietL (A1.out _) | with_reducible exact quietL (A7.out _) | with_reducible exact quietL (A8.out _)) | (go_at_call 45; first | with_reducible exact quietL (A2.out _) | with_reducible exact quietL (A4.out _))))
    cases b4
    · skip
      repeat (go_big_quiet_step (first | (go_at_call 36; first | with_reducible exact quietL (H0.out _) | with_reducible exact quietL (H1.out _) | with_reducible exact quietL (H2.out _) | with_reducible exact quietL (H3.out _) | with_reducible exact quietL (H4.out _) | with_reducible exact quietL (H5.out _) | with_reducible exact quietL (H6.out _) | with_reducible exact quietL (H7.out _) | with_reducible exact quietL (H8.out _)) | (go_at_call 41; first | with_reducible exact quietL (A0.out _) | with_reducible exact quietL (A1.out _) | with_reducible exact quietL (A7.out _) | with_reducible exact quietL (A8.out _)) | (go_at_call 45; first | with_reducible exact quietL (A2.out _) | with_reducible exact quietL (A4.out _))))
      refine wpQuiet_nil ?_
      intro _ hw'
      obtain ⟨nq, hw''⟩ := hw'
      subst hw''
      go_wp2_with fail
      go_ret
      exact ⟨ret_b (by rw [HV.out]; rfl), below_drewN HB.out _⟩
    by_cases z0 : x.c.value.length = 0
    · have r0 : ((x.c.value.length : Int) == 0) = true := by rw [beq_iff_eq]; omega
      have Z0 := Lib.hid z0; clear z0
      by_cases l0 : x.c.life = 0
      · have p0 : ((x.c.life : Int) != 0) = false := by rw [bne_eq_false_iff_eq]; omega
        have L0 := Lib.hid l0; clear l0
        cases h5
        · skip
          by_cases v0 : x.c.version = 0
          · have q0 : ((x.c.version : Int) == 0) = true := by rw [beq_iff_eq]; omega
            have V0 := Lib.hid v0; clear v0
            repeat (go_big_quiet_step (first | (go_at_call 36; first | with_reducible exact quietL (H0.out _) | with_reducible exact quietL (H1.out _) | with_reducible exact quietL (H2.out _) | with_reducible exact quietL (H3.out _) | with_reducible exact quietL (H4.out _) | with_reducible exact quietL (H5.out _) | with_reducible exact quietL (H6.out _) | with_reducible exact quietL (H7.out _) | with_reducible exact quietL (H8.out _)) | (go_at_call 41; first | with_reducible exact quietL (A0.out _) | with_reducible exact quietL (A1.out _) | with_reducible exact quietL (A7.out _) | with_reducible exact quietL (A8.out _)) | (go_at_call 45; first | with_reducible exact quietL (A2.out _) | with_reducible exact quietL (A4.out _))))
            refine wpQuiet_nil ?_
            intro _ hw'
            obtain ⟨nq, hw''⟩ := hw'
            subst hw''
            go_wp2_with fail
            go_ret
            exact ⟨ret_b (by rw [HV.out]; simp [Z0.out, L0.out, V0.out]), below_drewN HB.out _⟩
          · have q0 : ((x.c.version : Int) == 0) = false := by rw [beq_eq_false_iff_ne]; omega
            have V0 := Lib.hid v0; clear v0
            repeat (go_big_quiet_step (first | (go_at_call 36; first | with_reducible exact quietL (H0.out _) | with_reducible exact quietL (H1.out _) | with_reducible exact quietL (H2.out _) | with_reducible exact quietL (H3.out _) | with_reducible exact quietL (H4.out _) | with_reducible exact quietL (H5.out _) | with_reducible exact quietL (H6.out _) | with_reducible exact quietL (H7.out _) | with_reducible exact quietL (H8.out _)) | (go_at_call 41; first | with_reducible exact quietL (A0.out _) | with_reducible exact quietL (A1.out _) | with_reducible exact quietL (A7.out _) | with_reducible exact quietL (A8.out _)) | (go_at_call 45; first | with_reducible exact quietL (A2.out _) | with_reducible exact quietL (A4.out _))))
            refine wpQuiet_nil ?_
            intro _ hw'
            obtain ⟨nq, hw''⟩ := hw'
            subst hw''
            go_wp2_with fail
            go_ret
            exact ⟨ret_b (by rw [HV.out]; simp [Z0.out, L0.out, V0.out]), below_drewN HB.out _⟩
        · skip
          repeat (go_big_quiet_step (first | (go_at_call 36; first | with_reducible exact quietL (H0.out _) | with_reducible exact quietL (H1.out _) | with_reducible exact quietL (H2.out _) | with_reducible exact quietL (H3.out _) | with_reducible exact quietL (H4.out _) | with_reducible exact quietL (H5.out _) | with_reducible exact quietL (H6.out _) | with_reducible exact quietL (H7.out _) | with_reducible exact quietL (H8.out _)) | (go_at_call 41; first | with_reducible exact quietL (A0.out _) | with_reducible exact quietL (A1.out _) | with_reducible exact quietL (A7.out _) | with_reducible exact quietL (A8.out _)) | (go_at_call 45; first | with_reducible exact quietL (A2.out _) | with_reducible exact quietL (A4.out _))))
          refine wpQuiet_nil ?_
          intro _ hw'
          obtain ⟨nq, hw''⟩ := hw'
          subst hw''
          go_wp2_with fail
          go_ret
          exact ⟨ret_b (by rw [HV.out]; simp [Z0.out, L0.out]), below_drewN HB.out _⟩
      · have p0 : ((x.c.life : Int) != 0) = true := by rw [bne_iff_ne]; omega
        have L0 := Lib.hid l0; clear l0
        cases h5
        · skip
          repeat (go_big_quiet_step (first | (go_at_call 36; first | with_reducible exact quietL (H0.out _) | with_reducible exact quietL (H1.out _) | with_reducible exact quietL (H2.out _) | with_reducible exact quietL (H3.out _) | with_reducible exact quietL (H4.out _) | with_reducible exact quietL (H5.out _) | with_reducible exact quietL (H6.out _) | with_reducible exact quietL (H7.out _) | with_reducible exact quietL (H8.out _)) | (go_at_call 41; first | with_reducible exact quietL (A0.out _) | with_reducible exact quietL (A1.out _) | with_reducible exact quietL (A7.out _) | with_reducible exact quietL (A8.out _)) | (go_at_call 45; first | with_reducible exact quietL (A2.out _) | with_reducible exact quietL (A4.out _))))
          refine wpQuiet_nil ?_
          intro _ hw'
          obtain ⟨nq, hw''⟩ := hw'
          subst hw''
          go_wp2_with fail
          go_ret
          exact ⟨ret_b (by rw [HV.out]; simp [Z0.out, L0.out]), below_drewN HB.out _⟩
        · skip
          by_cases v0 : x.c.version = 0
          · have q0 : ((x.c.version : Int) == 0) = true := by rw [beq_iff_eq]; omega
            have V0 := Lib.hid v0; clear v0
            repeat (go_big_quiet_step (first | (go_at_call 36; first | with_reducible exact quietL (H0.out _) | with_reducible exact quietL (H1.out _) | with_reducible exact quietL (H2.out _) | with_reducible exact quietL (H3.out _) | with_reducible exact quietL (H4.out _) | with_reducible exact quietL (H5.out _) | with_reducible exact quietL (H6.out _) | with_reducible exact quietL (H7.out _) | with_reducible exact quietL (H8.out _)) | (go_at_call 41; first | with_reducible exact quietL (A0.out _) | with_reducible exact quietL (A1.out _) | with_reducible exact quietL (A7.out _) | with_reducible exact quietL (A8.out _)) | (go_at_call 45; first | with_reducible exact quietL (A2.out _) | with_reducible exact quietL (A4.out _))))
            refine wpQuiet_nil ?_
            intro _ hw'
            obtain ⟨nq, hw''⟩ := hw'
            subst hw''
            go_wp2_with fail
            go_ret
            exact ⟨ret_b (by rw [HV.out]; simp [Z0.out, L0.out, V0.out]), below_drewN HB.out _⟩
          · have q0 : ((x.c.version : Int) == 0) = false := by rw [beq_eq_false_iff_ne]; omega
            have V0 := Lib.hid v0; clear v0
            repeat (go_big_quiet_step (first | (go_at_call 36; first | with_reducible exact quietL (H0.out _) | with_reducible exact quietL (H1.out _) | with_reducible exact quietL (H2.out _) | with_reducible exact quietL (H3.out _) | with_reducible exact quietL (H4.out _) | with_reducible exact quietL (H5.out _) | with_reducible exact quietL (H6.out _) | with_reducible exact quietL (H7.out _) | with_reducible exact quietL (H8.out _)) | (go_at_call 41; first | with_reducible exact quietL (A0.out _) | with_reducible exact quietL (A1.out _) | with_reducible exact quietL (A7.out _) | with_reducible exact quietL (A8.out _)) | (go_at_call 45; first | with_reducible exact quietL (A2.out _) | with_reducible exact quietL (A4.out _))))
            refine wpQuiet_nil ?_
            intro _ hw'
            obtain ⟨nq, hw''⟩ := hw'
            subst hw''
            go_wp2_with fail
            go_ret
            exact ⟨ret_b (by rw [HV.out]; simp [Z0.out, L0.out, V0.out]), below_drewN HB.out _⟩
    · have r0 : ((x.c.value.length : Int) == 0) = false := by rw [beq_eq_false_iff_ne]; omega
      have Z0 := Lib.hid z0; clear z0
      cases h3
      · skip
        repeat (go_big_quiet_step (first | (go_at_call 36; first | with_reducible exact quietL (H0.out _) | with_reducible exact quietL (H1.out _) | with_reducible exact quietL (H2.out _) | with_reducible exact quietL (H3.out _) | with_reducible exact quietL (H4.out _) | with_reducible exact quietL (H5.out _) | with_reducible exact quietL (H6.out _) | with_reducible exact quietL (H7.out _) | with_reducible exact quietL (H8.out _)) | (go_at_call 41; first | with_reducible exact quietL (A0.out _) | with_reducible exact quietL (A1.out _) | with_reducible exact quietL (A7.out _) | with_reducible exact quietL (A8.out _)) | (go_at_call 45; first | with_reducible exact quietL (A2.out _) | with_reducible exact quietL (A4.out _))))
        refine wpQuiet_nil ?_
        intro _ hw'
        obtain ⟨nq, hw''⟩ := hw'
        subst hw''
        go_wp2_with fail
        go_ret
        exact ⟨ret_b (by rw [HV.out]; simp [Z0.out]), below_drewN HB.out _⟩
      · by_cases z1 : x.c.value.length ≤ 65536
        · have r1 : decide ((x.c.value.length : Int) ≤ 65536) = true := by simp; omega
          have Z1 := Lib.hid z1; clear z1
          by_cases l0 : x.c.life = 0
          · have p0 : ((x.c.life : Int) != 0) = false := by rw [bne_eq_false_iff_eq]; omega
            have L0 := Lib.hid l0; clear l0
            cases h5
            · skip
              by_cases v0 : x.c.version = 0
              · have q0 : ((x.c.version : Int) == 0) = true := by rw [beq_iff_eq]; omega
                have V0 := Lib.hid v0; clear v0
                repeat (go_big_quiet_step (first | (go_at_call 36; first | with_reducible exact quietL (H0.out _) | with_reducible exact quietL (H1.out _) | with_reducible exact quietL (H2.out _) | with_reducible exact quietL (H3.out _) | with_reducible exact quietL (H4.out _) | with_reducible exact quietL (H5.out _) | with_reducible exact quietL (H6.out _) | with_reducible exact quietL (H7.out _) | with_reducible exact quietL (H8.out _)) | (go_at_call 41; first | with_reducible exact quietL (A0.out _) | with_reducible exact quietL (A1.out _) | with_reducible exact quietL (A7.out _) | with_reducible exact quietL (A8.out _)) | (go_at_call 45; first | with_reducible exact quietL (A2.out _) | with_reducible exact quietL (A4.out _))))
                refine wpQuiet_nil ?_
                intro _ hw'
                obtain ⟨nq, hw''⟩ := hw'
                subst hw''
                go_wp2_with fail
                go_ret
                exact ⟨ret_b (by rw [HV.out]; simp [Z0.out, Z1.out, L0.out, V0.out]), below_drewN HB.out _⟩
              · have q0 : ((x.c.version : Int) == 0) = false := by rw [beq_eq_false_iff_ne]; omega
                have V0 := Lib.hid v0; clear v0
                repeat (go_big_quiet_step (first | (go_at_call 36; first | with_reducible exact quietL (H0.out _) | with_reducible exact quietL (H1.out _) | with_reducible exact quietL (H2.out _) | with_reducible exact quietL (H3.out _) | with_reducible exact quietL (H4.out _) | with_reducible exact quietL (H5.out _) | with_reducible exact quietL (H6.out _) | with_reducible exact quietL (H7.out _) | with_reducible exact quietL (H8.out _)) | (go_at_call 41; first | with_reducible exact quietL (A0.out _) | with_reducible exact quietL (A1.out _) | with_reducible exact quietL (A7.out _) | with_reducible exact quietL (A8.out _)) | (go_at_call 45; first | with_reducible exact quietL (A2.out _) | with_reducible exact quietL (A4.out _))))
                refine wpQuiet_nil ?_
                intro _ hw'
                obtain ⟨nq, hw''⟩ := hw'
                subst hw''
                go_wp2_with fail
                go_ret
                exact ⟨ret_b (by rw [HV.out]; simp [Z0.out, Z1.out, L0.out, V0.out]), below_drewN HB.out _⟩
            · skip
              repeat (go_big_quiet_step (first | (go_at_call 36; first | with_reducible exact quietL (H0.out _) | with_reducible exact quietL (H1.out _) | with_reducible exact quietL (H2.out _) | with_reducible exact quietL (H3.out _) | with_reducible exact quietL (H4.out _) | with_reducible exact quietL (H5.out _) | with_reducible exact quietL (H6.out _) | with_reducible exact quietL (H7.out _) | with_reducible exact quietL (H8.out _)) | (go_at_call 41; first | with_reducible exact quietL (A0.out _) | with_reducible exact quietL (A1.out _) | with_reducible exact quietL (A7.out _) | with_reducible exact quietL (A8.out _)) | (go_at_call 45; first | with_reducible exact quietL (A2.out _) | with_reducible exact quietL (A4.out _))))
              refine wpQuiet_nil ?_
              intro _ hw'
              obtain ⟨nq, hw''⟩ := hw'
              subst hw''
              go_wp2_with fail
              go_ret
              exact ⟨ret_b (by rw [HV.out]; simp [Z0.out, Z1.out, L0.out]), below_drewN HB.out _⟩
          · have p0 : ((x.c.life : Int) != 0) = true := by rw [bne_iff_ne]; omega
            have L0 := Lib.hid l0; clear l0
            cases h5
            · skip
              repeat (go_big_quiet_step (first | (go_at_call 36; first | with_reducible exact quietL (H0.out _) | with_reducible exact quietL (H1.out _) | with_reducible exact quietL (H2.out _) | with_reducible exact quietL (H3.out _) | with_reducible exact quietL (H4.out _) | with_reducible exact quietL (H5.out _) | with_reducible exact quietL (H6.out _) | with_reducible exact quietL (H7.out _) | with_reducible exact quietL (H8.out _)) | (go_at_call 41; first | with_reducible exact quietL (A0.out _) | with_reducible exact quietL (A1.out _) | with_reducible exact quietL (A7.out _) | with_reducible exact quietL (A8.out _)) | (go_at_call 45; first | with_reducible exact quietL (A2.out _) | with_reducible exact quietL (A4.out _))))
              refine wpQuiet_nil ?_
              intro _ hw'
              obtain ⟨nq, hw''⟩ := hw'
              subst hw''
              go_wp2_with fail
              go_ret
              exact ⟨ret_b (by rw [HV.out]; simp [Z0.out, Z1.out, L0.out]), below_drewN HB.out _⟩
            · skip
              by_cases v0 : x.c.version = 0
              · have q0 : ((x.c.version : Int) == 0) = true := by rw [beq_iff_eq]; omega
                have V0 := Lib.hid v0; clear v0
                repeat (go_big_quiet_step (first | (go_at_call 36; first | with_reducible exact quietL (H0.out _) | with_reducible exact quietL (H1.out _) | with_reducible exact quietL (H2.out _) | with_reducible exact quietL (H3.out _) | with_reducible exact quietL (H4.out _) | with_reducible exact quietL (H5.out _) | with_reducible exact quietL (H6.out _) | with_reducible exact quietL (H7.out _) | with_reducible exact quietL (H8.out _)) | (go_at_call 41; first | with_reducible exact quietL (A0.out _) | with_reducible exact quietL (A1.out _) | with_reducible exact quietL (A7.out _) | with_reducible exact quietL (A8.out _)) | (go_at_call 45; first | with_reducible exact quietL (A2.out _) | with_reducible exact quietL (A4.out _))))
                refine wpQuiet_nil ?_
                intro _ hw'
                obtain ⟨nq, hw''⟩ := hw'
                subst hw''
                go_wp2_with fail
                go_ret
                exact ⟨ret_b (by rw [HV.out]; simp [Z0.out, Z1.out, L0.out, V0.out]), below_drewN HB.out _⟩
              · have q0 : ((x.c.version : Int) == 0) = false := by rw [beq_eq_false_iff_ne]; omega
                have V0 := Lib.hid v0; clear v0
                repeat (go_big_quiet_step (first | (go_at_call 36; first | with_reducible exact quietL (H0.out _) | with_reducible exact quietL (H1.out _) | with_reducible exact quietL (H2.out _) | with_reducible exact quietL (H3.out _) | with_reducible exact quietL (H4.out _) | with_reducible exact quietL (H5.out _) | with_reducible exact quietL (H6.out _) | with_reducible exact quietL (H7.out _) | with_reducible exact quietL (H8.out _)) | (go_at_call 41; first | with_reducible exact quietL (A0.out _) | with_reducible exact quietL (A1.out _) | with_reducible exact quietL (A7.out _) | with_reducible exact quietL (A8.out _)) | (go_at_call 45; first | with_reducible exact quietL (A2.out _) | with_reducible exact quietL (A4.out _))))
                refine wpQuiet_nil ?_
                intro _ hw'
                obtain ⟨nq, hw''⟩ := hw'
                subst hw''
                go_wp2_with fail
                go_ret
                exact ⟨ret_b (by rw [HV.out]; simp [Z0.out, Z1.out, L0.out, V0.out]), below_drewN HB.out _⟩
        · have r1 : decide ((x.c.value.length : Int) ≤ 65536) = false := by simp; omega
          have Z1 := Lib.hid z1; clear z1
          repeat (go_big_quiet_step (first | (go_at_call 36; first | with_reducible exact quietL (H0.out _) | with_reducible exact quietL (H1.out _) | with_reducible exact quietL (H2.out _) | with_reducible exact quietL (H3.out _) | with_reducible exact quietL (H4.out _) | with_reducible exact quietL (H5.out _) | with_reducible exact quietL (H6.out _) | with_reducible exact quietL (H7.out _) | with_reducible exact quietL (H8.out _)) | (go_at_call 41; first | with_reducible exact quietL (A0.out _) | with_reducible exact quietL (A1.out _) | with_reducible exact quietL (A7.out _) | with_reducible exact quietL (A8.out _)) | (go_at_call 45; first | with_reducible exact quietL (A2.out _) | with_reducible exact quietL (A4.out _))))
          refine wpQuiet_nil ?_
          intro _ hw'
          obtain ⟨nq, hw''⟩ := hw'
          subst hw''
          go_wp2_with fail
          go_ret
          exact ⟨ret_b (by rw [HV.out]; simp [Z0.out, Z1.out]), below_drewN HB.out _⟩
  · have HH : Hid (inOp x.c.op = false) := by show _ = _; simpa using h
    have HV : Hid (validG x.c = false) := by show _ = _; unfold validG; rw [HH.out]; rfl
    clear h he0 hr0 hb
    go_enter Tryd.func26, Tryd.ntmps26
    go_wp2_with fail
    rw [← hw0]
    clear hw0
    refine (HK.out _).mono ?_
    rintro e w' ⟨rfl, rfl⟩
    rw [HH.out]
    go_wp2_with fail
    go_ret
    exact ⟨ret_b HV.out.symm, HB.out⟩
end Go.Proofs.YthlfahblnpijaaaDoor.Qw
