/- Proves that the law RequestHolds returns true. Conditions: the table is laid; an argument's parts below the form's own bound. -/
import Derived.Test.YtefadkdngcbpiaaDoorQl
import Derived.Test.YtefadkdngcbpiaaDoorQt
namespace Go.Proofs.YtefadkdngcbpiaaDoor.Qh
open Go.RowKit Vm Ap Vw Va Gc Mi Mb Qm Qs Qe Qc Qw Qf Qg Fm Fw Qk Qo Ql Qt

theorem small_of {c : Cmd} (h : LightC c) : Small c := ⟨h.tiny.life, h.tiny.version⟩
theorem rdB_back {c : Cmd} (hs : Small c) (hv : validG c = true) : rdB c.op (payR c) c 0 = true := by
  unfold rdB rdBR
  rw [read_write c hs ((valid_same c).trans hv)]
  simp only
  rw [eqC_self]; rfl
theorem word_op : ∀ k : Fin 15, opN (wordL k) = (k.val : Int) + 1 ∧ opE (wordL k) = 0 := by decide +kernel
set_option maxRecDepth 100000 in
set_option maxHeartbeats 16000000 in
theorem holds_walk (x : Com) (fc : UInt8) (F : Option Addr) (fp : Bs) (fk : Nat) (w : World) (he : Env w) (hr : Rc w x) (hl : LimC x.c) (hF : Arg w F fp fk) :
    Calls Tryd.prog 8 #[comV x, .agg #[.int .u8 (fc.toNat : Int), .slice F fp.length fk]] w (boolOf true w) := by
  obtain ⟨w0, hw0⟩ : ∃ w0, w0 = (w.alloc (comO x)).alloc (.cells #[.int .u8 (fc.toNat : Int), .slice F fp.length fk] 42) := ⟨_, rfl⟩
  have B0 : Below w.heap.size w w0 := by rw [hw0]; exact two_below _ _ _
  have BX0 : Hid (Box w0 w.heap.size x) := by show Box _ _ _; rw [hw0]; exact (Box.new w x).below (alloc_below _ _) (Nat.le_refl _)
  have CF0 : Hid (Cel w0 (w.heap.size + 1) (.int .u8 (fc.toNat : Int)) (.slice F fp.length fk)) := by
    have h := Cel.new (w.alloc (comO x)) (.int .u8 (fc.toNat : Int)) (.slice F fp.length fk) 42
    have e : (w.alloc (comO x)).heap.size = w.heap.size + 1 := by simp
    rw [e] at h
    show Cel _ _ _ _
    rw [hw0]; exact h
  have HB0 := Lib.hid B0
  have HE := Lib.hid (fun W (h : Below w.heap.size w W) => he.below h (Nat.le_refl _))
  have HR := Lib.hid (fun W (h : Below w.heap.size w W) => hr.below h (Nat.le_refl _))
  have HF := Lib.hid (fun W (h : Below w.heap.size w W) => hF.rd.below h (Nat.le_refl _))
  have hmx := hF.max
  have hle := hF.le
  have HL := Lib.hid (light_any x w0 (HR.out _ B0) hl)
  have HK := Lib.hid (fun W (h : Below w.heap.size w W) => known_any W (HE.out _ h))
  unfold maxLen at hmx
  have hfp : fp.length ≤ 9223372036854775807 := by omega
  have o1 := hl.op1
  have o2 := hl.op2
  unfold comV at HL ⊢
  unfold comO at hw0
  clear B0 he hr hl hF hmx hle
  obtain ⟨c0, c1, c2, c3, c4, c5, c6, c7, c8, c9, _⟩ := BX0.out
  obtain ⟨q0, q1, _, _⟩ := CF0.out
  go_enter Tryd.func8, Tryd.ntmps8
  go_wp2_with fail
  rw [← hw0]
  clear hw0
  refine HL.out.mono ?_
  rintro e w1 ⟨lb, rfl, b1, hlt⟩
  have BX1 := Lib.hid (BX0.out.below b1 (Nat.le_refl _))
  have CF1 := Lib.hid (CF0.out.below b1 (Nat.le_refl _))
  have HB1 := Lib.hid (HB0.out.trans (b1.mono HB0.out.size))
  have HLT := Lib.hid hlt
  clear b1 hlt c0 c1 c2 c3 c4 c5 c6 c7 c8 c9 q0 q1 BX0 CF0 HB0 HL
  obtain ⟨c0, c1, c2, c3, c4, c5, c6, c7, c8, c9, _⟩ := BX1.out
  obtain ⟨q0, q1, _, _⟩ := CF1.out
  have KN1 := Lib.hid (HK.out _ HB1.out)
  cases lb
  · go_wp2_with fail
    refine KN1.out.mono ?_
    rintro e w2 ⟨rfl, b2⟩
    have HB2 := Lib.hid (HB1.out.trans (b2.mono HB1.out.size))
    clear b2
    go_wp2_with fail
    go_ret
    exact ⟨rfl, HB2.out⟩
  have LC := Lib.hid (HLT.out rfl)
  by_cases hpl : 1000 < fp.length
  · have hpi : (1000 : Int) < fp.length := by omega
    go_wp2_with fail
    refine KN1.out.mono ?_
    rintro e w2 ⟨rfl, b2⟩
    have HB2 := Lib.hid (HB1.out.trans (b2.mono HB1.out.size))
    clear b2
    go_wp2_with fail
    go_ret
    exact ⟨rfl, HB2.out⟩
  have hpi : ¬ (1000 : Int) < fp.length := by omega
  have hp2 : fp.length ≤ 2000000 := by omega
  have HW := Lib.hid (write_any x w1 (HE.out _ HB1.out) (HR.out _ HB1.out) LC.out.bnd LC.out.keys LC.out.tags)
  unfold comV at HW
  clear hpl HLT KN1
  go_wp2_with fail
  refine HW.out.mono ?_
  rintro e w2 ⟨X, d, rfl, hf, b2⟩
  have FX := Lib.hid hf
  have BX2 := Lib.hid ((BX1.out.below b2 (Nat.le_refl _)))
  have CF2 := Lib.hid ((CF1.out.below b2 (Nat.le_refl _)))
  have HB2 := Lib.hid (HB1.out.trans (b2.mono HB1.out.size))
  clear hf b2 c0 c1 c2 c3 c4 c5 c6 c7 c8 c9 q0 q1 BX1 CF1 HB1
  go_upto_region 4 with fail
  obtain ⟨w3, hw3⟩ : ∃ w3, w3 = w2.alloc (.cells #[.int .u8 (wrC x.c), .slice X (wrP x.c).length d] 42) := ⟨_, rfl⟩
  have A23 : Below w2.heap.size w2 w3 := by rw [hw3]; exact alloc_below _ _
  have CX3 : Hid (Cel w3 w2.heap.size (.int .u8 (wrC x.c)) (.slice X (wrP x.c).length d)) := by show Cel _ _ _ _; rw [hw3]; exact Cel.new _ _ _ _
  have FX3 := Lib.hid (FX.out.rd.below A23 (Nat.le_refl _))
  have BX3 := Lib.hid (BX2.out.below A23 (Nat.le_refl _))
  have CF3 := Lib.hid (CF2.out.below A23 (Nat.le_refl _))
  have HB3 := Lib.hid (HB2.out.trans (A23.mono HB2.out.size))
  have FN := Lib.hid FX.out.non
  rw [← hw3]
  clear hw3 A23 FX BX2 CF2
  generalize w2.heap.size = gx at *
  have HV := Lib.hid (valid_any x w3 (HE.out _ HB3.out) (HR.out _ HB3.out) LC.out.bnd)
  unfold comV at HV
  obtain ⟨c0, c1, c2, c3, c4, c5, c6, c7, c8, c9, _⟩ := BX3.out
  obtain ⟨x0, x1, _, _⟩ := CX3.out
  by_cases hv : validG x.c = true
  · have HWE : Hid (wrE x.c = 0 ∧ wrC x.c = x.c.op ∧ wrP x.c = payR x.c) := by show _ ∧ _ ∧ _; unfold wrE wrC wrP; simp [hv]
    have HRB := Lib.hid (rdB_back (small_of LC.out) hv)
    have hop : 0 ≤ x.c.op ∧ x.c.op ≤ 15 := by obtain ⟨k, hk, e, _⟩ := in_cases (valid_in hv); omega
    have HCU := Lib.hid (codeU_int hop)
    have HPL := Lib.hid (pay_len LC.out.tiny)
    rw [hv] at HV
    rw [HWE.out.1]
    rw [HWE.out.2.1] at x0
    rw [HWE.out.2.2] at x1 FX3
    have HRX : Hid (∀ W, Below w3.heap.size w3 W → Calls Tryd.prog 25 #[.agg #[.int .u8 x.c.op, .slice X (payR x.c).length d], comV x, .int .i64 0] W (boolOf true W)) := fun W b => by
      have hW := HB3.out.trans (b.mono HB3.out.size)
      have h := reads_any (codeU x.c.op) X (payR x.c) d x 0 W (HE.out _ hW) (FX3.out.below b (Nat.le_refl _)) (by have := HPL.out; omega) (HR.out _ hW) LC.out.bnd
      rw [HCU.out, HRB.out] at h
      exact h
    unfold comV at HRX
    clear hv hop
    go_wp2_with fail
    refine HV.out.mono ?_
    rintro e w4 ⟨rfl, b4⟩
    have B4 := Lib.hid b4
    have BX4 := Lib.hid (BX3.out.below b4 (Nat.le_refl _))
    have CX4 := Lib.hid (CX3.out.below b4 (Nat.le_refl _))
    have CF4 := Lib.hid (CF3.out.below b4 (Nat.le_refl _))
    have HB4 := Lib.hid (HB3.out.trans (b4.mono HB3.out.size))
    rw [HWE.out.2.1, HWE.out.2.2] at CX4
    clear b4 c0 c1 c2 c3 c4 c5 c6 c7 c8 c9 x0 x1
    obtain ⟨c0, c1, c2, c3, c4, c5, c6, c7, c8, c9, _⟩ := BX4.out
    obtain ⟨x0, x1, _, _⟩ := CX4.out
    go_wp2_with fail
    refine (HRX.out _ B4.out).mono ?_
    rintro e w5 ⟨rfl, b5⟩
    have BX5 := Lib.hid (BX4.out.below b5 (Nat.le_refl _))
    have CF5 := Lib.hid (CF4.out.below b5 (Nat.le_refl _))
    have HB5 := Lib.hid (HB4.out.trans (b5.mono HB4.out.size))
    clear b5 c0 c1 c2 c3 c4 c5 c6 c7 c8 c9 x0 x1 BX4 CX4 CF4 BX3 CX3 CF3
    obtain ⟨c0, c1, c2, c3, c4, c5, c6, c7, c8, c9, _⟩ := BX5.out
    go_upto_region 6 with fail
    have HRD := Lib.hid (read_any fc F fp fk _ (HE.out _ HB5.out) (HF.out _ HB5.out) hp2)
    obtain ⟨q0, q1, _, _⟩ := CF5.out
    go_wp2_with fail
    refine HRD.out.mono ?_
    rintro e w10 ⟨y, rfl, hg, hy1, hy2, b10⟩
    have BX10 := Lib.hid (BX5.out.below b10 (Nat.le_refl _))
    have CF10 := Lib.hid (CF5.out.below b10 (Nat.le_refl _))
    have HB10 := Lib.hid (HB5.out.trans (b10.mono HB5.out.size))
    have HG := Lib.hid hg; have HY1 := Lib.hid hy1
    clear hg hy1 hy2 b10 c0 c1 c2 c3 c4 c5 c6 c7 c8 c9 q0 q1
    unfold comV
    go_upto_region 7 with fail
    obtain ⟨w11, hw11⟩ : ∃ w11, w11 = w10.alloc (comO y) := ⟨_, rfl⟩
    have A11 : Below w10.heap.size w10 w11 := by rw [hw11]; exact alloc_below _ _
    have BY11 : Hid (Box w11 w10.heap.size y) := by show Box _ _ _; rw [hw11]; exact Box.new _ _
    have HG11 := Lib.hid (HG.out.below A11 (Nat.le_refl _))
    have BX11 := Lib.hid (BX10.out.below A11 (Nat.le_refl _))
    have CF11 := Lib.hid (CF10.out.below A11 (Nat.le_refl _))
    have HB11 := Lib.hid (HB10.out.trans (A11.mono HB10.out.size))
    unfold comO at hw11
    rw [← hw11]
    clear hw11 A11 HG BX10 CF10 HB10
    generalize w10.heap.size = gy at *
    cases hR : readR (fc.toNat : Int) fp with
    | none =>
      simp only [Option.isSome_none, Bool.false_eq_true, if_false]
      clear hR HY1
      obtain ⟨c0, c1, c2, c3, c4, c5, c6, c7, c8, c9, _⟩ := BX11.out
      go_upto_region 9 with fail
      by_cases hin : inOp x.c.op = true
      · obtain ⟨k, hk, eop, ek⟩ := in_cases hin
        have HWR : Hid (wordR x.c.op = .tuple #[.string (wordS k), .int .i64 0]) := by show _ = _; unfold wordR; rw [if_pos hin, ek]
        have HOP := Lib.hid (fun W (h : Below w.heap.size w W) => op_at (wordL k) ((k : Int) + 1) 0 W (HE.out _ h) (word_op ⟨k, hk⟩).1 (word_op ⟨k, hk⟩).2)
        have WS : Hid (wordS k = ⟨(wordL k).toArray⟩) := rfl
        have EOP := Lib.hid eop
        clear hin ek eop
        go_wp2_with fail
        refine (word_any x.c.op _ (HE.out _ HB11.out)).mono ?_
        rintro e wy ⟨rfl, rfl⟩
        rw [HWR.out, WS.out]
        go_wp2_with fail
        refine (HOP.out _ HB11.out).mono ?_
        rintro e w20 ⟨rfl, b20⟩
        have BX20 := Lib.hid (BX11.out.below b20 (Nat.le_refl _))
        have HB20 := Lib.hid (HB11.out.trans (b20.mono HB11.out.size))
        clear b20 c0 c1 c2 c3 c4 c5 c6 c7 c8 c9
        obtain ⟨c0, c1, c2, c3, c4, c5, c6, c7, c8, c9, _⟩ := BX20.out
        rw [EOP.out] at c0
        go_wp2_with fail
        refine (HK.out _ HB20.out).mono ?_
        rintro e wz ⟨rfl, bz⟩
        have HBz := Lib.hid (HB20.out.trans (bz.mono HB20.out.size))
        clear bz
        go_wp2_with fail
        go_ret
        exact ⟨rfl, HBz.out⟩
      · have HWR : Hid (wordR x.c.op = .tuple #[.string ⟨#[]⟩, .int .i64 2]) := by show _ = _; unfold wordR; rw [if_neg hin]
        clear hin
        go_wp2_with fail
        refine (word_any x.c.op _ (HE.out _ HB11.out)).mono ?_
        rintro e wy ⟨rfl, rfl⟩
        rw [HWR.out]
        go_wp2_with fail
        refine (HK.out _ HB11.out).mono ?_
        rintro e wz ⟨rfl, bz⟩
        have HBz := Lib.hid (HB11.out.trans (bz.mono HB11.out.size))
        clear bz
        go_wp2_with fail
        go_ret
        exact ⟨rfl, HBz.out⟩
    | some z =>
      simp only [Option.isSome_some, if_true]
      obtain ⟨wp1, wp2, wp3, wp4⟩ := write_read hR
      have hyc := HY1.out z hR
      have hvy : validG y.c = true := by rw [hyc, ← valid_same]; exact wp3
      have HV11 := Lib.hid (valid_any y w11 (HE.out _ HB11.out) HG11.out.rc HG11.out.bnd)
      rw [hvy] at HV11
      have HWB : Hid (wrB y.c fc fp 0 = true) := wr_yes hvy (by rw [hyc]; exact wp2) (by rw [hyc]; exact wp1)
      have nk := HG11.out.nk; have nt := HG11.out.nt
      have HWY : Hid (∀ W, Below w11.heap.size w11 W → Calls Tryd.prog 19 #[comV y, .agg #[.int .u8 (fc.toNat : Int), .slice F fp.length fk], .int .i64 0] W (boolOf true W)) := fun W b => writes_at y fc F fp _ fk 0 _ W rfl rfl (HE.out _ (HB11.out.trans (b.mono HB11.out.size))) (HG11.out.rc.below b (Nat.le_refl _)) HG11.out.bnd (by omega) (by omega) (HF.out _ (HB11.out.trans (b.mono HB11.out.size))) HWB.out
      unfold comV at HV11 HWY
      clear hR wp1 wp2 wp3 wp4 hyc hvy nk nt HY1 HWB
      obtain ⟨y0, y1, y2, y3, y4, y5, y6, y7, y8, y9, _⟩ := BY11.out
      go_wp2_with fail
      refine HV11.out.mono ?_
      rintro e w12 ⟨rfl, b12⟩
      have B12 := Lib.hid b12
      have BX12 := Lib.hid (BX11.out.below b12 (Nat.le_refl _))
      have BY12 := Lib.hid (BY11.out.below b12 (Nat.le_refl _))
      have CF12 := Lib.hid (CF11.out.below b12 (Nat.le_refl _))
      have HB12 := Lib.hid (HB11.out.trans (b12.mono HB11.out.size))
      clear b12 y0 y1 y2 y3 y4 y5 y6 y7 y8 y9 BX11 BY11 CF11
      obtain ⟨y0, y1, y2, y3, y4, y5, y6, y7, y8, y9, _⟩ := BY12.out
      obtain ⟨q0, q1, _, _⟩ := CF12.out
      go_wp2_with fail
      refine (HWY.out _ B12.out).mono ?_
      rintro e w13 ⟨rfl, b13⟩
      have BX13 := Lib.hid (BX12.out.below b13 (Nat.le_refl _))
      have HB13 := Lib.hid (HB12.out.trans (b13.mono HB12.out.size))
      clear b13 y0 y1 y2 y3 y4 y5 y6 y7 y8 y9 q0 q1 BX12 BY12 CF12
      obtain ⟨c0, c1, c2, c3, c4, c5, c6, c7, c8, c9, _⟩ := BX13.out
      go_upto_region 9 with fail
      by_cases hin : inOp x.c.op = true
      · obtain ⟨k, hk, eop, ek⟩ := in_cases hin
        have HWR : Hid (wordR x.c.op = .tuple #[.string (wordS k), .int .i64 0]) := by show _ = _; unfold wordR; rw [if_pos hin, ek]
        have HOP := Lib.hid (fun W (h : Below w.heap.size w W) => op_at (wordL k) ((k : Int) + 1) 0 W (HE.out _ h) (word_op ⟨k, hk⟩).1 (word_op ⟨k, hk⟩).2)
        have WS : Hid (wordS k = ⟨(wordL k).toArray⟩) := rfl
        have EOP := Lib.hid eop
        clear hin ek eop
        go_wp2_with fail
        refine (word_any x.c.op _ (HE.out _ HB13.out)).mono ?_
        rintro e wy ⟨rfl, rfl⟩
        rw [HWR.out, WS.out]
        go_wp2_with fail
        refine (HOP.out _ HB13.out).mono ?_
        rintro e w20 ⟨rfl, b20⟩
        have BX20 := Lib.hid (BX13.out.below b20 (Nat.le_refl _))
        have HB20 := Lib.hid (HB13.out.trans (b20.mono HB13.out.size))
        clear b20 c0 c1 c2 c3 c4 c5 c6 c7 c8 c9
        obtain ⟨c0, c1, c2, c3, c4, c5, c6, c7, c8, c9, _⟩ := BX20.out
        rw [EOP.out] at c0
        go_wp2_with fail
        refine (HK.out _ HB20.out).mono ?_
        rintro e wz ⟨rfl, bz⟩
        have HBz := Lib.hid (HB20.out.trans (bz.mono HB20.out.size))
        clear bz
        go_wp2_with fail
        go_ret
        exact ⟨rfl, HBz.out⟩
      · have HWR : Hid (wordR x.c.op = .tuple #[.string ⟨#[]⟩, .int .i64 2]) := by show _ = _; unfold wordR; rw [if_neg hin]
        clear hin
        go_wp2_with fail
        refine (word_any x.c.op _ (HE.out _ HB13.out)).mono ?_
        rintro e wy ⟨rfl, rfl⟩
        rw [HWR.out]
        go_wp2_with fail
        refine (HK.out _ HB13.out).mono ?_
        rintro e wz ⟨rfl, bz⟩
        have HBz := Lib.hid (HB13.out.trans (bz.mono HB13.out.size))
        clear bz
        go_wp2_with fail
        go_ret
        exact ⟨rfl, HBz.out⟩
  · have HWE : Hid (wrE x.c = 2) := by show _ = _; unfold wrE; simp [hv]
    rw [show validG x.c = false by simpa using hv] at HV
    rw [HWE.out]
    clear hv
    go_wp2_with fail
    refine HV.out.mono ?_
    rintro e w4 ⟨rfl, b4⟩
    have BX4 := Lib.hid (BX3.out.below b4 (Nat.le_refl _))
    have CF4 := Lib.hid (CF3.out.below b4 (Nat.le_refl _))
    have HB4 := Lib.hid (HB3.out.trans (b4.mono HB3.out.size))
    clear b4 c0 c1 c2 c3 c4 c5 c6 c7 c8 c9 x0 x1
    obtain ⟨c0, c1, c2, c3, c4, c5, c6, c7, c8, c9, _⟩ := BX4.out
    go_upto_region 6 with fail
    have HRD := Lib.hid (read_any fc F fp fk _ (HE.out _ HB4.out) (HF.out _ HB4.out) hp2)
    obtain ⟨q0, q1, _, _⟩ := CF4.out
    go_wp2_with fail
    refine HRD.out.mono ?_
    rintro e w10 ⟨y, rfl, hg, hy1, hy2, b10⟩
    have BX10 := Lib.hid (BX4.out.below b10 (Nat.le_refl _))
    have CF10 := Lib.hid (CF4.out.below b10 (Nat.le_refl _))
    have HB10 := Lib.hid (HB4.out.trans (b10.mono HB4.out.size))
    have HG := Lib.hid hg; have HY1 := Lib.hid hy1
    clear hg hy1 hy2 b10 c0 c1 c2 c3 c4 c5 c6 c7 c8 c9 q0 q1
    unfold comV
    go_upto_region 7 with fail
    obtain ⟨w11, hw11⟩ : ∃ w11, w11 = w10.alloc (comO y) := ⟨_, rfl⟩
    have A11 : Below w10.heap.size w10 w11 := by rw [hw11]; exact alloc_below _ _
    have BY11 : Hid (Box w11 w10.heap.size y) := by show Box _ _ _; rw [hw11]; exact Box.new _ _
    have HG11 := Lib.hid (HG.out.below A11 (Nat.le_refl _))
    have BX11 := Lib.hid (BX10.out.below A11 (Nat.le_refl _))
    have CF11 := Lib.hid (CF10.out.below A11 (Nat.le_refl _))
    have HB11 := Lib.hid (HB10.out.trans (A11.mono HB10.out.size))
    unfold comO at hw11
    rw [← hw11]
    clear hw11 A11 HG BX10 CF10 HB10
    generalize w10.heap.size = gy at *
    cases hR : readR (fc.toNat : Int) fp with
    | none =>
      simp only [Option.isSome_none, Bool.false_eq_true, if_false]
      clear hR HY1
      obtain ⟨c0, c1, c2, c3, c4, c5, c6, c7, c8, c9, _⟩ := BX11.out
      go_upto_region 9 with fail
      by_cases hin : inOp x.c.op = true
      · obtain ⟨k, hk, eop, ek⟩ := in_cases hin
        have HWR : Hid (wordR x.c.op = .tuple #[.string (wordS k), .int .i64 0]) := by show _ = _; unfold wordR; rw [if_pos hin, ek]
        have HOP := Lib.hid (fun W (h : Below w.heap.size w W) => op_at (wordL k) ((k : Int) + 1) 0 W (HE.out _ h) (word_op ⟨k, hk⟩).1 (word_op ⟨k, hk⟩).2)
        have WS : Hid (wordS k = ⟨(wordL k).toArray⟩) := rfl
        have EOP := Lib.hid eop
        clear hin ek eop
        go_wp2_with fail
        refine (word_any x.c.op _ (HE.out _ HB11.out)).mono ?_
        rintro e wy ⟨rfl, rfl⟩
        rw [HWR.out, WS.out]
        go_wp2_with fail
        refine (HOP.out _ HB11.out).mono ?_
        rintro e w20 ⟨rfl, b20⟩
        have BX20 := Lib.hid (BX11.out.below b20 (Nat.le_refl _))
        have HB20 := Lib.hid (HB11.out.trans (b20.mono HB11.out.size))
        clear b20 c0 c1 c2 c3 c4 c5 c6 c7 c8 c9
        obtain ⟨c0, c1, c2, c3, c4, c5, c6, c7, c8, c9, _⟩ := BX20.out
        rw [EOP.out] at c0
        go_wp2_with fail
        refine (HK.out _ HB20.out).mono ?_
        rintro e wz ⟨rfl, bz⟩
        have HBz := Lib.hid (HB20.out.trans (bz.mono HB20.out.size))
        clear bz
        go_wp2_with fail
        go_ret
        exact ⟨rfl, HBz.out⟩
      · have HWR : Hid (wordR x.c.op = .tuple #[.string ⟨#[]⟩, .int .i64 2]) := by show _ = _; unfold wordR; rw [if_neg hin]
        clear hin
        go_wp2_with fail
        refine (word_any x.c.op _ (HE.out _ HB11.out)).mono ?_
        rintro e wy ⟨rfl, rfl⟩
        rw [HWR.out]
        go_wp2_with fail
        refine (HK.out _ HB11.out).mono ?_
        rintro e wz ⟨rfl, bz⟩
        have HBz := Lib.hid (HB11.out.trans (bz.mono HB11.out.size))
        clear bz
        go_wp2_with fail
        go_ret
        exact ⟨rfl, HBz.out⟩
    | some z =>
      simp only [Option.isSome_some, if_true]
      obtain ⟨wp1, wp2, wp3, wp4⟩ := write_read hR
      have hyc := HY1.out z hR
      have hvy : validG y.c = true := by rw [hyc, ← valid_same]; exact wp3
      have HV11 := Lib.hid (valid_any y w11 (HE.out _ HB11.out) HG11.out.rc HG11.out.bnd)
      rw [hvy] at HV11
      have HWB : Hid (wrB y.c fc fp 0 = true) := wr_yes hvy (by rw [hyc]; exact wp2) (by rw [hyc]; exact wp1)
      have nk := HG11.out.nk; have nt := HG11.out.nt
      have HWY : Hid (∀ W, Below w11.heap.size w11 W → Calls Tryd.prog 19 #[comV y, .agg #[.int .u8 (fc.toNat : Int), .slice F fp.length fk], .int .i64 0] W (boolOf true W)) := fun W b => writes_at y fc F fp _ fk 0 _ W rfl rfl (HE.out _ (HB11.out.trans (b.mono HB11.out.size))) (HG11.out.rc.below b (Nat.le_refl _)) HG11.out.bnd (by omega) (by omega) (HF.out _ (HB11.out.trans (b.mono HB11.out.size))) HWB.out
      unfold comV at HV11 HWY
      clear hR wp1 wp2 wp3 wp4 hyc hvy nk nt HY1 HWB
      obtain ⟨y0, y1, y2, y3, y4, y5, y6, y7, y8, y9, _⟩ := BY11.out
      go_wp2_with fail
      refine HV11.out.mono ?_
      rintro e w12 ⟨rfl, b12⟩
      have B12 := Lib.hid b12
      have BX12 := Lib.hid (BX11.out.below b12 (Nat.le_refl _))
      have BY12 := Lib.hid (BY11.out.below b12 (Nat.le_refl _))
      have CF12 := Lib.hid (CF11.out.below b12 (Nat.le_refl _))
      have HB12 := Lib.hid (HB11.out.trans (b12.mono HB11.out.size))
      clear b12 y0 y1 y2 y3 y4 y5 y6 y7 y8 y9 BX11 BY11 CF11
      obtain ⟨y0, y1, y2, y3, y4, y5, y6, y7, y8, y9, _⟩ := BY12.out
      obtain ⟨q0, q1, _, _⟩ := CF12.out
      go_wp2_with fail
      refine (HWY.out _ B12.out).mono ?_
      rintro e w13 ⟨rfl, b13⟩
      have BX13 := Lib.hid (BX12.out.below b13 (Nat.le_refl _))
      have HB13 := Lib.hid (HB12.out.trans (b13.mono HB12.out.size))
      clear b13 y0 y1 y2 y3 y4 y5 y6 y7 y8 y9 q0 q1 BX12 BY12 CF12
      obtain ⟨c0, c1, c2, c3, c4, c5, c6, c7, c8, c9, _⟩ := BX13.out
      go_upto_region 9 with fail
      by_cases hin : inOp x.c.op = true
      · obtain ⟨k, hk, eop, ek⟩ := in_cases hin
        have HWR : Hid (wordR x.c.op = .tuple #[.string (wordS k), .int .i64 0]) := by show _ = _; unfold wordR; rw [if_pos hin, ek]
        have HOP := Lib.hid (fun W (h : Below w.heap.size w W) => op_at (wordL k) ((k : Int) + 1) 0 W (HE.out _ h) (word_op ⟨k, hk⟩).1 (word_op ⟨k, hk⟩).2)
        have WS : Hid (wordS k = ⟨(wordL k).toArray⟩) := rfl
        have EOP := Lib.hid eop
        clear hin ek eop
        go_wp2_with fail
        refine (word_any x.c.op _ (HE.out _ HB13.out)).mono ?_
        rintro e wy ⟨rfl, rfl⟩
        rw [HWR.out, WS.out]
        go_wp2_with fail
        refine (HOP.out _ HB13.out).mono ?_
        rintro e w20 ⟨rfl, b20⟩
        have BX20 := Lib.hid (BX13.out.below b20 (Nat.le_refl _))
        have HB20 := Lib.hid (HB13.out.trans (b20.mono HB13.out.size))
        clear b20 c0 c1 c2 c3 c4 c5 c6 c7 c8 c9
        obtain ⟨c0, c1, c2, c3, c4, c5, c6, c7, c8, c9, _⟩ := BX20.out
        rw [EOP.out] at c0
        go_wp2_with fail
        refine (HK.out _ HB20.out).mono ?_
        rintro e wz ⟨rfl, bz⟩
        have HBz := Lib.hid (HB20.out.trans (bz.mono HB20.out.size))
        clear bz
        go_wp2_with fail
        go_ret
        exact ⟨rfl, HBz.out⟩
      · have HWR : Hid (wordR x.c.op = .tuple #[.string ⟨#[]⟩, .int .i64 2]) := by show _ = _; unfold wordR; rw [if_neg hin]
        clear hin
        go_wp2_with fail
        refine (word_any x.c.op _ (HE.out _ HB13.out)).mono ?_
        rintro e wy ⟨rfl, rfl⟩
        rw [HWR.out]
        go_wp2_with fail
        refine (HK.out _ HB13.out).mono ?_
        rintro e wz ⟨rfl, bz⟩
        have HBz := Lib.hid (HB13.out.trans (bz.mono HB13.out.size))
        clear bz
        go_wp2_with fail
        go_ret
        exact ⟨rfl, HBz.out⟩
end Go.Proofs.YtefadkdngcbpiaaDoor.Qh
