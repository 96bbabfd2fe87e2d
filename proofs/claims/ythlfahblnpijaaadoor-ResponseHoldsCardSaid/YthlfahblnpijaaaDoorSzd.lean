/- Proves that the law ResponseHolds returns true. Conditions: the table of package request is laid; an argument's parts below the form's own bound. -/
import Derived.Test.YthlfahblnpijaaaDoorSl
import Derived.Test.YthlfahblnpijaaaDoorSja
import Derived.Test.YthlfahblnpijaaaDoorSzh
import Derived.Test.YthlfahblnpijaaaDoorQg
namespace Go.Proofs.YthlfahblnpijaaaDoor.Szd
open Go.RowKit Vm Ap Vw Va Gc Mi Mb Qm Sm Se So Sp Sx Sk Sja Szh

theorem readR_none {op : Int} (h : 16 ≤ op) (p : Bs) : readR op p = none := by
  cases e : readR op p with
  | none => rfl
  | some c =>
    obtain ⟨_, h2, h3, _⟩ := write_read e
    have hin : inOp c.op = true := by
      unfold validR at h3
      simp only [Bool.and_eq_true] at h3
      exact h3.1
    obtain ⟨k, hk, ek, _⟩ := in_cases hin
    omega
theorem small_of {x : Res} (h : LightS x) : SmallR x.r :=
  ⟨h.bnd.version, fun y hy => by
    obtain ⟨q, hq, rfl⟩ := List.mem_map.1 hy
    exact ⟨(h.bnd.each q hq).2.2.1, (h.bnd.each q hq).2.2.2⟩, h.bnd.nums⟩
theorem pay_of {x : Res} (h : LightS x) : (payS x.r).length ≤ 2000000 := by
  have h1 := h.bnd.err2
  have h2 := h.bnd.count2
  refine pay_small x.r (small_of h) (by show (x.items.map (·.i)).length ≤ 40; rw [List.length_map]; exact h.items) h.numbers (fun y hy => ?_) (by show x.err.toNat < big; unfold big; omega) (by show x.count.toNat < big; unfold big; omega) (fun y hy => ?_)
  · obtain ⟨q, hq, rfl⟩ := List.mem_map.1 hy
    have := mem_sum _ q hq
    have := h.sum
    exact Or.inl (by omega)
  · obtain ⟨q, hq, rfl⟩ := List.mem_map.1 hy
    have := (h.bnd.each q hq).1.2
    unfold big; omega
set_option maxRecDepth 100000 in
set_option maxHeartbeats 16000000 in
theorem holds_walk (x : Res) (fc : UInt8) (F : Option Addr) (fp : Bs) (fk : Nat) (w : World) (he : Qe.Env w) (hr : RRc w x) (hl : LimS x) (hF : Arg w F fp fk) :
    Calls Tryd.prog 3 #[resV x, .agg #[.int .u8 (fc.toNat : Int), .slice F fp.length fk]] w (boolOf true w) := by
  obtain ⟨w0, hw0⟩ : ∃ w0, w0 = (w.alloc (resO x)).alloc (.cells #[.int .u8 (fc.toNat : Int), .slice F fp.length fk] 31) := ⟨_, rfl⟩
  have B0 : Below w.heap.size w w0 := by rw [hw0]; exact two_below _ _ _
  have BX0 : Hid (BoxS w0 w.heap.size x) := by show BoxS _ _ _; rw [hw0]; exact (BoxS.new w x).below (alloc_below _ _) (Nat.le_refl _)
  have CF0 : Hid (Cel w0 (w.heap.size + 1) (.int .u8 (fc.toNat : Int)) (.slice F fp.length fk)) := by
    have h := Cel.new (w.alloc (resO x)) (.int .u8 (fc.toNat : Int)) (.slice F fp.length fk) 31
    have e : (w.alloc (resO x)).heap.size = w.heap.size + 1 := by simp
    rw [e] at h
    show Cel _ _ _ _
    rw [hw0]; exact h
  have HB0 := Lib.hid B0
  have HE := Lib.hid (fun W (h : Below w.heap.size w W) => he.below h (Nat.le_refl _))
  have HR := Lib.hid (fun W (h : Below w.heap.size w W) => hr.below h (Nat.le_refl _))
  have HF := Lib.hid (fun W (h : Below w.heap.size w W) => hF.rd.below h (Nat.le_refl _))
  have hmx := hF.max
  have hle := hF.le
  have HL := Lib.hid (light_any x w0 (HR.out _ B0) hl)
  have HK := Lib.hid (fun W (_ : Below w.heap.size w W) => Sl.known_any W)
  unfold maxLen at hmx
  have hfp : fp.length ≤ 9223372036854775807 := by omega
  unfold resV at HL ⊢
  unfold resO at hw0
  obtain ⟨C, hC⟩ : ∃ C, C = w.heap.size := ⟨_, rfl⟩
  obtain ⟨D, hD⟩ : ∃ D, D = w.heap.size + 1 := ⟨_, rfl⟩
  rw [← hC] at BX0
  rw [← hD] at CF0
  clear B0 he hr hl hF hmx hle
  obtain ⟨c0, c1, c2, c3, c4, c5, _⟩ := BX0.out
  obtain ⟨q0, q1, _, _⟩ := CF0.out
  go_enter Tryd.func3, Tryd.ntmps3
  go_upto_region 1 with fail
  rw [← hw0, ← hD, ← hC]
  clear hw0 hD hC
  go_wp2_with fail
  refine HL.out.mono ?_
  rintro e w1 ⟨lb, rfl, b1, hlt⟩
  have BX1 := Lib.hid (BX0.out.below b1 (Nat.le_refl _))
  have CF1 := Lib.hid (CF0.out.below b1 (Nat.le_refl _))
  have HB1 := Lib.hid (HB0.out.trans (b1.mono HB0.out.size))
  have HLT := Lib.hid hlt
  clear b1 hlt c0 c1 c2 c3 c4 c5 q0 q1 BX0 CF0 HB0 HL
  obtain ⟨c0, c1, c2, c3, c4, c5, _⟩ := BX1.out
  obtain ⟨q0, q1, _, _⟩ := CF1.out
  have KN1 := Lib.hid (HK.out _ HB1.out)
  cases lb
  · go_wp2_with fail
    refine KN1.out.mono ?_
    rintro e w2 ⟨rfl, b2⟩
    have HB2 := Lib.hid (HB1.out.trans (b2.mono HB1.out.size))
    clear b2
    go_wp2_with fail
    go_ret
    exact ⟨rfl, HB2.out⟩
  have LC := Lib.hid (HLT.out rfl)
  by_cases hpl : 1000 < fp.length
  · have hpi : (1000 : Int) < fp.length := by omega
    go_wp2_with fail
    refine KN1.out.mono ?_
    rintro e w2 ⟨rfl, b2⟩
    have HB2 := Lib.hid (HB1.out.trans (b2.mono HB1.out.size))
    clear b2
    go_wp2_with fail
    go_ret
    exact ⟨rfl, HB2.out⟩
  have hpi : ¬ (1000 : Int) < fp.length := by omega
  have HP2 : Hid (fp.length ≤ 2000000) := by show _ ≤ _; omega
  obtain ⟨code, hcode⟩ : ∃ code, code = wrC x.r := ⟨_, rfl⟩
  obtain ⟨P, hP⟩ : ∃ P, P = wrP x.r := ⟨_, rfl⟩
  have HW := Lib.hid (write_any x w1 (HR.out _ HB1.out) LC.out.bnd)
  rw [← hcode, ← hP] at HW
  have HCE := Lib.hid hcode
  have HPE := Lib.hid hP
  unfold resV at HW
  clear hpl HLT KN1 hcode hP
  go_wp2_with fail
  with_reducible refine HW.out.mono ?_
  rintro e w2 ⟨X, d, rfl, hf, b2⟩
  have FX := Lib.hid hf
  have BX2 := Lib.hid ((BX1.out.below b2 (Nat.le_refl _)))
  have CF2 := Lib.hid ((CF1.out.below b2 (Nat.le_refl _)))
  have HB2 := Lib.hid (HB1.out.trans (b2.mono HB1.out.size))
  clear hf b2 c0 c1 c2 c3 c4 c5 q0 q1 BX1 CF1 HB1 HW
  go_upto_region 4 with fail
  obtain ⟨w3, hw3⟩ : ∃ w3, w3 = w2.alloc (.cells #[.int .u8 code, .slice X P.length d] 31) := ⟨_, rfl⟩
  have A23 : Below w2.heap.size w2 w3 := by rw [hw3]; exact alloc_below _ _
  have CX3 : Hid (Cel w3 w2.heap.size (.int .u8 code) (.slice X P.length d)) := by show Cel _ _ _ _; rw [hw3]; exact Cel.new _ _ _ _
  have FX3 := Lib.hid (FX.out.rd.below A23 (Nat.le_refl _))
  have BX3 := Lib.hid (BX2.out.below A23 (Nat.le_refl _))
  have CF3 := Lib.hid (CF2.out.below A23 (Nat.le_refl _))
  have HB3 := Lib.hid (HB2.out.trans (A23.mono HB2.out.size))
  rw [← hw3]
  clear hw3 A23 FX BX2 CF2
  generalize w2.heap.size = gx at *
  have HV := Lib.hid (Sg.valid_any x w3 (HR.out _ HB3.out) LC.out.bnd)
  unfold resV at HV
  obtain ⟨c0, c1, c2, c3, c4, c5, _⟩ := BX3.out
  obtain ⟨x0, x1, _, _⟩ := CX3.out
  have HCU : Hid (((codeU code).toNat : Int) = code) := by show _ = _; rw [HCE.out]; exact codeU_int (wrC_bd x.r)
  obtain ⟨E, hE⟩ : ∃ E, E = wrE x.r := ⟨_, rfl⟩
  rw [← hE]
  cases hv : validS x.r
  · have hE2 : E = 2 := by rw [hE]; unfold wrE; rw [hv]; rfl
    subst hE2
    rw [hv] at HV
    clear hv hE
    go_wp2_with fail
    refine HV.out.mono ?_
    rintro e w5 ⟨rfl, b5⟩
    have CF5 := Lib.hid (CF3.out.below b5 (Nat.le_refl _))
    have HB5 := Lib.hid (HB3.out.trans (b5.mono HB3.out.size))
    clear b5 c0 c1 c2 c3 c4 c5 x0 x1 BX3 CX3 CF3 HV
    have HRD := Lib.hid (Sy.read_any fc F fp fk _ (HF.out _ HB5.out) HP2.out)
    obtain ⟨q0, q1, _, _⟩ := CF5.out
    go_upto_region 6 with fail
    go_wp2_with fail
    with_reducible refine HRD.out.mono ?_
    rintro e w10 ⟨y, rfl, hg, hy1, _, b10⟩
    have CF10 := Lib.hid (CF5.out.below b10 (Nat.le_refl _))
    have HB10 := Lib.hid (HB5.out.trans (b10.mono HB5.out.size))
    have HG := Lib.hid hg
    have HY1 := Lib.hid hy1
    clear hg hy1 b10 q0 q1 HRD CF5
    unfold resV
    go_upto_region 7 with fail
    obtain ⟨w11, hw11⟩ : ∃ w11, w11 = w10.alloc (resO y) := ⟨_, rfl⟩
    have A11 : Below w10.heap.size w10 w11 := by rw [hw11]; exact alloc_below _ _
    have BY11 : Hid (BoxS w11 w10.heap.size y) := by show BoxS _ _ _; rw [hw11]; exact BoxS.new _ _
    have HG11 := Lib.hid (HG.out.below A11 (Nat.le_refl _))
    have CF11 := Lib.hid (CF10.out.below A11 (Nat.le_refl _))
    have HB11 := Lib.hid (HB10.out.trans (A11.mono HB10.out.size))
    unfold resO at hw11
    rw [← hw11]
    clear hw11 A11 HG CF10 HB10
    generalize w10.heap.size = gy at *
    cases hR : readF fc.toNat fp with
    | none =>
      simp only [Option.isSome_none, Bool.false_eq_true, if_false]
      clear hR HY1
      have HQ := Lib.hid (Qg.read_any fc F fp fk _ (HE.out _ HB11.out) (HF.out _ HB11.out) HP2.out)
      generalize readR (fc.toNat : Int) fp = R2 at *
      obtain ⟨q0, q1, _, _⟩ := CF11.out
      go_wp2_with fail
      with_reducible refine HQ.out.mono ?_
      rintro e w12 ⟨z, rfl, _, _, _, b12⟩
      have HB12 := Lib.hid (HB11.out.trans (b12.mono HB11.out.size))
      generalize (if R2.isSome then 0 else 6 : Int) = g at *
      clear b12 q0 q1 HQ
      unfold Qe.comV
      go_upto_region 10 with fail
      have HBa : Hid (∀ o, Below w.heap.size w (w12.alloc o)) := fun o => HB12.out.alloc HB12.out.size o
      generalize hwz : w12.alloc _ = wz
      have HBz : Hid (Below w.heap.size w wz) := by show Below _ _ _; rw [← hwz]; exact HBa.out _
      clear hwz
      go_wp2_with fail
      refine (HK.out _ HBz.out).mono ?_
      rintro e wy ⟨rfl, by_⟩
      have HBy := Lib.hid (HBz.out.trans (by_.mono HBz.out.size))
      clear by_
      go_wp2_with fail
      go_ret
      exact ⟨rfl, HBy.out⟩
    | some c =>
      simp only [Option.isSome_some, if_true]
      have hyc := HY1.out c hR
      have hR' := hR
      unfold readF at hR'
      have hfc : 64 ≤ fc.toNat ∧ fc.toNat ≤ 79 := by
        by_cases h : 64 ≤ fc.toNat ∧ fc.toNat ≤ 79
        · exact h
        · rw [if_neg h] at hR'; cases hR'
      rw [if_pos hfc] at hR'
      obtain ⟨hp1, hp2, hp3, _⟩ := write_readS hR'
      have HVY : Hid (validS y.r = true) := by show _ = _; rw [hyc]; exact hp3
      have HBY := Lib.hid HG11.out.bnd
      have HV11 := Lib.hid (Sg.valid_any y w11 HG11.out.rc HG11.out.bnd)
      rw [HVY.out] at HV11
      have HWY : Hid (∀ W, Below w11.heap.size w11 W → Calls Tryd.prog 10 #[resV y, .agg #[.int .u8 (fc.toNat : Int), .slice F fp.length fk], .int .i64 0] W (boolOf true W)) := fun W h => by
        have q := writes_any y fc F fp fk 0 W (HG11.out.rc.below h (Nat.le_refl _)) HBY.out (HF.out _ (HB11.out.trans (h.mono HB11.out.size)))
        rw [wrB_true (by unfold wrC; rw [HVY.out, hyc, hp2]; show 64 + ((fc.toNat : Int) - 64) = _; omega) (by unfold wrP; rw [HVY.out, hyc, hp1]; rfl) (by unfold wrE; rw [HVY.out]; rfl)] at q
        exact q
      have HRN : Hid (readR (fc.toNat : Int) fp = none) := readR_none (by omega) fp
      unfold resV at HV11 HWY
      clear hR hR' hyc hfc hp1 hp2 hp3 HY1
      obtain ⟨y0, y1, y2, y3, y4, y5, _⟩ := BY11.out
      go_wp2_with fail
      refine HV11.out.mono ?_
      rintro e w12 ⟨rfl, b12⟩
      have B12 := Lib.hid b12
      have BY12 := Lib.hid (BY11.out.below b12 (Nat.le_refl _))
      have CF12 := Lib.hid (CF11.out.below b12 (Nat.le_refl _))
      have HB12 := Lib.hid (HB11.out.trans (b12.mono HB11.out.size))
      clear b12 y0 y1 y2 y3 y4 y5 BY11 CF11
      obtain ⟨y0, y1, y2, y3, y4, y5, _⟩ := BY12.out
      obtain ⟨q0, q1, _, _⟩ := CF12.out
      go_wp2_with fail
      refine (HWY.out _ B12.out).mono ?_
      rintro e w13 ⟨rfl, b13⟩
      have CF13 := Lib.hid (CF12.out.below b13 (Nat.le_refl _))
      have HB13 := Lib.hid (HB12.out.trans (b13.mono HB12.out.size))
      clear b13 y0 y1 y2 y3 y4 y5 q0 q1 BY12 CF12
      have HQ := Lib.hid (Qg.read_any fc F fp fk _ (HE.out _ HB13.out) (HF.out _ HB13.out) HP2.out)
      rw [HRN.out] at HQ
      obtain ⟨q0, q1, _, _⟩ := CF13.out
      go_wp2_with fail
      with_reducible refine HQ.out.mono ?_
      rintro e w14 ⟨z, rfl, _, _, _, b14⟩
      have HB14 := Lib.hid (HB13.out.trans (b14.mono HB13.out.size))
      simp only [Option.isSome_none, Bool.false_eq_true, if_false]
      clear b14 q0 q1 HQ
      unfold Qe.comV
      go_upto_region 10 with fail
      have HBa : Hid (∀ o, Below w.heap.size w (w14.alloc o)) := fun o => HB14.out.alloc HB14.out.size o
      generalize hwz : w14.alloc _ = wz
      have HBz : Hid (Below w.heap.size w wz) := by show Below _ _ _; rw [← hwz]; exact HBa.out _
      clear hwz
      go_wp2_with fail
      refine (HK.out _ HBz.out).mono ?_
      rintro e wy ⟨rfl, by_⟩
      have HBy := Lib.hid (HBz.out.trans (by_.mono HBz.out.size))
      clear by_
      go_wp2_with fail
      go_ret
      exact ⟨rfl, HBy.out⟩
  · have hE2 : E = 0 := by rw [hE]; unfold wrE; rw [hv]; rfl
    subst hE2
    have hop : 0 ≤ x.op ∧ x.op ≤ 15 := (valid_has hv).1
    have hc64 : code = 64 + x.op := by rw [HCE.out]; unfold wrC; rw [hv]; rfl
    have hPp : P = payS x.r := by rw [HPE.out]; unfold wrP; rw [hv]; rfl
    have HRX : Hid (∀ W, Below w3.heap.size w3 W → Calls Tryd.prog 8 #[.agg #[.int .u8 code, .slice X P.length d], resV x, .int .i64 0] W (boolOf true W)) := fun W b => by
      have hW := HB3.out.trans (b.mono HB3.out.size)
      have h := reads_any (codeU code) X P d x 0 W (FX3.out.below b (Nat.le_refl _)) (by rw [hPp]; exact pay_of LC.out) (HR.out _ hW) LC.out.bnd
      have e : rdB (codeU code).toNat P x.r 0 = true := by
        have hcu := HCU.out
        unfold rdB readF
        rw [if_pos (by omega), hcu, show code - 64 = x.r.op from by show code - 64 = x.op; omega, hPp, read_writeS x.r (small_of LC.out) hv]
        show (eqR x.r x.r && decide ((0 : Int) = 0)) = true
        rw [eqR_self]; rfl
      rw [e, HCU.out] at h
      exact h
    unfold resV at HRX
    rw [hv] at HV
    clear hv hE hop hc64 hPp
    go_wp2_with fail
    refine HV.out.mono ?_
    rintro e w4 ⟨rfl, b4⟩
    have B4 := Lib.hid b4
    have BX4 := Lib.hid (BX3.out.below b4 (Nat.le_refl _))
    have CX4 := Lib.hid (CX3.out.below b4 (Nat.le_refl _))
    have CF4 := Lib.hid (CF3.out.below b4 (Nat.le_refl _))
    have HB4 := Lib.hid (HB3.out.trans (b4.mono HB3.out.size))
    clear b4 c0 c1 c2 c3 c4 c5 x0 x1
    obtain ⟨c0, c1, c2, c3, c4, c5, _⟩ := BX4.out
    obtain ⟨x0, x1, _, _⟩ := CX4.out
    go_wp2_with fail
    refine (HRX.out _ B4.out).mono ?_
    rintro e w5 ⟨rfl, b5⟩
    have CF5 := Lib.hid (CF4.out.below b5 (Nat.le_refl _))
    have HB5 := Lib.hid (HB4.out.trans (b5.mono HB4.out.size))
    clear b5 c0 c1 c2 c3 c4 c5 x0 x1 BX4 CX4 CF4 BX3 CX3 CF3 HV
    have HRD := Lib.hid (Sy.read_any fc F fp fk _ (HF.out _ HB5.out) HP2.out)
    obtain ⟨q0, q1, _, _⟩ := CF5.out
    go_upto_region 6 with fail
    go_wp2_with fail
    with_reducible refine HRD.out.mono ?_
    rintro e w10 ⟨y, rfl, hg, hy1, _, b10⟩
    have CF10 := Lib.hid (CF5.out.below b10 (Nat.le_refl _))
    have HB10 := Lib.hid (HB5.out.trans (b10.mono HB5.out.size))
    have HG := Lib.hid hg
    have HY1 := Lib.hid hy1
    clear hg hy1 b10 q0 q1 HRD CF5
    unfold resV
    go_upto_region 7 with fail
    obtain ⟨w11, hw11⟩ : ∃ w11, w11 = w10.alloc (resO y) := ⟨_, rfl⟩
    have A11 : Below w10.heap.size w10 w11 := by rw [hw11]; exact alloc_below _ _
    have BY11 : Hid (BoxS w11 w10.heap.size y) := by show BoxS _ _ _; rw [hw11]; exact BoxS.new _ _
    have HG11 := Lib.hid (HG.out.below A11 (Nat.le_refl _))
    have CF11 := Lib.hid (CF10.out.below A11 (Nat.le_refl _))
    have HB11 := Lib.hid (HB10.out.trans (A11.mono HB10.out.size))
    unfold resO at hw11
    rw [← hw11]
    clear hw11 A11 HG CF10 HB10
    generalize w10.heap.size = gy at *
    cases hR : readF fc.toNat fp with
    | none =>
      simp only [Option.isSome_none, Bool.false_eq_true, if_false]
      clear hR HY1
      have HQ := Lib.hid (Qg.read_any fc F fp fk _ (HE.out _ HB11.out) (HF.out _ HB11.out) HP2.out)
      generalize readR (fc.toNat : Int) fp = R2 at *
      obtain ⟨q0, q1, _, _⟩ := CF11.out
      go_wp2_with fail
      with_reducible refine HQ.out.mono ?_
      rintro e w12 ⟨z, rfl, _, _, _, b12⟩
      have HB12 := Lib.hid (HB11.out.trans (b12.mono HB11.out.size))
      generalize (if R2.isSome then 0 else 6 : Int) = g at *
      clear b12 q0 q1 HQ
      unfold Qe.comV
      go_upto_region 10 with fail
      have HBa : Hid (∀ o, Below w.heap.size w (w12.alloc o)) := fun o => HB12.out.alloc HB12.out.size o
      generalize hwz : w12.alloc _ = wz
      have HBz : Hid (Below w.heap.size w wz) := by show Below _ _ _; rw [← hwz]; exact HBa.out _
      clear hwz
      go_wp2_with fail
      refine (HK.out _ HBz.out).mono ?_
      rintro e wy ⟨rfl, by_⟩
      have HBy := Lib.hid (HBz.out.trans (by_.mono HBz.out.size))
      clear by_
      go_wp2_with fail
      go_ret
      exact ⟨rfl, HBy.out⟩
    | some c =>
      simp only [Option.isSome_some, if_true]
      have hyc := HY1.out c hR
      have hR' := hR
      unfold readF at hR'
      have hfc : 64 ≤ fc.toNat ∧ fc.toNat ≤ 79 := by
        by_cases h : 64 ≤ fc.toNat ∧ fc.toNat ≤ 79
        · exact h
        · rw [if_neg h] at hR'; cases hR'
      rw [if_pos hfc] at hR'
      obtain ⟨hp1, hp2, hp3, _⟩ := write_readS hR'
      have HVY : Hid (validS y.r = true) := by show _ = _; rw [hyc]; exact hp3
      have HBY := Lib.hid HG11.out.bnd
      have HV11 := Lib.hid (Sg.valid_any y w11 HG11.out.rc HG11.out.bnd)
      rw [HVY.out] at HV11
      have HWY : Hid (∀ W, Below w11.heap.size w11 W → Calls Tryd.prog 10 #[resV y, .agg #[.int .u8 (fc.toNat : Int), .slice F fp.length fk], .int .i64 0] W (boolOf true W)) := fun W h => by
        have q := writes_any y fc F fp fk 0 W (HG11.out.rc.below h (Nat.le_refl _)) HBY.out (HF.out _ (HB11.out.trans (h.mono HB11.out.size)))
        rw [wrB_true (by unfold wrC; rw [HVY.out, hyc, hp2]; show 64 + ((fc.toNat : Int) - 64) = _; omega) (by unfold wrP; rw [HVY.out, hyc, hp1]; rfl) (by unfold wrE; rw [HVY.out]; rfl)] at q
        exact q
      have HRN : Hid (readR (fc.toNat : Int) fp = none) := readR_none (by omega) fp
      unfold resV at HV11 HWY
      clear hR hR' hyc hfc hp1 hp2 hp3 HY1
      obtain ⟨y0, y1, y2, y3, y4, y5, _⟩ := BY11.out
      go_wp2_with fail
      refine HV11.out.mono ?_
      rintro e w12 ⟨rfl, b12⟩
      have B12 := Lib.hid b12
      have BY12 := Lib.hid (BY11.out.below b12 (Nat.le_refl _))
      have CF12 := Lib.hid (CF11.out.below b12 (Nat.le_refl _))
      have HB12 := Lib.hid (HB11.out.trans (b12.mono HB11.out.size))
      clear b12 y0 y1 y2 y3 y4 y5 BY11 CF11
      obtain ⟨y0, y1, y2, y3, y4, y5, _⟩ := BY12.out
      obtain ⟨q0, q1, _, _⟩ := CF12.out
      go_wp2_with fail
      refine (HWY.out _ B12.out).mono ?_
      rintro e w13 ⟨rfl, b13⟩
      have CF13 := Lib.hid (CF12.out.below b13 (Nat.le_refl _))
      have HB13 := Lib.hid (HB12.out.trans (b13.mono HB12.out.size))
      clear b13 y0 y1 y2 y3 y4 y5 q0 q1 BY12 CF12
      have HQ := Lib.hid (Qg.read_any fc F fp fk _ (HE.out _ HB13.out) (HF.out _ HB13.out) HP2.out)
      rw [HRN.out] at HQ
      obtain ⟨q0, q1, _, _⟩ := CF13.out
      go_wp2_with fail
      with_reducible refine HQ.out.mono ?_
      rintro e w14 ⟨z, rfl, _, _, _, b14⟩
      have HB14 := Lib.hid (HB13.out.trans (b14.mono HB13.out.size))
      simp only [Option.isSome_none, Bool.false_eq_true, if_false]
      clear b14 q0 q1 HQ
      unfold Qe.comV
      go_upto_region 10 with fail
      have HBa : Hid (∀ o, Below w.heap.size w (w14.alloc o)) := fun o => HB14.out.alloc HB14.out.size o
      generalize hwz : w14.alloc _ = wz
      have HBz : Hid (Below w.heap.size w wz) := by show Below _ _ _; rw [← hwz]; exact HBa.out _
      clear hwz
      go_wp2_with fail
      refine (HK.out _ HBz.out).mono ?_
      rintro e wy ⟨rfl, by_⟩
      have HBy := Lib.hid (HBz.out.trans (by_.mono HBz.out.size))
      clear by_
      go_wp2_with fail
      go_ret
      exact ⟨rfl, HBy.out⟩
end Go.Proofs.YthlfahblnpijaaaDoor.Szd
