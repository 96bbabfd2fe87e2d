/- Proves that the law RequestWrites returns true. Conditions: the table is laid; an argument's parts below the form's own bound. -/
import Derived.Test.YtefadkdngcbpiaaDoorQl
import Derived.Test.YtefadkdngcbpiaaDoorQt
import Derived.Test.YtefadkdngcbpiaaDoorQzb
namespace Go.Proofs.YtefadkdngcbpiaaDoor.Qzc
open Go.RowKit Vm Ap Vw Va Gc Mi Mb Qm Qs Qe Qo Qc Qw Qf Qg Qk Ql Qt Qj Qjd Qza Qzb Fm Fw

theorem cpy_cap {B b1 b2 : Nat} {w : World} {y : Com} (h : Cpy B w y b1 b2) (hB : B ≤ w.heap.size) : Cpy B w y (min b1 w.heap.size) (min b2 w.heap.size) ∧ ∀ a, y.KA = some a → a.block < w.heap.size := by
  have g1 := h.h1; have g2 := h.h2
  obtain ⟨A, c, s1⟩ := own_shape h.ov
  obtain ⟨A', c', s2⟩ := ows_shape h.ot
  obtain ⟨A'', c'', s3⟩ := ows_shape h.ok
  have e1 := s1.val; have e2 := s2.val; have e3 := s3.val
  simp only [Value.slice.injEq, true_and] at e1 e2 e3
  refine ⟨⟨h.ov, ows_base h.ot (Nat.min_le_left _ _), ows_base h.ok (Nat.min_le_left _ _), by omega, by omega, fun a ha => ?_, fun a ha => ?_⟩, fun a ha => (s3.base a (by rw [← e3.1]; exact ha)).2⟩
  · have := h.hv a ha; have := (s1.base a (by rw [← e1.1]; exact ha)).2; omega
  · have := h.ht a ha; have := (s2.base a (by rw [← e2.1]; exact ha)).2; omega
set_option maxRecDepth 100000 in
set_option maxHeartbeats 16000000 in
theorem writes_walk (x : Com) (w : World) (he : Env w) (hr : Rc w x) (hl : LimC x.c) :
    Calls Tryd.prog 5 #[comV x] w (boolOf true w) := by
  obtain ⟨w0, hw0⟩ : ∃ w0, w0 = w.alloc (comO x) := ⟨_, rfl⟩
  have B0 : Below w.heap.size w w0 := by rw [hw0]; exact alloc_below _ _
  have BX0 : Hid (Box w0 w.heap.size x) := by show Box _ _ _; rw [hw0]; exact Box.new w x
  have HB0 := Lib.hid B0
  have HE := Lib.hid (fun W (h : Below w.heap.size w W) => he.below h (Nat.le_refl _))
  have HR := Lib.hid (fun W (h : Below w.heap.size w W) => hr.below h (Nat.le_refl _))
  have HL := Lib.hid (light_any x w0 (HR.out _ B0) hl)
  have HK := Lib.hid (fun W (h : Below w.heap.size w W) => known_any W (HE.out _ h))
  unfold comV at HL ⊢
  unfold comO at hw0
  clear B0 he hr hl
  obtain ⟨c0, c1, c2, c3, c4, c5, c6, c7, c8, c9, _⟩ := BX0.out
  go_enter Tryd.func5, Tryd.ntmps5
  go_upto_region 1 with fail
  rw [← hw0]
  clear hw0
  obtain ⟨C, hC⟩ : ∃ C, C = w.heap.size := ⟨_, rfl⟩
  rw [← hC] at BX0 c0 c1 c2 c3 c4 c5 c6 c7 c8 c9
  rw [← hC]
  have HC := Lib.hid hC
  clear hC
  go_wp2_with fail
  refine HL.out.mono ?_
  rintro e w1 ⟨lb, rfl, b1, hlt⟩
  have BX1 := Lib.hid (BX0.out.below b1 (Nat.le_refl _))
  have HB1 := Lib.hid (HB0.out.trans (b1.mono HB0.out.size))
  have HLT := Lib.hid hlt
  clear b1 hlt c0 c1 c2 c3 c4 c5 c6 c7 c8 c9 BX0 HB0 HL
  cases lb
  · go_wp2_with fail
    refine (HK.out _ HB1.out).mono ?_
    rintro e w2 ⟨rfl, b2⟩
    have HB2 := Lib.hid (HB1.out.trans (b2.mono HB1.out.size))
    clear b2
    go_wp2_with fail
    go_ret
    exact ⟨rfl, HB2.out⟩
  have LC := Lib.hid (HLT.out rfl)
  have HV : Hid (Calls Tryd.prog 12 #[comV x] w1 (boolOf (validG x.c) w1)) := by
    have h := Qjc.rvalid_any x w1 (HR.out _ HB1.out) LC.out.bnd
    rw [valid_same] at h; exact h
  unfold comV at HV
  obtain ⟨c0, c1, c2, c3, c4, c5, c6, c7, c8, c9, _⟩ := BX1.out
  go_wp2_with fail
  refine HV.out.mono ?_
  rintro e w2 ⟨rfl, b2⟩
  have BX2 := Lib.hid (BX1.out.below b2 (Nat.le_refl _))
  have HB2 := Lib.hid (HB1.out.trans (b2.mono HB1.out.size))
  clear b2 c0 c1 c2 c3 c4 c5 c6 c7 c8 c9 BX1 HB1 HLT HV
  obtain ⟨c0, c1, c2, c3, c4, c5, c6, c7, c8, c9, _⟩ := BX2.out
  by_cases hv : validG x.c = true
  rotate_left
  · have hv' : validG x.c = false := by simpa using hv
    have HW := Lib.hid (writes_at x 0 none [] 0 0 2 0 w2 rfl rfl (HE.out _ HB2.out) (HR.out _ HB2.out) LC.out.bnd LC.out.keys LC.out.tags (Rb.nil _ _) (wr_no hv'))
    unfold comV at HW
    rw [hv']
    clear hv hv'
    go_wp2_with fail
    refine HW.out.mono ?_
    rintro e w3 ⟨rfl, b3⟩
    have HB3 := Lib.hid (HB2.out.trans (b3.mono HB2.out.size))
    clear b3
    go_wp2_with fail
    refine (HK.out _ HB3.out).mono ?_
    rintro e w4 ⟨rfl, b4⟩
    have HB4 := Lib.hid (HB3.out.trans (b4.mono HB3.out.size))
    clear b4
    go_wp2_with fail
    go_ret
    exact ⟨rfl, HB4.out⟩
  have HWE : Hid (wrE x.c = 0 ∧ wrC x.c = x.c.op ∧ wrP x.c = payR x.c) := by show _ ∧ _ ∧ _; unfold wrE wrC wrP; simp [hv]
  have hop : 0 ≤ x.c.op ∧ x.c.op ≤ 15 := by obtain ⟨k, hk, e, _⟩ := in_cases (valid_in hv); omega
  have HCU := Lib.hid (codeU_int hop)
  have HM : Hid (x.c.op % 256 = x.c.op) := by show _ = _; omega
  rw [hv]
  have HCP := Lib.hid (copies_any x w2 (HR.out _ HB2.out) LC.out.bnd)
  unfold comV at HCP
  clear hv hop
  go_wp2_with fail
  refine HCP.out.mono ?_
  rintro e w3 ⟨y, p1, p2, rfl, hyc, hcp, b3⟩
  obtain ⟨hcp', hka⟩ := cpy_cap hcp b3.size
  have HYC := Lib.hid hyc
  have HYB : Hid (Bnd y.c) := by show Bnd _; rw [hyc]; exact LC.out.bnd
  have HY40 : Hid (y.c.keys.length ≤ 40 ∧ y.c.tags.length ≤ 40) := by show _ ∧ _; rw [hyc]; exact ⟨LC.out.keys, LC.out.tags⟩
  have CP := Lib.hid hcp'
  have KA := Lib.hid hka
  have BX3 := Lib.hid (BX2.out.below b3 (Nat.le_refl _))
  have HB3 := Lib.hid (HB2.out.trans (b3.mono HB2.out.size))
  have HZ23 := Lib.hid b3.size
  have HCL : Hid (C < w2.heap.size) := BX2.out.lt
  clear b3 hyc hcp hcp' hka c0 c1 c2 c3 c4 c5 c6 c7 c8 c9 BX2 HCP
  unfold comV
  go_upto_region 6 with fail
  obtain ⟨w4, hw4⟩ : ∃ w4, w4 = w3.alloc (comO y) := ⟨_, rfl⟩
  have b4 : Below w3.heap.size w3 w4 := by rw [hw4]; exact alloc_below _ _
  have BY4 : Hid (Box w4 w3.heap.size y) := by show Box _ _ _; rw [hw4]; exact Box.new w3 y
  have BX4 := Lib.hid (BX3.out.below b4 (Nat.le_refl _))
  have HB4 := Lib.hid (HB3.out.trans (b4.mono HB3.out.size))
  have CP4 := Lib.hid (CP.out.below b4 (Nat.le_refl _))
  have HZ34 := Lib.hid b4.size
  unfold comO at hw4
  rw [← hw4]
  obtain ⟨N, hN⟩ : ∃ N, N = w3.heap.size := ⟨_, rfl⟩
  rw [← hN] at BY4 HZ34 KA HZ23 CP4
  rw [← hN]
  clear hw4 b4 CP BX3 HB3 hN
  have HW : Hid (Calls Tryd.prog 20 #[comV y] w4 (wrPost w4 x.c.op (payR x.c) 0)) := by
    have h := write_any y w4 (HE.out _ HB4.out) CP4.out.rc HYB.out HY40.out.1 HY40.out.2
    rw [HYC.out, HWE.out.1, HWE.out.2.1, HWE.out.2.2] at h; exact h
  unfold comV at HW
  obtain ⟨d0, d1, d2, d3, d4, d5, d6, d7, d8, d9, _⟩ := BY4.out
  go_upto_region 7 with (refine HW.out.mono ?_; rintro e w5 ⟨X, d, rfl, hf, b5⟩)
  obtain ⟨w6, hw6⟩ : ∃ w6, w6 = w5.alloc (.cells #[.int .u8 x.c.op, .slice X (payR x.c).length d] 42) := ⟨_, rfl⟩
  have b6 : Below w5.heap.size w5 w6 := by rw [hw6]; exact alloc_below _ _
  have b46 : Below w4.heap.size w4 w6 := b5.trans (b6.mono b5.size)
  have CX6 : Hid (Cel w6 w5.heap.size (.int .u8 x.c.op) (.slice X (payR x.c).length d)) := by show Cel _ _ _ _; rw [hw6]; exact Cel.new _ _ _ _
  have FX6 := Lib.hid (hf.rd.below b6 (Nat.le_refl _))
  have FXB : Hid (∀ a, X = some a → w4.heap.size ≤ a.block) := fun a ha => (hf.base a ha).1
  have FXN := Lib.hid hf.non
  have BX6 := Lib.hid (BX4.out.below b46 (Nat.le_refl _))
  have BY6 := Lib.hid (BY4.out.below b46 (Nat.le_refl _))
  have CP6 := Lib.hid (CP4.out.below b46 (Nat.le_refl _))
  have HB6 := Lib.hid (HB4.out.trans (b46.mono HB4.out.size))
  have HZ46 := Lib.hid b46.size
  have HZ45 := Lib.hid b5.size
  rw [← hw6]
  obtain ⟨fx, hfx⟩ : ∃ fx, fx = w5.heap.size := ⟨_, rfl⟩
  rw [← hfx] at CX6 HZ45
  rw [← hfx]
  have HEQ : Hid (Calls Tryd.prog 14 #[comV y, comV x] w6 (boolOf true w6)) := by
    have h := Qr.requal_any y x w6 CP6.out.rc (HR.out _ HB6.out) HYB.out LC.out.bnd
    rw [HYC.out, eqC_self] at h; exact h
  unfold comV at HEQ
  clear hw6 b6 b46 hf b5 hfx d0 d1 d2 d3 d4 d5 d6 d7 d8 d9 BX4 BY4 CP4 HW HB4
  obtain ⟨c0, c1, c2, c3, c4, c5, c6, c7, c8, c9, _⟩ := BX6.out
  obtain ⟨d0, d1, d2, d3, d4, d5, d6, d7, d8, d9, _⟩ := BY6.out
  go_wp2_with fail
  refine HEQ.out.mono ?_
  rintro e w7 ⟨rfl, b7⟩
  have BX7 := Lib.hid (BX6.out.below b7 (Nat.le_refl _))
  have BY7 := Lib.hid (BY6.out.below b7 (Nat.le_refl _))
  have CX7 := Lib.hid (CX6.out.below b7 (Nat.le_refl _))
  have FX7 := Lib.hid (FX6.out.below b7 (Nat.le_refl _))
  have CP7 := Lib.hid (CP6.out.below b7 (Nat.le_refl _))
  have HB7 := Lib.hid (HB6.out.trans (b7.mono HB6.out.size))
  have HZ7 := Lib.hid b7.size
  clear b7 c0 c1 c2 c3 c4 c5 c6 c7 c8 c9 d0 d1 d2 d3 d4 d5 d6 d7 d8 d9 BX6 BY6 CX6 FX6 CP6 HB6 HEQ
  have HSP := Lib.hid (spoil_any w2.heap.size N _ _ y w7 CP7.out HYB.out (by have := HZ34.out; have := HZ46.out; have := HZ7.out; omega) (Nat.min_le_right _ _) (Nat.min_le_right _ _) KA.out)
  unfold comV at HSP
  obtain ⟨d0, d1, d2, d3, d4, d5, d6, d7, d8, d9, _⟩ := BY7.out
  go_wp2_with fail
  refine HSP.out.mono ?_
  rintro e w8 ⟨rfl, o8⟩
  have HCx : Hid (C < w2.heap.size ∧ N ≤ w4.heap.size ∧ w4.heap.size ≤ fx) := ⟨HCL.out, HZ34.out, HZ45.out⟩
  have BX8 := Lib.hid (BX7.out.only o8 (fun hm => by have := hm.1; have := HCx.out.1; omega))
  have nfx : ¬ Mid w2.heap.size N fx := fun hm => by have := hm.2; have := HCx.out.2; omega
  have lfx := CX7.out.lt
  have z0 : w8.cell? ⟨fx, 0, none⟩ = some (.int .u8 x.c.op) := by rw [o8.cell (a := ⟨fx, 0, none⟩) lfx nfx]; exact CX7.out.c0
  have z1 : w8.cell? ⟨fx, 1, none⟩ = some (.slice X (payR x.c).length d) := by rw [o8.cell (a := ⟨fx, 1, none⟩) lfx nfx]; exact CX7.out.c1
  have lfx8 : fx < w8.heap.size := Nat.lt_of_lt_of_le lfx o8.size
  have FX8 := Lib.hid (rb_only FX7.out o8 (fun a ha hm => by have := hm.2; have := FXB.out a ha; have := HCx.out.2; omega))
  have hCL := HC.out
  have hB2s := HB2.out.size
  have HB8 : Hid (Below w.heap.size w w8) := HB7.out.trans (o8.below (fun j hm => by have := hm.1; omega) HB7.out.size)
  clear o8 nfx lfx d0 d1 d2 d3 d4 d5 d6 d7 d8 d9 BX7 BY7 CX7 FX7 CP7 HB7 HSP hCL hB2s

  have k0 : ∀ v, Below w8.heap.size w8 v → v.cell? ⟨C, 0, none⟩ = some (.int .i64 x.c.op) := fun v h => (BX8.out.below h (Nat.le_refl _)).c0
  have k1 : ∀ v, Below w8.heap.size w8 v → v.cell? ⟨C, 1, none⟩ = some (.string ⟨x.c.key.toArray⟩) := fun v h => (BX8.out.below h (Nat.le_refl _)).c1
  have k2 : ∀ v, Below w8.heap.size w8 v → v.cell? ⟨C, 2, none⟩ = some (.slice x.KA x.c.keys.length x.kc) := fun v h => (BX8.out.below h (Nat.le_refl _)).c2
  have k3 : ∀ v, Below w8.heap.size w8 v → v.cell? ⟨C, 3, none⟩ = some (.slice x.VA x.c.value.length x.vc) := fun v h => (BX8.out.below h (Nat.le_refl _)).c3
  have k4 : ∀ v, Below w8.heap.size w8 v → v.cell? ⟨C, 4, none⟩ = some (.slice x.TA x.c.tags.length x.tc) := fun v h => (BX8.out.below h (Nat.le_refl _)).c4
  have k5 : ∀ v, Below w8.heap.size w8 v → v.cell? ⟨C, 5, none⟩ = some (.int .u64 (x.c.life : Int)) := fun v h => (BX8.out.below h (Nat.le_refl _)).c5
  have k6 : ∀ v, Below w8.heap.size w8 v → v.cell? ⟨C, 6, none⟩ = some (.int .u64 (x.c.version : Int)) := fun v h => (BX8.out.below h (Nat.le_refl _)).c6
  have k7 : ∀ v, Below w8.heap.size w8 v → v.cell? ⟨C, 7, none⟩ = some (.string ⟨x.c.tag.toArray⟩) := fun v h => (BX8.out.below h (Nat.le_refl _)).c7
  have k8 : ∀ v, Below w8.heap.size w8 v → v.cell? ⟨C, 8, none⟩ = some (.string ⟨x.c.pre.toArray⟩) := fun v h => (BX8.out.below h (Nat.le_refl _)).c8
  have k9 : ∀ v, Below w8.heap.size w8 v → v.cell? ⟨C, 9, none⟩ = some (.string ⟨x.c.child.toArray⟩) := fun v h => (BX8.out.below h (Nat.le_refl _)).c9
  have f0 : ∀ v, Below w8.heap.size w8 v → v.cell? ⟨fx, 0, none⟩ = some (.int .u8 x.c.op) := fun v h => by rw [h.cell (p := ⟨fx, 0, none⟩) lfx8]; exact z0
  have f1 : ∀ v, Below w8.heap.size w8 v → v.cell? ⟨fx, 1, none⟩ = some (.slice X (payR x.c).length d) := fun v h => by rw [h.cell (p := ⟨fx, 1, none⟩) lfx8]; exact z1
  have T : Hid (∀ W, Below w8.heap.size w8 W → Below w.heap.size w W) := fun W h => HB8.out.trans (h.mono HB8.out.size)
  have F1 : Hid (∀ W, Below w8.heap.size w8 W → Calls Tryd.prog 23 #[comV x] W (rwPost W x)) := fun W h => rwr_any x W (HR.out _ (T.out _ h)) LC.out.bnd ⟨LC.out.tags, LC.out.keys⟩
  have F2 : Hid (∀ W A k, Below w8.heap.size w8 W → Rb W A (payR x.c) → Calls Tryd.prog 22 #[.agg #[.int .u8 x.c.op, .slice X (payR x.c).length d], .agg #[.int .u8 (x.c.op % 256), .slice A (payR x.c).length k]] W (boolOf true W)) := fun W A k h hA => by
    have q := Fw.requal_any (codeU x.c.op) (codeU x.c.op) X A (payR x.c) (payR x.c) d k W (FX8.out.below h (Nat.le_refl _)) hA
    rw [HCU.out, eqv_self] at q
    rw [HM.out]; exact q
  have F7 : Hid (∀ W, Below w8.heap.size w8 W → Calls Tryd.prog 10 #[] W (boolOf true W)) := fun W h => HK.out _ (T.out _ h)
  unfold comV at F1
  unfold rwPost at F1
  generalize x.c.op % 256 = cm at *
  clear HM z0 z1
  go_wp2_with fail
  refine wp_region_noPanic ?_
  refine wp_region_held_drew (S := fun v => Below w8.heap.size w8 v) (by kernel_rfl) ((Below.refl _ _).drew) (fun hHeld => ?_)
  refine wpAnyH_take (i := 0) (oi := ⟨some 32, _, _, _, _, _⟩) (v := ?_) rfl (by kernel_rfl) (by kernel_rfl) (by kernel_rfl) (fun _ _ _ h => h) (Or.inl ⟨by rfl, ?_⟩) (by assumption) ?_
  rotate_left
  · intro w hSw; go_simp; first | done | with_reducible rfl
  try simp only [Act.put, List.setIfInBounds_toArray, List.set_cons_zero, List.set_cons_succ]
  refine wpAnyH_take (i := 1) (oi := ⟨some 33, _, _, _, _, _⟩) (v := ?_) rfl (by kernel_rfl) (by kernel_rfl) (by kernel_rfl) (fun _ _ _ h => h) (Or.inl ⟨by rfl, ?_⟩) (by assumption) ?_
  rotate_left
  · intro w hSw; go_simp; first | done | with_reducible rfl
  try simp only [Act.put, List.setIfInBounds_toArray, List.set_cons_zero, List.set_cons_succ]
  refine wpAnyH_ready (rs := [2]) (by kernel_rfl) (by simp) ?_
  refine AllReadyH.cons (o := ⟨some 34, _, _, _, _, _⟩) rfl (fun K hK => ?_) AllReadyH.nil
  go_simp
  with_reducible refine (F1.out _ hHeld).mono ?_
  rintro e u1 ⟨A, k, rfl, hfa, b1⟩
  have HU1 : Hid (Below w8.heap.size w8 u1) := hHeld.trans (b1.mono hHeld.size)
  have HQ := Lib.hid (F2.out _ A k HU1.out hfa.rd)
  clear hfa
  clear b1
  go_simp
  refine hK.out _ _ (HU1.out) (fun hHeld => ?_)
  clear hK K
  try simp only [Act.put, List.setIfInBounds_toArray, List.set_cons_zero, List.set_cons_succ]
  refine wpAnyH_ready (rs := [3]) (by kernel_rfl) (by simp) ?_
  refine AllReadyH.cons (o := ⟨some 35, _, _, _, _, _⟩) rfl (fun K hK => ?_) AllReadyH.nil
  go_simp
  with_reducible refine (HQ.out).mono ?_
  rintro e u2 ⟨rfl, b2⟩
  have HU2 : Hid (Below w8.heap.size w8 u2) := hHeld.trans (b2.mono hHeld.size)
  clear b2
  go_simp
  refine hK.out _ _ (HU2.out) (fun hHeld => ?_)
  clear hK K
  try simp only [Act.put, List.setIfInBounds_toArray, List.set_cons_zero, List.set_cons_succ]
  refine wpAnyH_take (i := 4) (oi := ⟨some 36, _, _, _, _, _⟩) (v := ?_) rfl (by kernel_rfl) (by kernel_rfl) (by kernel_rfl) (fun _ _ _ h => h) (Or.inl ⟨by rfl, ?_⟩) (by assumption) ?_
  rotate_left
  · intro w hSw; go_simp; first | done | with_reducible rfl
  try simp only [Act.put, List.setIfInBounds_toArray, List.set_cons_zero, List.set_cons_succ]
  refine wpAnyH_take (i := 5) (oi := ⟨some 37, _, _, _, _, _⟩) (v := ?_) rfl (by kernel_rfl) (by kernel_rfl) (by kernel_rfl) (fun _ _ _ h => h) (Or.inl ⟨by rfl, ?_⟩) (by assumption) ?_
  rotate_left
  · intro w hSw; go_simp; first | done | with_reducible rfl
  try simp only [Act.put, List.setIfInBounds_toArray, List.set_cons_zero, List.set_cons_succ]
  refine wpAnyH_take (i := 6) (oi := ⟨some 38, _, _, _, _, _⟩) (v := ?_) rfl (by kernel_rfl) (by kernel_rfl) (by kernel_rfl) (fun _ _ _ h => h) (Or.inl ⟨by rfl, ?_⟩) (by assumption) ?_
  rotate_left
  · intro w hSw; go_simp; first | done | with_reducible rfl
  try simp only [Act.put, List.setIfInBounds_toArray, List.set_cons_zero, List.set_cons_succ]
  refine wpAnyH_take (i := 7) (oi := ⟨some 39, _, _, _, _, _⟩) (v := ?_) rfl (by kernel_rfl) (by kernel_rfl) (by kernel_rfl) (fun _ _ _ h => h) (Or.inl ⟨by rfl, ?_⟩) (by assumption) ?_
  rotate_left
  · intro w hSw; go_simp; first | done | with_reducible rfl
  try simp only [Act.put, List.setIfInBounds_toArray, List.set_cons_zero, List.set_cons_succ]
  refine wpAnyH_take (i := 8) (oi := ⟨some 40, _, _, _, _, _⟩) (v := ?_) rfl (by kernel_rfl) (by kernel_rfl) (by kernel_rfl) (fun _ _ _ h => h) (Or.inl ⟨by rfl, ?_⟩) (by assumption) ?_
  rotate_left
  · intro w hSw; go_simp; first | done | with_reducible rfl
  try simp only [Act.put, List.setIfInBounds_toArray, List.set_cons_zero, List.set_cons_succ]
  refine wpAnyH_ready (rs := [9]) (by kernel_rfl) (by simp) ?_
  refine AllReadyH.cons (o := ⟨some 41, _, _, _, _, _⟩) rfl (fun K hK => ?_) AllReadyH.nil
  go_simp
  with_reducible refine (F7.out _ hHeld).mono ?_
  rintro e u7 ⟨rfl, b7⟩
  have HU7 : Hid (Below w8.heap.size w8 u7) := hHeld.trans (b7.mono hHeld.size)
  clear b7
  go_simp
  refine hK.out _ _ (HU7.out) (fun hHeld => ?_)
  clear hK K
  try simp only [Act.put, List.setIfInBounds_toArray, List.set_cons_zero, List.set_cons_succ]
  refine wpAnyH_take (i := 10) (oi := ⟨some 42, _, _, _, _, _⟩) (v := ?_) rfl (by kernel_rfl) (by kernel_rfl) (by kernel_rfl) (fun _ _ _ h => h) (Or.inl ⟨by rfl, ?_⟩) (by assumption) ?_
  rotate_left
  · intro w hSw; go_simp; first | done | with_reducible rfl
  try simp only [Act.put, List.setIfInBounds_toArray, List.set_cons_zero, List.set_cons_succ]
  refine wpAnyH_take (i := 11) (oi := ⟨some 2, _, _, _, _, _⟩) (v := ?_) rfl (by kernel_rfl) (by kernel_rfl) (by kernel_rfl) (fun _ _ _ h => h) (Or.inl ⟨by rfl, ?_⟩) (by assumption) ?_
  rotate_left
  · intro w hSw; go_simp; first | done | with_reducible rfl
  try simp only [Act.put, List.setIfInBounds_toArray, List.set_cons_zero, List.set_cons_succ]
  refine wpAnyH_done (by kernel_rfl) ?_ _
  refine NoPanic.normal ?_
  go_wp2_with fail
  go_ret
  exact ⟨rfl, T.out _ HU7.out⟩
end Go.Proofs.YtefadkdngcbpiaaDoor.Qzc
