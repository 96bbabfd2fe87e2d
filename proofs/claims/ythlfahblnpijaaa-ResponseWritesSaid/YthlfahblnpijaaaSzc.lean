/- Proves that the law ResponseWrites returns true. Condition: an argument's parts below the form's own bound. -/
import Derived.Test.YthlfahblnpijaaaSl
import Derived.Test.YthlfahblnpijaaaSja
import Derived.Test.YthlfahblnpijaaaSjc
import Derived.Test.YthlfahblnpijaaaSv
import Derived.Test.YthlfahblnpijaaaSw
import Derived.Test.YthlfahblnpijaaaSt
namespace Go.Proofs.Ythlfahblnpijaaa.Szc
open Go.RowKit Vm Ap Vw Va Gc Mi Mb Qm Sm Se So Sx Sw Sk Sja Sjb Sjc Fm Fw

theorem bnd_same {x z : Res} (h : BndS x) (e : z.r = x.r) : BndS z := by
  have e1 : z.op = x.op := congrArg Rsp.op e
  have e2 : z.err = x.err := congrArg Rsp.err e
  have e3 : z.items.map (·.i) = x.items.map (·.i) := congrArg Rsp.items e
  have e4 : z.version = x.version := congrArg Rsp.version e
  have e5 : z.count = x.count := congrArg Rsp.count e
  have e6 : z.numbers = x.numbers := congrArg Rsp.numbers e
  have el : z.items.length = x.items.length := by have := congrArg List.length e3; simpa using this
  refine ⟨by rw [e1]; exact h.op1, by rw [e1]; exact h.op2, by rw [e2]; exact h.err1, by rw [e2]; exact h.err2, by rw [e5]; exact h.count1, by rw [e5]; exact h.count2, by rw [e4]; exact h.version, by rw [el]; exact h.items, by rw [e6]; exact h.numbers, fun y hy => ?_, by rw [e6]; exact h.nums⟩
  have hm : y.i ∈ x.items.map (·.i) := by rw [← e3]; exact List.mem_map_of_mem hy
  obtain ⟨q, hq, eq⟩ := List.mem_map.1 hm
  have := h.each q hq
  rw [eq] at this
  exact this
theorem mark_ge {x : Itm} (h : okI x = true) : 0 ≤ x.mark := by
  unfold okI at h
  simp only [Bool.and_eq_true, decide_eq_true_eq] at h
  exact h.2.1
theorem in_cpy {K : Nat} {w : World} {y : Res} (h : CpS K w y) : In K w.heap.size y :=
  ⟨fun _ ha => ⟨(h.mi.base ha).1, (h.mi.base ha).2.1⟩, fun z hz _ ha => ⟨((h.mv z hz).1.base ha).1, ((h.mv z hz).1.base ha).2.1⟩, fun _ ha => ⟨(Mine.base h.mn ha).1, (Mine.base h.mn ha).2.1⟩⟩
set_option maxRecDepth 100000 in
set_option maxHeartbeats 16000000 in
theorem writes_walk (x : Res) (w : World) (hr : RRc w x) (hl : LimS x) :
    Calls Try.prog 4 #[resV x] w (boolOf true w) := by
  obtain ⟨w0, hw0⟩ : ∃ w0, w0 = w.alloc (resO x) := ⟨_, rfl⟩
  have B0 : Below w.heap.size w w0 := by rw [hw0]; exact alloc_below _ _
  have BX0 : Hid (BoxS w0 w.heap.size x) := by show BoxS _ _ _; rw [hw0]; exact BoxS.new w x
  have HB0 := Lib.hid B0
  have HR := Lib.hid (fun W (h : Below w.heap.size w W) => hr.below h (Nat.le_refl _))
  have HL := Lib.hid (light_any x w0 (HR.out _ B0) hl)
  have HK := Lib.hid (fun W (h : Below w.heap.size w W) => Sl.known_any W)
  unfold resV at HL ⊢
  unfold resO at hw0
  clear B0 hr hl
  obtain ⟨c0, c1, c2, c3, c4, c5, _⟩ := BX0.out
  go_enter Try.func4, Try.ntmps4
  go_upto_region 1 with fail
  rw [← hw0]
  clear hw0
  obtain ⟨C, hC⟩ : ∃ C, C = w.heap.size := ⟨_, rfl⟩
  rw [← hC] at BX0 c0 c1 c2 c3 c4 c5
  rw [← hC]
  have HC := Lib.hid hC
  clear hC
  go_wp2_with fail
  refine HL.out.mono ?_
  rintro e w1 ⟨lb, rfl, b1, hlt⟩
  have BX1 := Lib.hid (BX0.out.below b1 (Nat.le_refl _))
  have HB1 := Lib.hid (HB0.out.trans (b1.mono HB0.out.size))
  have HLT := Lib.hid hlt
  clear b1 hlt c0 c1 c2 c3 c4 c5 BX0 HB0 HL
  cases lb
  · go_wp2_with fail
    refine (HK.out _ HB1.out).mono ?_
    rintro e w2 ⟨rfl, b2⟩
    have HB2 := Lib.hid (HB1.out.trans (b2.mono HB1.out.size))
    clear b2
    go_wp2_with fail
    go_ret
    exact ⟨rfl, HB2.out⟩
  have LC := Lib.hid (HLT.out rfl)
  have HV : Hid (Calls Try.prog 10 #[resV x] w1 (boolOf (validS x.r) w1)) := Sv.rvalid_any x w1 (HR.out _ HB1.out) LC.out.bnd
  unfold resV at HV
  obtain ⟨c0, c1, c2, c3, c4, c5, _⟩ := BX1.out
  go_wp2_with fail
  refine HV.out.mono ?_
  rintro e w2 ⟨rfl, b2⟩
  have BX2 := Lib.hid (BX1.out.below b2 (Nat.le_refl _))
  have HB2 := Lib.hid (HB1.out.trans (b2.mono HB1.out.size))
  clear b2 c0 c1 c2 c3 c4 c5 BX1 HB1 HLT HV
  obtain ⟨c0, c1, c2, c3, c4, c5, _⟩ := BX2.out
  by_cases hv : validS x.r = true
  rotate_left
  · have hv' : validS x.r = false := by simpa using hv
    have HW : Hid (Calls Try.prog 15 #[resV x, .agg #[.int .u8 0, .slice none 0 0], .int .i64 2] w2 (boolOf true w2)) := by
      have h := writes_any x 0 none [] 0 2 w2 (HR.out _ HB2.out) LC.out.bnd (Rb.nil _ _)
      rw [wrB_true (by unfold wrC; rw [hv']; rfl) (by unfold wrP; rw [hv']; rfl) (by unfold wrE; rw [hv']; rfl)] at h
      exact h
    unfold resV at HW
    rw [hv']
    clear hv hv'
    go_wp2_with fail
    refine HW.out.mono ?_
    rintro e w3 ⟨rfl, b3⟩
    have HB3 := Lib.hid (HB2.out.trans (b3.mono HB2.out.size))
    clear b3
    go_wp2_with fail
    refine (HK.out _ HB3.out).mono ?_
    rintro e w4 ⟨rfl, b4⟩
    have HB4 := Lib.hid (HB3.out.trans (b4.mono HB3.out.size))
    clear b4
    go_wp2_with fail
    go_ret
    exact ⟨rfl, HB4.out⟩
  have HWE : Hid (wrE x.r = 0 ∧ wrC x.r = 64 + x.op ∧ wrP x.r = payS x.r) := by show _ ∧ _ ∧ _; unfold wrE wrC wrP; rw [hv]; exact ⟨rfl, rfl, rfl⟩
  obtain ⟨⟨v1, v2⟩, ⟨v3, -⟩, -, -, v5, -, -, ⟨v6, -⟩, -⟩ := valid_has hv
  have HVV : Hid (0 ≤ x.op ∧ x.op ≤ 15 ∧ 0 ≤ x.err ∧ 0 ≤ x.count ∧ ∀ y ∈ x.items, 0 ≤ y.i.mark) := ⟨v1, v2, v3, v6, fun y hy => mark_ge (v5 y.i (List.mem_map_of_mem hy))⟩
  have hop : 0 ≤ 64 + x.op ∧ 64 + x.op ≤ 79 := by have h1 := HVV.out.1; have h2 := HVV.out.2.1; omega
  have HCU := Lib.hid (codeU_int hop)
  clear hop
  obtain ⟨code, hcode⟩ : ∃ code, code = 64 + x.op := ⟨_, rfl⟩
  obtain ⟨P, hP⟩ : ∃ P, P = payS x.r := ⟨_, rfl⟩
  rw [← hcode] at HCU HWE
  rw [← hP] at HWE
  have HCE := Lib.hid hcode
  have HPE := Lib.hid hP
  clear hcode hP
  rw [hv]
  have HCP := Lib.hid (copies_any x w2 (HR.out _ HB2.out) LC.out.bnd)
  unfold resV at HCP
  clear hv v1 v2 v3 v5 v6
  go_wp2_with fail
  refine HCP.out.mono ?_
  rintro e w3 ⟨y, rfl, hyc, -, hcp, b3⟩
  have HYC := Lib.hid hyc
  have HYB : Hid (BndS y) := bnd_same LC.out.bnd hyc
  have CP := Lib.hid hcp
  have KA := Lib.hid (in_cpy hcp)
  have BX3 := Lib.hid (BX2.out.below b3 (Nat.le_refl _))
  have HB3 := Lib.hid (HB2.out.trans (b3.mono HB2.out.size))
  have HZ23 := Lib.hid b3.size
  have HCL : Hid (C < w2.heap.size) := BX2.out.lt
  clear b3 hyc hcp c0 c1 c2 c3 c4 c5 BX2 HCP
  unfold resV
  go_upto_region 6 with fail
  obtain ⟨w4, hw4⟩ : ∃ w4, w4 = w3.alloc (resO y) := ⟨_, rfl⟩
  have b4 : Below w3.heap.size w3 w4 := by rw [hw4]; exact alloc_below _ _
  have BY4 : Hid (BoxS w4 w3.heap.size y) := by show BoxS _ _ _; rw [hw4]; exact BoxS.new w3 y
  have BX4 := Lib.hid (BX3.out.below b4 (Nat.le_refl _))
  have HB4 := Lib.hid (HB3.out.trans (b4.mono HB3.out.size))
  have CP4 := Lib.hid (CP.out.below b4 (Nat.le_refl _))
  have HZ34 := Lib.hid b4.size
  unfold resO at hw4
  rw [← hw4]
  obtain ⟨N, hN⟩ : ∃ N, N = w3.heap.size := ⟨_, rfl⟩
  rw [← hN] at BY4 HZ34 KA HZ23
  rw [← hN]
  clear hw4 b4 CP BX3 HB3 hN
  have HW : Hid (Calls Try.prog 16 #[resV y] w4 (wrPost w4 code (P) 0)) := by
    have h := write_any y w4 CP4.out.rc HYB.out
    rw [HYC.out, HWE.out.1, HWE.out.2.1, HWE.out.2.2] at h; exact h
  unfold resV at HW
  obtain ⟨d0, d1, d2, d3, d4, d5, _⟩ := BY4.out
  go_wp2_with fail
  with_reducible refine HW.out.mono ?_
  rintro e w5 ⟨X, d, rfl, hf, b5⟩
  go_upto_region 7 with fail
  obtain ⟨w6, hw6⟩ : ∃ w6, w6 = w5.alloc (.cells #[.int .u8 code, .slice X P.length d] 38) := ⟨_, rfl⟩
  have b6 : Below w5.heap.size w5 w6 := by rw [hw6]; exact alloc_below _ _
  have b46 : Below w4.heap.size w4 w6 := b5.trans (b6.mono b5.size)
  have CX6 : Hid (Cel w6 w5.heap.size (.int .u8 code) (.slice X P.length d)) := by show Cel _ _ _ _; rw [hw6]; exact Cel.new _ _ _ _
  have FX6 := Lib.hid (hf.rd.below b6 (Nat.le_refl _))
  have FXB : Hid (∀ a, X = some a → w4.heap.size ≤ a.block) := fun a ha => (hf.base a ha).1
  have FXN := Lib.hid hf.non
  have BX6 := Lib.hid (BX4.out.below b46 (Nat.le_refl _))
  have BY6 := Lib.hid (BY4.out.below b46 (Nat.le_refl _))
  have CP6 := Lib.hid (CP4.out.below b46 (Nat.le_refl _))
  have HB6 := Lib.hid (HB4.out.trans (b46.mono HB4.out.size))
  have HZ46 := Lib.hid b46.size
  have HZ45 := Lib.hid b5.size
  rw [← hw6]
  obtain ⟨fx, hfx⟩ : ∃ fx, fx = w5.heap.size := ⟨_, rfl⟩
  rw [← hfx] at CX6 HZ45
  rw [← hfx]
  have HEQ : Hid (Calls Try.prog 12 #[resV y, resV x] w6 (boolOf true w6)) := by
    have h := St.requal_any y x w6 CP6.out.rc (HR.out _ HB6.out) HYB.out LC.out.bnd
    rw [HYC.out, eqR_self] at h; exact h
  unfold resV at HEQ
  clear hw6 b6 b46 hf b5 hfx d0 d1 d2 d3 d4 d5 BX4 BY4 CP4 HW HB4
  obtain ⟨c0, c1, c2, c3, c4, c5, _⟩ := BX6.out
  obtain ⟨d0, d1, d2, d3, d4, d5, _⟩ := BY6.out
  go_wp2_with fail
  refine HEQ.out.mono ?_
  rintro e w7 ⟨rfl, b7⟩
  have BX7 := Lib.hid (BX6.out.below b7 (Nat.le_refl _))
  have BY7 := Lib.hid (BY6.out.below b7 (Nat.le_refl _))
  have CX7 := Lib.hid (CX6.out.below b7 (Nat.le_refl _))
  have FX7 := Lib.hid (FX6.out.below b7 (Nat.le_refl _))
  have CP7 := Lib.hid (CP6.out.below b7 (Nat.le_refl _))
  have HB7 := Lib.hid (HB6.out.trans (b7.mono HB6.out.size))
  have HZ7 := Lib.hid b7.size
  clear b7 c0 c1 c2 c3 c4 c5 d0 d1 d2 d3 d4 d5 BX6 BY6 CX6 FX6 CP6 HB6 HEQ
  have HSP := Lib.hid (spoil_any w2.heap.size N y w7 (wr_cpy CP7.out HYB.out) HYB.out KA.out (by have := HZ34.out; have := HZ46.out; have := HZ7.out; omega))
  unfold resV at HSP
  obtain ⟨d0, d1, d2, d3, d4, d5, _⟩ := BY7.out
  go_wp2_with fail
  refine HSP.out.mono ?_
  rintro e w8 ⟨rfl, o8⟩
  have HCx : Hid (C < w2.heap.size ∧ N ≤ w4.heap.size ∧ w4.heap.size ≤ fx) := ⟨HCL.out, HZ34.out, HZ45.out⟩
  have BX8 := Lib.hid (BX7.out.only o8 (fun hm => by have := hm.1; have := HCx.out.1; omega))
  have nfx : ¬ Mid w2.heap.size N fx := fun hm => by have := hm.2; have := HCx.out.2; omega
  have lfx := CX7.out.lt
  have z0 : w8.cell? ⟨fx, 0, none⟩ = some (.int .u8 code) := by rw [o8.cell (a := ⟨fx, 0, none⟩) lfx nfx]; exact CX7.out.c0
  have z1 : w8.cell? ⟨fx, 1, none⟩ = some (.slice X P.length d) := by rw [o8.cell (a := ⟨fx, 1, none⟩) lfx nfx]; exact CX7.out.c1
  have lfx8 : fx < w8.heap.size := Nat.lt_of_lt_of_le lfx o8.size
  have FX8 := Lib.hid (rb_only FX7.out o8 (fun a ha hm => by have := hm.2; have := FXB.out a ha; have := HCx.out.2; omega))
  have hCL := HC.out
  have hB2s := HB2.out.size
  have HB8 : Hid (Below w.heap.size w w8) := HB7.out.trans (o8.below (fun j hm => by have := hm.1; omega) HB7.out.size)
  clear o8 nfx lfx d0 d1 d2 d3 d4 d5 BX7 BY7 CX7 FX7 CP7 HB7 HSP hCL hB2s

  have k0 : ∀ v, Below w8.heap.size w8 v → v.cell? ⟨C, 0, none⟩ = some (.int .i64 x.op) := fun v h => (BX8.out.below h (Nat.le_refl _)).c0
  have k1 : ∀ v, Below w8.heap.size w8 v → v.cell? ⟨C, 1, none⟩ = some (.int .i64 x.err) := fun v h => (BX8.out.below h (Nat.le_refl _)).c1
  have k2 : ∀ v, Below w8.heap.size w8 v → v.cell? ⟨C, 2, none⟩ = some (.slice x.IA x.items.length x.ik) := fun v h => (BX8.out.below h (Nat.le_refl _)).c2
  have k3 : ∀ v, Below w8.heap.size w8 v → v.cell? ⟨C, 3, none⟩ = some (.int .u64 (x.version : Int)) := fun v h => (BX8.out.below h (Nat.le_refl _)).c3
  have k4 : ∀ v, Below w8.heap.size w8 v → v.cell? ⟨C, 4, none⟩ = some (.int .i64 x.count) := fun v h => (BX8.out.below h (Nat.le_refl _)).c4
  have k5 : ∀ v, Below w8.heap.size w8 v → v.cell? ⟨C, 5, none⟩ = some (.slice x.NA x.numbers.length x.nk) := fun v h => (BX8.out.below h (Nat.le_refl _)).c5
  have f0 : ∀ v, Below w8.heap.size w8 v → v.cell? ⟨fx, 0, none⟩ = some (.int .u8 code) := fun v h => by rw [h.cell (p := ⟨fx, 0, none⟩) lfx8]; exact z0
  have f1 : ∀ v, Below w8.heap.size w8 v → v.cell? ⟨fx, 1, none⟩ = some (.slice X P.length d) := fun v h => by rw [h.cell (p := ⟨fx, 1, none⟩) lfx8]; exact z1
  have T : Hid (∀ W, Below w8.heap.size w8 W → Below w.heap.size w W) := fun W h => HB8.out.trans (h.mono HB8.out.size)
  have F1 : Hid (∀ W, Below w8.heap.size w8 W → Calls Try.prog 19 #[resV x] W (fun e w' => ∃ A k, e = .returned (.agg #[.int .u8 code, .slice A P.length k]) ∧ Fre W.heap.size w' A P k ∧ Below W.heap.size W w')) := fun W h => by rw [HCE.out, HPE.out]; exact rwr_any x W (HR.out _ (T.out _ h)) LC.out.bnd LC.out.items HVV.out.1 HVV.out.2.1 HVV.out.2.2.1 HVV.out.2.2.2.1 HVV.out.2.2.2.2
  have F2 : Hid (∀ W A k, Below w8.heap.size w8 W → Rb W A (P) → Calls Try.prog 18 #[.agg #[.int .u8 code, .slice X P.length d], .agg #[.int .u8 code, .slice A P.length k]] W (boolOf true W)) := fun W A k h hA => by
    have q := Fw.requal_any (codeU code) (codeU code) X A (P) (P) d k W (FX8.out.below h (Nat.le_refl _)) hA
    rw [HCU.out, eqv_self] at q
    exact q
  have F7 : Hid (∀ W, Below w8.heap.size w8 W → Calls Try.prog 8 #[] W (boolOf true W)) := fun W h => HK.out _ (T.out _ h)
  unfold resV at F1
  clear z0 z1
  go_wp2_with fail
  refine wp_region_noPanic ?_
  refine wp_region_held_drew (S := fun v => Below w8.heap.size w8 v) (by kernel_rfl) ((Below.refl _ _).drew) (fun hHeld => ?_)
  refine wpAnyH_take (i := 0) (oi := ⟨some 32, _, _, _, _, _⟩) (v := ?_) rfl (by kernel_rfl) (by kernel_rfl) (by kernel_rfl) (fun _ _ _ h => h) (Or.inl ⟨by rfl, ?_⟩) (by assumption) ?_
  rotate_left
  · intro w hSw; go_simp; first | done | with_reducible rfl
  try simp only [Act.put, List.setIfInBounds_toArray, List.set_cons_zero, List.set_cons_succ]
  refine wpAnyH_take (i := 1) (oi := ⟨some 33, _, _, _, _, _⟩) (v := ?_) rfl (by kernel_rfl) (by kernel_rfl) (by kernel_rfl) (fun _ _ _ h => h) (Or.inl ⟨by rfl, ?_⟩) (by assumption) ?_
  rotate_left
  · intro w hSw; go_simp; first | done | with_reducible rfl
  try simp only [Act.put, List.setIfInBounds_toArray, List.set_cons_zero, List.set_cons_succ]
  refine wpAnyH_ready (rs := [2]) (by kernel_rfl) (by simp) ?_
  refine AllReadyH.cons (o := ⟨some 34, _, _, _, _, _⟩) rfl (fun K hK => ?_) AllReadyH.nil
  go_simp
  with_reducible refine (F1.out _ hHeld).mono ?_
  rintro e u1 ⟨A, k, rfl, hfa, b1⟩
  have HU1 : Hid (Below w8.heap.size w8 u1) := hHeld.trans (b1.mono hHeld.size)
  have HQ := Lib.hid (F2.out _ A k HU1.out hfa.rd)
  clear hfa
  clear b1
  go_simp
  refine hK.out _ _ (HU1.out) (fun hHeld => ?_)
  clear hK K
  try simp only [Act.put, List.setIfInBounds_toArray, List.set_cons_zero, List.set_cons_succ]
  refine wpAnyH_ready (rs := [3]) (by kernel_rfl) (by simp) ?_
  refine AllReadyH.cons (o := ⟨some 35, _, _, _, _, _⟩) rfl (fun K hK => ?_) AllReadyH.nil
  go_simp
  with_reducible refine (HQ.out).mono ?_
  rintro e u2 ⟨rfl, b2⟩
  have HU2 : Hid (Below w8.heap.size w8 u2) := hHeld.trans (b2.mono hHeld.size)
  clear b2
  go_simp
  refine hK.out _ _ (HU2.out) (fun hHeld => ?_)
  clear hK K
  try simp only [Act.put, List.setIfInBounds_toArray, List.set_cons_zero, List.set_cons_succ]
  refine wpAnyH_take (i := 4) (oi := ⟨some 36, _, _, _, _, _⟩) (v := ?_) rfl (by kernel_rfl) (by kernel_rfl) (by kernel_rfl) (fun _ _ _ h => h) (Or.inl ⟨by rfl, ?_⟩) (by assumption) ?_
  rotate_left
  · intro w hSw; go_simp; first | done | with_reducible rfl
  try simp only [Act.put, List.setIfInBounds_toArray, List.set_cons_zero, List.set_cons_succ]
  refine wpAnyH_take (i := 5) (oi := ⟨some 37, _, _, _, _, _⟩) (v := ?_) rfl (by kernel_rfl) (by kernel_rfl) (by kernel_rfl) (fun _ _ _ h => h) (Or.inl ⟨by rfl, ?_⟩) (by assumption) ?_
  rotate_left
  · intro w hSw; go_simp; first | done | with_reducible rfl
  try simp only [Act.put, List.setIfInBounds_toArray, List.set_cons_zero, List.set_cons_succ]
  refine wpAnyH_take (i := 6) (oi := ⟨some 38, _, _, _, _, _⟩) (v := ?_) rfl (by kernel_rfl) (by kernel_rfl) (by kernel_rfl) (fun _ _ _ h => h) (Or.inl ⟨by rfl, ?_⟩) (by assumption) ?_
  rotate_left
  · intro w hSw; go_simp; first | done | with_reducible rfl
  try simp only [Act.put, List.setIfInBounds_toArray, List.set_cons_zero, List.set_cons_succ]
  refine wpAnyH_take (i := 7) (oi := ⟨some 39, _, _, _, _, _⟩) (v := ?_) rfl (by kernel_rfl) (by kernel_rfl) (by kernel_rfl) (fun _ _ _ h => h) (Or.inl ⟨by rfl, ?_⟩) (by assumption) ?_
  rotate_left
  · intro w hSw; go_simp; first | done | with_reducible rfl
  try simp only [Act.put, List.setIfInBounds_toArray, List.set_cons_zero, List.set_cons_succ]
  refine wpAnyH_take (i := 8) (oi := ⟨some 40, _, _, _, _, _⟩) (v := ?_) rfl (by kernel_rfl) (by kernel_rfl) (by kernel_rfl) (fun _ _ _ h => h) (Or.inl ⟨by rfl, ?_⟩) (by assumption) ?_
  rotate_left
  · intro w hSw; go_simp; first | done | with_reducible rfl
  try simp only [Act.put, List.setIfInBounds_toArray, List.set_cons_zero, List.set_cons_succ]
  refine wpAnyH_ready (rs := [9]) (by kernel_rfl) (by simp) ?_
  refine AllReadyH.cons (o := ⟨some 41, _, _, _, _, _⟩) rfl (fun K hK => ?_) AllReadyH.nil
  go_simp
  with_reducible refine (F7.out _ hHeld).mono ?_
  rintro e u7 ⟨rfl, b7⟩
  have HU7 : Hid (Below w8.heap.size w8 u7) := hHeld.trans (b7.mono hHeld.size)
  clear b7
  go_simp
  refine hK.out _ _ (HU7.out) (fun hHeld => ?_)
  clear hK K
  try simp only [Act.put, List.setIfInBounds_toArray, List.set_cons_zero, List.set_cons_succ]
  refine wpAnyH_take (i := 10) (oi := ⟨some 42, _, _, _, _, _⟩) (v := ?_) rfl (by kernel_rfl) (by kernel_rfl) (by kernel_rfl) (fun _ _ _ h => h) (Or.inl ⟨by rfl, ?_⟩) (by assumption) ?_
  rotate_left
  · intro w hSw; go_simp; first | done | with_reducible rfl
  try simp only [Act.put, List.setIfInBounds_toArray, List.set_cons_zero, List.set_cons_succ]
  refine wpAnyH_take (i := 11) (oi := ⟨some 2, _, _, _, _, _⟩) (v := ?_) rfl (by kernel_rfl) (by kernel_rfl) (by kernel_rfl) (fun _ _ _ h => h) (Or.inl ⟨by rfl, ?_⟩) (by assumption) ?_
  rotate_left
  · intro w hSw; go_simp; first | done | with_reducible rfl
  try simp only [Act.put, List.setIfInBounds_toArray, List.set_cons_zero, List.set_cons_succ]
  refine wpAnyH_done (by kernel_rfl) ?_ _
  refine NoPanic.normal ?_
  go_wp2_with fail
  go_ret
  exact ⟨rfl, T.out _ HU7.out⟩
end Go.Proofs.Ythlfahblnpijaaa.Szc
