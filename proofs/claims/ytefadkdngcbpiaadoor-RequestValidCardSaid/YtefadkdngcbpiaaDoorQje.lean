/- Proves that the law RequestValid returns true. Conditions: the table is laid; an argument's parts below the form's own bound. -/
import Derived.Test.YtefadkdngcbpiaaDoorQl
import Derived.Test.YtefadkdngcbpiaaDoorQt
import Derived.Test.YtefadkdngcbpiaaDoorQq
import Derived.Test.YtefadkdngcbpiaaDoorQj
namespace Go.Proofs.YtefadkdngcbpiaaDoor.Qje
open Go.RowKit Vm Ap Vw Va Gc Mi Mb Qm Qs Qe Qo Qc Qw Ql Qt Qjd

set_option maxRecDepth 100000 in
set_option maxHeartbeats 16000000 in
theorem valid_walk (x y : Com) (w : World) (he : Env w) (hr : Rc w x) (hl : LimC x.c) (hr' : Rc w y) (hl' : LimC y.c) :
    Calls Tryd.prog 3 #[comV x, comV y] w (boolOf true w) := by
  obtain ⟨w0, hw0⟩ : ∃ w0, w0 = (w.alloc (comO x)).alloc (comO y) := ⟨_, rfl⟩
  have B0 : Below w.heap.size w w0 := by rw [hw0]; exact two_below _ _ _
  have BX0 : Hid (Box w0 w.heap.size x) := by show Box _ _ _; rw [hw0]; exact (Box.new w x).below (alloc_below _ _) (Nat.le_refl _)
  have BY0 : Hid (Box w0 (w.heap.size + 1) y) := by
    have hb := Box.new (w.alloc (comO x)) y
    have e : (w.alloc (comO x)).heap.size = w.heap.size + 1 := by simp
    rw [e] at hb
    show Box _ _ _
    rw [hw0]; exact hb
  have HB0 := Lib.hid B0
  have HE := Lib.hid (fun W (h : Below w.heap.size w W) => he.below h (Nat.le_refl _))
  have HR := Lib.hid (fun W (h : Below w.heap.size w W) => hr.below h (Nat.le_refl _))
  have HRY := Lib.hid (fun W (h : Below w.heap.size w W) => hr'.below h (Nat.le_refl _))
  have HL := Lib.hid (light_any x w0 (HR.out _ B0) hl)
  have HLY := Lib.hid (fun W (h : Below w.heap.size w W) => light_any y W (HRY.out _ h) hl')
  have HK := Lib.hid (fun W (h : Below w.heap.size w W) => known_any W (HE.out _ h))
  unfold comV at HL HLY ⊢
  unfold comO at hw0
  clear B0 he hr hl hr' hl'
  obtain ⟨c0, c1, c2, c3, c4, c5, c6, c7, c8, c9, _⟩ := BX0.out
  obtain ⟨d0, d1, d2, d3, d4, d5, d6, d7, d8, d9, _⟩ := BY0.out
  go_enter Tryd.func3, Tryd.ntmps3
  go_upto_region 1 with fail
  rw [← hw0]
  clear hw0
  go_wp2_with fail
  refine HL.out.mono ?_
  rintro e w1 ⟨lb, rfl, b1, hlt⟩
  have BX1 := Lib.hid (BX0.out.below b1 (Nat.le_refl _))
  have BY1 := Lib.hid (BY0.out.below b1 (Nat.le_refl _))
  have HB1 := Lib.hid (HB0.out.trans (b1.mono HB0.out.size))
  have HLT := Lib.hid hlt
  clear b1 hlt c0 c1 c2 c3 c4 c5 c6 c7 c8 c9 d0 d1 d2 d3 d4 d5 d6 d7 d8 d9 BX0 BY0 HB0 HL
  cases lb
  · go_wp2_with fail
    refine (HK.out _ HB1.out).mono ?_
    rintro e w2 ⟨rfl, b2⟩
    have HB2 := Lib.hid (HB1.out.trans (b2.mono HB1.out.size))
    clear b2
    go_wp2_with fail
    go_ret
    exact ⟨rfl, HB2.out⟩
  have LC := Lib.hid (HLT.out rfl)
  obtain ⟨d0, d1, d2, d3, d4, d5, d6, d7, d8, d9, _⟩ := BY1.out
  go_wp2_with fail
  refine (HLY.out _ HB1.out).mono ?_
  rintro e w2 ⟨lb, rfl, b2, hlt⟩
  have BX2 := Lib.hid (BX1.out.below b2 (Nat.le_refl _))
  have BY2 := Lib.hid (BY1.out.below b2 (Nat.le_refl _))
  have HB2 := Lib.hid (HB1.out.trans (b2.mono HB1.out.size))
  have HLTY := Lib.hid hlt
  clear b2 hlt d0 d1 d2 d3 d4 d5 d6 d7 d8 d9 BX1 BY1 HB1 HLT HLY
  cases lb
  · go_wp2_with fail
    refine (HK.out _ HB2.out).mono ?_
    rintro e w3 ⟨rfl, b3⟩
    have HB3 := Lib.hid (HB2.out.trans (b3.mono HB2.out.size))
    clear b3
    go_wp2_with fail
    go_ret
    exact ⟨rfl, HB3.out⟩
  have LCY := Lib.hid (HLTY.out rfl)
  obtain ⟨C, hC⟩ : ∃ C, C = w.heap.size := ⟨_, rfl⟩
  obtain ⟨D, hD⟩ : ∃ D, D = w.heap.size + 1 := ⟨_, rfl⟩
  rw [← hD] at BY2
  rw [← hC] at BX2
  go_wp2_with fail
  rw [← hD, ← hC]
  clear hC hD
  have k0 : ∀ v, Below w2.heap.size w2 v → v.cell? ⟨C, 0, none⟩ = some (.int .i64 x.c.op) := fun v h => (BX2.out.below h (Nat.le_refl _)).c0
  have k1 : ∀ v, Below w2.heap.size w2 v → v.cell? ⟨C, 1, none⟩ = some (.string ⟨x.c.key.toArray⟩) := fun v h => (BX2.out.below h (Nat.le_refl _)).c1
  have k2 : ∀ v, Below w2.heap.size w2 v → v.cell? ⟨C, 2, none⟩ = some (.slice x.KA x.c.keys.length x.kc) := fun v h => (BX2.out.below h (Nat.le_refl _)).c2
  have k3 : ∀ v, Below w2.heap.size w2 v → v.cell? ⟨C, 3, none⟩ = some (.slice x.VA x.c.value.length x.vc) := fun v h => (BX2.out.below h (Nat.le_refl _)).c3
  have k4 : ∀ v, Below w2.heap.size w2 v → v.cell? ⟨C, 4, none⟩ = some (.slice x.TA x.c.tags.length x.tc) := fun v h => (BX2.out.below h (Nat.le_refl _)).c4
  have k5 : ∀ v, Below w2.heap.size w2 v → v.cell? ⟨C, 5, none⟩ = some (.int .u64 (x.c.life : Int)) := fun v h => (BX2.out.below h (Nat.le_refl _)).c5
  have k6 : ∀ v, Below w2.heap.size w2 v → v.cell? ⟨C, 6, none⟩ = some (.int .u64 (x.c.version : Int)) := fun v h => (BX2.out.below h (Nat.le_refl _)).c6
  have k7 : ∀ v, Below w2.heap.size w2 v → v.cell? ⟨C, 7, none⟩ = some (.string ⟨x.c.tag.toArray⟩) := fun v h => (BX2.out.below h (Nat.le_refl _)).c7
  have k8 : ∀ v, Below w2.heap.size w2 v → v.cell? ⟨C, 8, none⟩ = some (.string ⟨x.c.pre.toArray⟩) := fun v h => (BX2.out.below h (Nat.le_refl _)).c8
  have k9 : ∀ v, Below w2.heap.size w2 v → v.cell? ⟨C, 9, none⟩ = some (.string ⟨x.c.child.toArray⟩) := fun v h => (BX2.out.below h (Nat.le_refl _)).c9
  have l0 : ∀ v, Below w2.heap.size w2 v → v.cell? ⟨D, 0, none⟩ = some (.int .i64 y.c.op) := fun v h => (BY2.out.below h (Nat.le_refl _)).c0
  have l1 : ∀ v, Below w2.heap.size w2 v → v.cell? ⟨D, 1, none⟩ = some (.string ⟨y.c.key.toArray⟩) := fun v h => (BY2.out.below h (Nat.le_refl _)).c1
  have l2 : ∀ v, Below w2.heap.size w2 v → v.cell? ⟨D, 2, none⟩ = some (.slice y.KA y.c.keys.length y.kc) := fun v h => (BY2.out.below h (Nat.le_refl _)).c2
  have l3 : ∀ v, Below w2.heap.size w2 v → v.cell? ⟨D, 3, none⟩ = some (.slice y.VA y.c.value.length y.vc) := fun v h => (BY2.out.below h (Nat.le_refl _)).c3
  have l4 : ∀ v, Below w2.heap.size w2 v → v.cell? ⟨D, 4, none⟩ = some (.slice y.TA y.c.tags.length y.tc) := fun v h => (BY2.out.below h (Nat.le_refl _)).c4
  have l5 : ∀ v, Below w2.heap.size w2 v → v.cell? ⟨D, 5, none⟩ = some (.int .u64 (y.c.life : Int)) := fun v h => (BY2.out.below h (Nat.le_refl _)).c5
  have l6 : ∀ v, Below w2.heap.size w2 v → v.cell? ⟨D, 6, none⟩ = some (.int .u64 (y.c.version : Int)) := fun v h => (BY2.out.below h (Nat.le_refl _)).c6
  have l7 : ∀ v, Below w2.heap.size w2 v → v.cell? ⟨D, 7, none⟩ = some (.string ⟨y.c.tag.toArray⟩) := fun v h => (BY2.out.below h (Nat.le_refl _)).c7
  have l8 : ∀ v, Below w2.heap.size w2 v → v.cell? ⟨D, 8, none⟩ = some (.string ⟨y.c.pre.toArray⟩) := fun v h => (BY2.out.below h (Nat.le_refl _)).c8
  have l9 : ∀ v, Below w2.heap.size w2 v → v.cell? ⟨D, 9, none⟩ = some (.string ⟨y.c.child.toArray⟩) := fun v h => (BY2.out.below h (Nat.le_refl _)).c9
  have T : Hid (∀ W, Below w2.heap.size w2 W → Below w.heap.size w W) := fun W h => HB2.out.trans (h.mono HB2.out.size)
  have F1 : Hid (∀ W, Below w2.heap.size w2 W → Calls Tryd.prog 11 #[comV x] W (boolOf (validG x.c) W)) := fun W h => valid_any x W (HE.out _ (T.out _ h)) (HR.out _ (T.out _ h)) LC.out.bnd
  have F2 : Hid (∀ W, Below w2.heap.size w2 W → Calls Tryd.prog 12 #[comV x] W (boolOf (validG x.c) W)) := fun W h => by rw [← valid_same]; exact Qjc.rvalid_any x W (HR.out _ (T.out _ h)) LC.out.bnd
  have F3 : Hid (∀ W, Below w2.heap.size w2 W → Calls Tryd.prog 13 #[comV x, comV y] W (boolOf (eqC x.c y.c) W)) := fun W h => Qq.equal_any x y W (HR.out _ (T.out _ h)) (HRY.out _ (T.out _ h)) LC.out.bnd LCY.out.bnd
  have F4 : Hid (∀ W, Below w2.heap.size w2 W → Calls Tryd.prog 14 #[comV x, comV y] W (boolOf (eqC x.c y.c) W)) := fun W h => Qr.requal_any x y W (HR.out _ (T.out _ h)) (HRY.out _ (T.out _ h)) LC.out.bnd LCY.out.bnd
  have F5 : Hid (∀ W, Below w2.heap.size w2 W → Calls Tryd.prog 15 #[comV x] W (copyPost W x)) := fun W h => copies_any x W (HR.out _ (T.out _ h)) LC.out.bnd
  have F6 : Hid (∀ z W, Below w2.heap.size w2 W → Rc W z → z.c = x.c → Calls Tryd.prog 13 #[comV x, comV z] W (boolOf true W)) := fun z W h h1 h2 => by
    have := Qq.equal_any x z W (HR.out _ (T.out _ h)) h1 LC.out.bnd (by rw [h2]; exact LC.out.bnd)
    rw [h2, eqC_self] at this; exact this
  have F7 : Hid (∀ W, Below w2.heap.size w2 W → Calls Tryd.prog 10 #[] W (boolOf true W)) := fun W h => HK.out _ (T.out _ h)
  unfold comV at F1 F2 F3 F4 F5 F6
  generalize validG x.c = vb at *
  generalize eqC x.c y.c = qb at *
  refine wp_region_noPanic ?_
  refine wp_region_held_drew (S := fun v => Below w2.heap.size w2 v) (by kernel_rfl) ((Below.refl _ _).drew) (fun hHeld => ?_)
  refine wpAnyH_take (i := 0) (oi := ⟨some 14, _, _, _, _, _⟩) (v := ?_) rfl (by kernel_rfl) (by kernel_rfl) (by kernel_rfl) (fun _ _ _ h => h) (Or.inl ⟨by rfl, ?_⟩) (by assumption) ?_
  rotate_left
  · intro w hSw; go_simp; first | done | with_reducible rfl
  try simp only [Act.put, List.setIfInBounds_toArray, List.set_cons_zero, List.set_cons_succ]
  refine wpAnyH_take (i := 2) (oi := ⟨some 16, _, _, _, _, _⟩) (v := ?_) rfl (by kernel_rfl) (by kernel_rfl) (by kernel_rfl) (fun _ _ _ h => h) (Or.inl ⟨by rfl, ?_⟩) (by assumption) ?_
  rotate_left
  · intro w hSw; go_simp; first | done | with_reducible rfl
  try simp only [Act.put, List.setIfInBounds_toArray, List.set_cons_zero, List.set_cons_succ]
  refine wpAnyH_ready (rs := [1]) (by kernel_rfl) (by simp) ?_
  refine AllReadyH.cons (o := ⟨some 15, _, _, _, _, _⟩) rfl (fun K hK => ?_) AllReadyH.nil
  go_simp
  with_reducible refine (F1.out _ hHeld).mono ?_
  rintro e u1 ⟨rfl, b1⟩
  have HU1 : Hid (Below w2.heap.size w2 u1) := hHeld.trans (b1.mono hHeld.size)
  clear b1
  go_simp
  refine hK.out _ _ (HU1.out) (fun hHeld => ?_)
  clear hK K
  try simp only [Act.put, List.setIfInBounds_toArray, List.set_cons_zero, List.set_cons_succ]
  refine wpAnyH_ready (rs := [3]) (by kernel_rfl) (by simp) ?_
  refine AllReadyH.cons (o := ⟨some 17, _, _, _, _, _⟩) rfl (fun K hK => ?_) AllReadyH.nil
  go_simp
  with_reducible refine (F2.out _ hHeld).mono ?_
  rintro e u2 ⟨rfl, b2⟩
  have HU2 : Hid (Below w2.heap.size w2 u2) := hHeld.trans (b2.mono hHeld.size)
  clear b2
  go_simp
  refine hK.out _ _ (HU2.out) (fun hHeld => ?_)
  clear hK K
  try simp only [Act.put, List.setIfInBounds_toArray, List.set_cons_zero, List.set_cons_succ]
  refine wpAnyH_take (i := 4) (oi := ⟨some 18, _, _, _, _, _⟩) (v := ?_) rfl (by kernel_rfl) (by kernel_rfl) (by kernel_rfl) (fun _ _ _ h => h) (Or.inl ⟨by rfl, ?_⟩) (by assumption) ?_
  rotate_left
  · intro w hSw; go_simp; first | done | with_reducible rfl
  try simp only [Act.put, List.setIfInBounds_toArray, List.set_cons_zero, List.set_cons_succ]
  refine wpAnyH_take (i := 5) (oi := ⟨some 19, _, _, _, _, _⟩) (v := ?_) rfl (by kernel_rfl) (by kernel_rfl) (by kernel_rfl) (fun _ _ _ h => h) (Or.inl ⟨by rfl, ?_⟩) (by assumption) ?_
  rotate_left
  · intro w hSw; go_simp; first | done | with_reducible rfl
  try simp only [Act.put, List.setIfInBounds_toArray, List.set_cons_zero, List.set_cons_succ]
  refine wpAnyH_take (i := 6) (oi := ⟨some 20, _, _, _, _, _⟩) (v := ?_) rfl (by kernel_rfl) (by kernel_rfl) (by kernel_rfl) (fun _ _ _ h => h) (Or.inl ⟨by rfl, ?_⟩) (by assumption) ?_
  rotate_left
  · intro w hSw; go_simp; first | done | with_reducible rfl
  try simp only [Act.put, List.setIfInBounds_toArray, List.set_cons_zero, List.set_cons_succ]
  refine wpAnyH_take (i := 7) (oi := ⟨some 21, _, _, _, _, _⟩) (v := ?_) rfl (by kernel_rfl) (by kernel_rfl) (by kernel_rfl) (fun _ _ _ h => h) (Or.inl ⟨by rfl, ?_⟩) (by assumption) ?_
  rotate_left
  · intro w hSw; go_simp; first | done | with_reducible rfl
  try simp only [Act.put, List.setIfInBounds_toArray, List.set_cons_zero, List.set_cons_succ]
  refine wpAnyH_take (i := 9) (oi := ⟨some 23, _, _, _, _, _⟩) (v := ?_) rfl (by kernel_rfl) (by kernel_rfl) (by kernel_rfl) (fun _ _ _ h => h) (Or.inl ⟨by rfl, ?_⟩) (by assumption) ?_
  rotate_left
  · intro w hSw; go_simp; first | done | with_reducible rfl
  try simp only [Act.put, List.setIfInBounds_toArray, List.set_cons_zero, List.set_cons_succ]
  refine wpAnyH_take (i := 10) (oi := ⟨some 24, _, _, _, _, _⟩) (v := ?_) rfl (by kernel_rfl) (by kernel_rfl) (by kernel_rfl) (fun _ _ _ h => h) (Or.inl ⟨by rfl, ?_⟩) (by assumption) ?_
  rotate_left
  · intro w hSw; go_simp; first | done | with_reducible rfl
  try simp only [Act.put, List.setIfInBounds_toArray, List.set_cons_zero, List.set_cons_succ]
  refine wpAnyH_ready (rs := [8]) (by kernel_rfl) (by simp) ?_
  refine AllReadyH.cons (o := ⟨some 22, _, _, _, _, _⟩) rfl (fun K hK => ?_) AllReadyH.nil
  go_simp
  with_reducible refine (F3.out _ hHeld).mono ?_
  rintro e u3 ⟨rfl, b3⟩
  have HU3 : Hid (Below w2.heap.size w2 u3) := hHeld.trans (b3.mono hHeld.size)
  clear b3
  go_simp
  refine hK.out _ _ (HU3.out) (fun hHeld => ?_)
  clear hK K
  try simp only [Act.put, List.setIfInBounds_toArray, List.set_cons_zero, List.set_cons_succ]
  refine wpAnyH_ready (rs := [11]) (by kernel_rfl) (by simp) ?_
  refine AllReadyH.cons (o := ⟨some 25, _, _, _, _, _⟩) rfl (fun K hK => ?_) AllReadyH.nil
  go_simp
  with_reducible refine (F4.out _ hHeld).mono ?_
  rintro e u4 ⟨rfl, b4⟩
  have HU4 : Hid (Below w2.heap.size w2 u4) := hHeld.trans (b4.mono hHeld.size)
  clear b4
  go_simp
  refine hK.out _ _ (HU4.out) (fun hHeld => ?_)
  clear hK K
  try simp only [Act.put, List.setIfInBounds_toArray, List.set_cons_zero, List.set_cons_succ]
  refine wpAnyH_take (i := 12) (oi := ⟨some 26, _, _, _, _, _⟩) (v := ?_) rfl (by kernel_rfl) (by kernel_rfl) (by kernel_rfl) (fun _ _ _ h => h) (Or.inl ⟨by rfl, ?_⟩) (by assumption) ?_
  rotate_left
  · intro w hSw; go_simp; first | done | with_reducible rfl
  try simp only [Act.put, List.setIfInBounds_toArray, List.set_cons_zero, List.set_cons_succ]
  refine wpAnyH_take (i := 13) (oi := ⟨some 27, _, _, _, _, _⟩) (v := ?_) rfl (by kernel_rfl) (by kernel_rfl) (by kernel_rfl) (fun _ _ _ h => h) (Or.inl ⟨by rfl, ?_⟩) (by assumption) ?_
  rotate_left
  · intro w hSw; go_simp; first | done | with_reducible rfl
  try simp only [Act.put, List.setIfInBounds_toArray, List.set_cons_zero, List.set_cons_succ]
  refine wpAnyH_take (i := 14) (oi := ⟨some 28, _, _, _, _, _⟩) (v := ?_) rfl (by kernel_rfl) (by kernel_rfl) (by kernel_rfl) (fun _ _ _ h => h) (Or.inl ⟨by rfl, ?_⟩) (by assumption) ?_
  rotate_left
  · intro w hSw; go_simp; first | done | with_reducible rfl
  try simp only [Act.put, List.setIfInBounds_toArray, List.set_cons_zero, List.set_cons_succ]
  refine wpAnyH_take (i := 15) (oi := ⟨some 29, _, _, _, _, _⟩) (v := ?_) rfl (by kernel_rfl) (by kernel_rfl) (by kernel_rfl) (fun _ _ _ h => h) (Or.inl ⟨by rfl, ?_⟩) (by assumption) ?_
  rotate_left
  · intro w hSw; go_simp; first | done | with_reducible rfl
  try simp only [Act.put, List.setIfInBounds_toArray, List.set_cons_zero, List.set_cons_succ]
  refine wpAnyH_take (i := 16) (oi := ⟨some 30, _, _, _, _, _⟩) (v := ?_) rfl (by kernel_rfl) (by kernel_rfl) (by kernel_rfl) (fun _ _ _ h => h) (Or.inl ⟨by rfl, ?_⟩) (by assumption) ?_
  rotate_left
  · intro w hSw; go_simp; first | done | with_reducible rfl
  try simp only [Act.put, List.setIfInBounds_toArray, List.set_cons_zero, List.set_cons_succ]
  refine wpAnyH_ready (rs := [17]) (by kernel_rfl) (by simp) ?_
  refine AllReadyH.cons (o := ⟨some 31, _, _, _, _, _⟩) rfl (fun K hK => ?_) AllReadyH.nil
  go_simp
  with_reducible refine (F5.out _ hHeld).mono ?_
  rintro e u5 ⟨z, p1, p2, rfl, hzc, hcp, b5⟩
  have HU5 : Hid (Below w2.heap.size w2 u5) := hHeld.trans (b5.mono hHeld.size)
  have HQ := Lib.hid (F6.out z _ HU5.out hcp.rc hzc)
  unfold comV
  clear hzc hcp
  clear b5
  go_simp
  refine hK.out _ _ (HU5.out) (fun hHeld => ?_)
  clear hK K
  try simp only [Act.put, List.setIfInBounds_toArray, List.set_cons_zero, List.set_cons_succ]
  refine wpAnyH_ready (rs := [18]) (by kernel_rfl) (by simp) ?_
  refine AllReadyH.cons (o := ⟨some 32, _, _, _, _, _⟩) rfl (fun K hK => ?_) AllReadyH.nil
  go_simp
  with_reducible refine HQ.out.mono ?_
  rintro e u6 ⟨rfl, b6⟩
  have HU6 : Hid (Below w2.heap.size w2 u6) := hHeld.trans (b6.mono hHeld.size)
  clear b6
  go_simp
  refine hK.out _ _ (HU6.out) (fun hHeld => ?_)
  clear hK K
  try simp only [Act.put, List.setIfInBounds_toArray, List.set_cons_zero, List.set_cons_succ]
  refine wpAnyH_take (i := 19) (oi := ⟨some 33, _, _, _, _, _⟩) (v := ?_) rfl (by kernel_rfl) (by kernel_rfl) (by kernel_rfl) (fun _ _ _ h => h) (Or.inl ⟨by rfl, ?_⟩) (by assumption) ?_
  rotate_left
  · intro w hSw; go_simp; first | done | with_reducible rfl
  try simp only [Act.put, List.setIfInBounds_toArray, List.set_cons_zero, List.set_cons_succ]
  refine wpAnyH_take (i := 20) (oi := ⟨some 34, _, _, _, _, _⟩) (v := ?_) rfl (by kernel_rfl) (by kernel_rfl) (by kernel_rfl) (fun _ _ _ h => h) (Or.inl ⟨by rfl, ?_⟩) (by assumption) ?_
  rotate_left
  · intro w hSw; go_simp; first | done | with_reducible rfl
  try simp only [Act.put, List.setIfInBounds_toArray, List.set_cons_zero, List.set_cons_succ]
  refine wpAnyH_ready (rs := [21]) (by kernel_rfl) (by simp) ?_
  refine AllReadyH.cons (o := ⟨some 35, _, _, _, _, _⟩) rfl (fun K hK => ?_) AllReadyH.nil
  go_simp
  with_reducible refine (F7.out _ hHeld).mono ?_
  rintro e u7 ⟨rfl, b7⟩
  have HU7 : Hid (Below w2.heap.size w2 u7) := hHeld.trans (b7.mono hHeld.size)
  clear b7
  go_simp
  refine hK.out _ _ (HU7.out) (fun hHeld => ?_)
  clear hK K
  try simp only [Act.put, List.setIfInBounds_toArray, List.set_cons_zero, List.set_cons_succ]
  refine wpAnyH_take (i := 22) (oi := ⟨some 36, _, _, _, _, _⟩) (v := ?_) rfl (by kernel_rfl) (by kernel_rfl) (by kernel_rfl) (fun _ _ _ h => h) (Or.inl ⟨by rfl, ?_⟩) (by assumption) ?_
  rotate_left
  · intro w hSw; go_simp; first | done | with_reducible rfl
  try simp only [Act.put, List.setIfInBounds_toArray, List.set_cons_zero, List.set_cons_succ]
  refine wpAnyH_take (i := 23) (oi := ⟨some 4, _, _, _, _, _⟩) (v := ?_) rfl (by kernel_rfl) (by kernel_rfl) (by kernel_rfl) (fun _ _ _ h => h) (Or.inl ⟨by rfl, ?_⟩) (by assumption) ?_
  rotate_left
  · intro w hSw; go_simp; first | done | with_reducible rfl
  try simp only [Act.put, List.setIfInBounds_toArray, List.set_cons_zero, List.set_cons_succ]
  refine wpAnyH_done (by kernel_rfl) ?_ _
  refine NoPanic.normal ?_
  go_wp2_with fail
  go_ret
  exact ⟨rfl, T.out _ HU7.out⟩
end Go.Proofs.YtefadkdngcbpiaaDoor.Qje
