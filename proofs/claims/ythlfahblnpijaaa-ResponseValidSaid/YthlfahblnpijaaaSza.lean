/- Proves that the law ResponseValid returns true. Conditions: an argument's parts below the form's own bound. -/
import Derived.Test.YthlfahblnpijaaaSl
import Derived.Test.YthlfahblnpijaaaSja
import Derived.Test.YthlfahblnpijaaaSjb
import Derived.Test.YthlfahblnpijaaaSv
import Derived.Test.YthlfahblnpijaaaSc
import Derived.Test.YthlfahblnpijaaaSt
import Derived.Test.YthlfahblnpijaaaSg
namespace Go.Proofs.Ythlfahblnpijaaa.Sza
open Go.RowKit Vm Ap Vw Va Gc Mi Mb Qm Sm Se So Sja Sjb

theorem bnd_same {x z : Res} (h : BndS x) (e : z.r = x.r) : BndS z := by
  have e1 : z.op = x.op := congrArg Rsp.op e
  have e2 : z.err = x.err := congrArg Rsp.err e
  have e3 : z.items.map (·.i) = x.items.map (·.i) := congrArg Rsp.items e
  have e4 : z.version = x.version := congrArg Rsp.version e
  have e5 : z.count = x.count := congrArg Rsp.count e
  have e6 : z.numbers = x.numbers := congrArg Rsp.numbers e
  have el : z.items.length = x.items.length := by have := congrArg List.length e3; simpa using this
  refine ⟨by rw [e1]; exact h.op1, by rw [e1]; exact h.op2, by rw [e2]; exact h.err1, by rw [e2]; exact h.err2, by rw [e5]; exact h.count1, by rw [e5]; exact h.count2, by rw [e4]; exact h.version, by rw [el]; exact h.items, by rw [e6]; exact h.numbers, fun y hy => ?_, by rw [e6]; exact h.nums⟩
  have hm : y.i ∈ x.items.map (·.i) := by rw [← e3]; exact List.mem_map_of_mem hy
  obtain ⟨q, hq, eq⟩ := List.mem_map.1 hm
  have := h.each q hq
  rw [eq] at this
  exact this
set_option maxRecDepth 100000 in
set_option maxHeartbeats 16000000 in
theorem valid_walk (x y : Res) (o e : Int) (w : World) (hr : RRc w x) (hl : LimS x) (hr' : RRc w y) (hl' : LimS y) (ho1 : -9223372036854775808 ≤ o) (ho2 : o ≤ 9223372036854775807) (he1 : -9223372036854775808 ≤ e) (he2 : e ≤ 9223372036854775807) :
    Calls Try.prog 3 #[resV x, resV y, .int .i64 o, .int .i64 e] w (boolOf true w) := by
  obtain ⟨w0, hw0⟩ : ∃ w0, w0 = (w.alloc (resO x)).alloc (resO y) := ⟨_, rfl⟩
  have B0 : Below w.heap.size w w0 := by rw [hw0]; exact two_below _ _ _
  have BX0 : Hid (BoxS w0 w.heap.size x) := by show BoxS _ _ _; rw [hw0]; exact (BoxS.new w x).below (alloc_below _ _) (Nat.le_refl _)
  have BY0 : Hid (BoxS w0 (w.heap.size + 1) y) := by
    have hb := BoxS.new (w.alloc (resO x)) y
    have e : (w.alloc (resO x)).heap.size = w.heap.size + 1 := by simp
    rw [e] at hb
    show BoxS _ _ _
    rw [hw0]; exact hb
  have HB0 := Lib.hid B0
  have HR := Lib.hid (fun W (h : Below w.heap.size w W) => hr.below h (Nat.le_refl _))
  have HRY := Lib.hid (fun W (h : Below w.heap.size w W) => hr'.below h (Nat.le_refl _))
  have HL := Lib.hid (light_any x w0 (HR.out _ B0) hl)
  have HLY := Lib.hid (fun W (h : Below w.heap.size w W) => light_any y W (HRY.out _ h) hl')
  have HK := Lib.hid (fun W (h : Below w.heap.size w W) => Sl.known_any W)
  unfold resV at HL HLY ⊢
  unfold resO at hw0
  clear B0 hr hl hr' hl'
  obtain ⟨c0, c1, c2, c3, c4, c5, _⟩ := BX0.out
  obtain ⟨d0, d1, d2, d3, d4, d5, _⟩ := BY0.out
  go_enter Try.func3, Try.ntmps3
  go_upto_region 1 with fail
  rw [← hw0]
  clear hw0
  go_wp2_with fail
  refine HL.out.mono ?_
  rintro e w1 ⟨lb, rfl, b1, hlt⟩
  have BX1 := Lib.hid (BX0.out.below b1 (Nat.le_refl _))
  have BY1 := Lib.hid (BY0.out.below b1 (Nat.le_refl _))
  have HB1 := Lib.hid (HB0.out.trans (b1.mono HB0.out.size))
  have HLT := Lib.hid hlt
  clear b1 hlt c0 c1 c2 c3 c4 c5 d0 d1 d2 d3 d4 d5 BX0 BY0 HB0 HL
  cases lb
  · go_wp2_with fail
    refine (HK.out _ HB1.out).mono ?_
    rintro e w2 ⟨rfl, b2⟩
    have HB2 := Lib.hid (HB1.out.trans (b2.mono HB1.out.size))
    clear b2
    go_wp2_with fail
    go_ret
    exact ⟨rfl, HB2.out⟩
  have LC := Lib.hid (HLT.out rfl)
  obtain ⟨d0, d1, d2, d3, d4, d5, _⟩ := BY1.out
  go_wp2_with fail
  refine (HLY.out _ HB1.out).mono ?_
  rintro e w2 ⟨lb, rfl, b2, hlt⟩
  have BX2 := Lib.hid (BX1.out.below b2 (Nat.le_refl _))
  have BY2 := Lib.hid (BY1.out.below b2 (Nat.le_refl _))
  have HB2 := Lib.hid (HB1.out.trans (b2.mono HB1.out.size))
  have HLTY := Lib.hid hlt
  clear b2 hlt d0 d1 d2 d3 d4 d5 BX1 BY1 HB1 HLT HLY
  cases lb
  · go_wp2_with fail
    refine (HK.out _ HB2.out).mono ?_
    rintro e w3 ⟨rfl, b3⟩
    have HB3 := Lib.hid (HB2.out.trans (b3.mono HB2.out.size))
    clear b3
    go_wp2_with fail
    go_ret
    exact ⟨rfl, HB3.out⟩
  have LCY := Lib.hid (HLTY.out rfl)
  obtain ⟨C, hC⟩ : ∃ C, C = w.heap.size := ⟨_, rfl⟩
  obtain ⟨D, hD⟩ : ∃ D, D = w.heap.size + 1 := ⟨_, rfl⟩
  rw [← hD] at BY2
  rw [← hC] at BX2
  go_wp2_with fail
  rw [← hD, ← hC]
  clear hC hD
  have k0 : ∀ v, Below w2.heap.size w2 v → v.cell? ⟨C, 0, none⟩ = some (.int .i64 x.op) := fun v h => (BX2.out.below h (Nat.le_refl _)).c0
  have k1 : ∀ v, Below w2.heap.size w2 v → v.cell? ⟨C, 1, none⟩ = some (.int .i64 x.err) := fun v h => (BX2.out.below h (Nat.le_refl _)).c1
  have k2 : ∀ v, Below w2.heap.size w2 v → v.cell? ⟨C, 2, none⟩ = some (.slice x.IA x.items.length x.ik) := fun v h => (BX2.out.below h (Nat.le_refl _)).c2
  have k3 : ∀ v, Below w2.heap.size w2 v → v.cell? ⟨C, 3, none⟩ = some (.int .u64 (x.version : Int)) := fun v h => (BX2.out.below h (Nat.le_refl _)).c3
  have k4 : ∀ v, Below w2.heap.size w2 v → v.cell? ⟨C, 4, none⟩ = some (.int .i64 x.count) := fun v h => (BX2.out.below h (Nat.le_refl _)).c4
  have k5 : ∀ v, Below w2.heap.size w2 v → v.cell? ⟨C, 5, none⟩ = some (.slice x.NA x.numbers.length x.nk) := fun v h => (BX2.out.below h (Nat.le_refl _)).c5
  have l0 : ∀ v, Below w2.heap.size w2 v → v.cell? ⟨D, 0, none⟩ = some (.int .i64 y.op) := fun v h => (BY2.out.below h (Nat.le_refl _)).c0
  have l1 : ∀ v, Below w2.heap.size w2 v → v.cell? ⟨D, 1, none⟩ = some (.int .i64 y.err) := fun v h => (BY2.out.below h (Nat.le_refl _)).c1
  have l2 : ∀ v, Below w2.heap.size w2 v → v.cell? ⟨D, 2, none⟩ = some (.slice y.IA y.items.length y.ik) := fun v h => (BY2.out.below h (Nat.le_refl _)).c2
  have l3 : ∀ v, Below w2.heap.size w2 v → v.cell? ⟨D, 3, none⟩ = some (.int .u64 (y.version : Int)) := fun v h => (BY2.out.below h (Nat.le_refl _)).c3
  have l4 : ∀ v, Below w2.heap.size w2 v → v.cell? ⟨D, 4, none⟩ = some (.int .i64 y.count) := fun v h => (BY2.out.below h (Nat.le_refl _)).c4
  have l5 : ∀ v, Below w2.heap.size w2 v → v.cell? ⟨D, 5, none⟩ = some (.slice y.NA y.numbers.length y.nk) := fun v h => (BY2.out.below h (Nat.le_refl _)).c5
  have T : Hid (∀ W, Below w2.heap.size w2 W → Below w.heap.size w W) := fun W h => HB2.out.trans (h.mono HB2.out.size)
  have BXX := Lib.hid LC.out.bnd
  have BYY := Lib.hid LCY.out.bnd
  have BSS := Lib.hid (bnd_bareS o e ho1 ho2 he1 he2)
  have F1 : Hid (∀ W, Below w2.heap.size w2 W → Calls Try.prog 9 #[resV x] W (boolOf (validS x.r) W)) := fun W h => Sg.valid_any x W (HR.out _ (T.out _ h)) BXX.out
  have F2 : Hid (∀ W, Below w2.heap.size w2 W → Calls Try.prog 10 #[resV x] W (boolOf (validS x.r) W)) := fun W h => Sv.rvalid_any x W (HR.out _ (T.out _ h)) BXX.out
  have F3 : Hid (∀ W, Below w2.heap.size w2 W → Calls Try.prog 11 #[resV x, resV y] W (boolOf (eqR x.r y.r) W)) := fun W h => Sc.equalR_any x y W (HR.out _ (T.out _ h)) (HRY.out _ (T.out _ h)) BXX.out BYY.out
  have F4 : Hid (∀ W, Below w2.heap.size w2 W → Calls Try.prog 12 #[resV x, resV y] W (boolOf (eqR x.r y.r) W)) := fun W h => St.requal_any x y W (HR.out _ (T.out _ h)) (HRY.out _ (T.out _ h)) BXX.out BYY.out
  have F5 : Hid (∀ W, Below w2.heap.size w2 W → Calls Try.prog 13 #[resV x] W (copyPost W x)) := fun W h => copies_any x W (HR.out _ (T.out _ h)) BXX.out
  have F6 : Hid (∀ z W, Below w2.heap.size w2 W → RRc W z → z.r = x.r → z.items.length = x.items.length → Calls Try.prog 11 #[resV x, resV z] W (boolOf true W)) := fun z W h h1 h2 h3 => by
    have := Sc.equalR_any x z W (HR.out _ (T.out _ h)) h1 BXX.out (bnd_same BXX.out h2)
    rw [h2, (eqR_iff _ _).2 rfl] at this; exact this
  have F7 : Hid (∀ W, Below w2.heap.size w2 W → Calls Try.prog 8 #[] W (boolOf true W)) := fun W h => HK.out _ (T.out _ h)
  have F8 : Hid (∀ W, Calls Try.prog 14 #[.int .i64 o, .int .i64 e] W (fun en w' => en = .returned (.agg #[.int .i64 o, .int .i64 e, .slice none 0 0, .int .u64 0, .int .i64 0, .slice none 0 0]) ∧ Below W.heap.size W w')) := fun W => Sc.fail_any o e W
  have F9 : Hid (∀ W, Calls Try.prog 12 #[.agg #[.int .i64 o, .int .i64 e, .slice none 0 0, .int .u64 0, .int .i64 0, .slice none 0 0], .agg #[.int .i64 o, .int .i64 e, .slice none 0 0, .int .u64 0, .int .i64 0, .slice none 0 0]] W (boolOf true W)) := fun W => by
    have := St.requal_any (startS o e) (startS o e) W (RRc.start W o e) (RRc.start W o e) BSS.out BSS.out
    rw [(eqR_iff _ _).2 rfl] at this; exact this
  unfold resV at F1 F2 F3 F4 F5 F6
  clear ho1 ho2 he1 he2
  generalize validS x.r = vb at *
  generalize eqR x.r y.r = qb at *
  refine wp_region_noPanic ?_
  refine wp_region_held_drew (S := fun v => Below w2.heap.size w2 v) (by kernel_rfl) ((Below.refl _ _).drew) (fun hHeld => ?_)
  refine wpAnyH_take (i := 0) (oi := ⟨some 18, _, _, _, _, _⟩) (v := ?_) rfl (by kernel_rfl) (by kernel_rfl) (by kernel_rfl) (fun _ _ _ h => h) (Or.inl ⟨by rfl, ?_⟩) (by assumption) ?_
  rotate_left
  · intro w hSw; go_simp; first | done | with_reducible rfl
  try simp only [Act.put, List.setIfInBounds_toArray, List.set_cons_zero, List.set_cons_succ]
  refine wpAnyH_take (i := 2) (oi := ⟨some 20, _, _, _, _, _⟩) (v := ?_) rfl (by kernel_rfl) (by kernel_rfl) (by kernel_rfl) (fun _ _ _ h => h) (Or.inl ⟨by rfl, ?_⟩) (by assumption) ?_
  rotate_left
  · intro w hSw; go_simp; first | done | with_reducible rfl
  try simp only [Act.put, List.setIfInBounds_toArray, List.set_cons_zero, List.set_cons_succ]
  refine wpAnyH_ready (rs := [1]) (by kernel_rfl) (by simp) ?_
  refine AllReadyH.cons (o := ⟨some 19, _, _, _, _, _⟩) rfl (fun K hK => ?_) AllReadyH.nil
  go_simp
  with_reducible refine (F1.out _ hHeld).mono ?_
  rintro e u1 ⟨rfl, b1⟩
  have HU1 : Hid (Below w2.heap.size w2 u1) := hHeld.trans (b1.mono hHeld.size)
  clear b1
  go_simp
  refine hK.out _ _ (HU1.out) (fun hHeld => ?_)
  clear hK K
  try simp only [Act.put, List.setIfInBounds_toArray, List.set_cons_zero, List.set_cons_succ]
  refine wpAnyH_ready (rs := [3]) (by kernel_rfl) (by simp) ?_
  refine AllReadyH.cons (o := ⟨some 21, _, _, _, _, _⟩) rfl (fun K hK => ?_) AllReadyH.nil
  go_simp
  with_reducible refine (F2.out _ hHeld).mono ?_
  rintro e u2 ⟨rfl, b2⟩
  have HU2 : Hid (Below w2.heap.size w2 u2) := hHeld.trans (b2.mono hHeld.size)
  clear b2
  go_simp
  refine hK.out _ _ (HU2.out) (fun hHeld => ?_)
  clear hK K
  try simp only [Act.put, List.setIfInBounds_toArray, List.set_cons_zero, List.set_cons_succ]
  refine wpAnyH_take (i := 4) (oi := ⟨some 22, _, _, _, _, _⟩) (v := ?_) rfl (by kernel_rfl) (by kernel_rfl) (by kernel_rfl) (fun _ _ _ h => h) (Or.inl ⟨by rfl, ?_⟩) (by assumption) ?_
  rotate_left
  · intro w hSw; go_simp; first | done | with_reducible rfl
  try simp only [Act.put, List.setIfInBounds_toArray, List.set_cons_zero, List.set_cons_succ]
  refine wpAnyH_take (i := 5) (oi := ⟨some 23, _, _, _, _, _⟩) (v := ?_) rfl (by kernel_rfl) (by kernel_rfl) (by kernel_rfl) (fun _ _ _ h => h) (Or.inl ⟨by rfl, ?_⟩) (by assumption) ?_
  rotate_left
  · intro w hSw; go_simp; first | done | with_reducible rfl
  try simp only [Act.put, List.setIfInBounds_toArray, List.set_cons_zero, List.set_cons_succ]
  refine wpAnyH_take (i := 6) (oi := ⟨some 24, _, _, _, _, _⟩) (v := ?_) rfl (by kernel_rfl) (by kernel_rfl) (by kernel_rfl) (fun _ _ _ h => h) (Or.inl ⟨by rfl, ?_⟩) (by assumption) ?_
  rotate_left
  · intro w hSw; go_simp; first | done | with_reducible rfl
  try simp only [Act.put, List.setIfInBounds_toArray, List.set_cons_zero, List.set_cons_succ]
  refine wpAnyH_take (i := 7) (oi := ⟨some 25, _, _, _, _, _⟩) (v := ?_) rfl (by kernel_rfl) (by kernel_rfl) (by kernel_rfl) (fun _ _ _ h => h) (Or.inl ⟨by rfl, ?_⟩) (by assumption) ?_
  rotate_left
  · intro w hSw; go_simp; first | done | with_reducible rfl
  try simp only [Act.put, List.setIfInBounds_toArray, List.set_cons_zero, List.set_cons_succ]
  refine wpAnyH_take (i := 9) (oi := ⟨some 27, _, _, _, _, _⟩) (v := ?_) rfl (by kernel_rfl) (by kernel_rfl) (by kernel_rfl) (fun _ _ _ h => h) (Or.inl ⟨by rfl, ?_⟩) (by assumption) ?_
  rotate_left
  · intro w hSw; go_simp; first | done | with_reducible rfl
  try simp only [Act.put, List.setIfInBounds_toArray, List.set_cons_zero, List.set_cons_succ]
  refine wpAnyH_take (i := 10) (oi := ⟨some 28, _, _, _, _, _⟩) (v := ?_) rfl (by kernel_rfl) (by kernel_rfl) (by kernel_rfl) (fun _ _ _ h => h) (Or.inl ⟨by rfl, ?_⟩) (by assumption) ?_
  rotate_left
  · intro w hSw; go_simp; first | done | with_reducible rfl
  try simp only [Act.put, List.setIfInBounds_toArray, List.set_cons_zero, List.set_cons_succ]
  refine wpAnyH_ready (rs := [8]) (by kernel_rfl) (by simp) ?_
  refine AllReadyH.cons (o := ⟨some 26, _, _, _, _, _⟩) rfl (fun K hK => ?_) AllReadyH.nil
  go_simp
  with_reducible refine (F3.out _ hHeld).mono ?_
  rintro e u3 ⟨rfl, b3⟩
  have HU3 : Hid (Below w2.heap.size w2 u3) := hHeld.trans (b3.mono hHeld.size)
  clear b3
  go_simp
  refine hK.out _ _ (HU3.out) (fun hHeld => ?_)
  clear hK K
  try simp only [Act.put, List.setIfInBounds_toArray, List.set_cons_zero, List.set_cons_succ]
  refine wpAnyH_ready (rs := [11]) (by kernel_rfl) (by simp) ?_
  refine AllReadyH.cons (o := ⟨some 29, _, _, _, _, _⟩) rfl (fun K hK => ?_) AllReadyH.nil
  go_simp
  with_reducible refine (F4.out _ hHeld).mono ?_
  rintro e u4 ⟨rfl, b4⟩
  have HU4 : Hid (Below w2.heap.size w2 u4) := hHeld.trans (b4.mono hHeld.size)
  clear b4
  go_simp
  refine hK.out _ _ (HU4.out) (fun hHeld => ?_)
  clear hK K
  try simp only [Act.put, List.setIfInBounds_toArray, List.set_cons_zero, List.set_cons_succ]
  refine wpAnyH_take (i := 12) (oi := ⟨some 30, _, _, _, _, _⟩) (v := ?_) rfl (by kernel_rfl) (by kernel_rfl) (by kernel_rfl) (fun _ _ _ h => h) (Or.inl ⟨by rfl, ?_⟩) (by assumption) ?_
  rotate_left
  · intro w hSw; go_simp; first | done | with_reducible rfl
  try simp only [Act.put, List.setIfInBounds_toArray, List.set_cons_zero, List.set_cons_succ]
  refine wpAnyH_take (i := 13) (oi := ⟨some 31, _, _, _, _, _⟩) (v := ?_) rfl (by kernel_rfl) (by kernel_rfl) (by kernel_rfl) (fun _ _ _ h => h) (Or.inl ⟨by rfl, ?_⟩) (by assumption) ?_
  rotate_left
  · intro w hSw; go_simp; first | done | with_reducible rfl
  try simp only [Act.put, List.setIfInBounds_toArray, List.set_cons_zero, List.set_cons_succ]
  refine wpAnyH_take (i := 14) (oi := ⟨some 32, _, _, _, _, _⟩) (v := ?_) rfl (by kernel_rfl) (by kernel_rfl) (by kernel_rfl) (fun _ _ _ h => h) (Or.inl ⟨by rfl, ?_⟩) (by assumption) ?_
  rotate_left
  · intro w hSw; go_simp; first | done | with_reducible rfl
  try simp only [Act.put, List.setIfInBounds_toArray, List.set_cons_zero, List.set_cons_succ]
  refine wpAnyH_take (i := 15) (oi := ⟨some 33, _, _, _, _, _⟩) (v := ?_) rfl (by kernel_rfl) (by kernel_rfl) (by kernel_rfl) (fun _ _ _ h => h) (Or.inl ⟨by rfl, ?_⟩) (by assumption) ?_
  rotate_left
  · intro w hSw; go_simp; first | done | with_reducible rfl
  try simp only [Act.put, List.setIfInBounds_toArray, List.set_cons_zero, List.set_cons_succ]
  refine wpAnyH_take (i := 16) (oi := ⟨some 34, _, _, _, _, _⟩) (v := ?_) rfl (by kernel_rfl) (by kernel_rfl) (by kernel_rfl) (fun _ _ _ h => h) (Or.inl ⟨by rfl, ?_⟩) (by assumption) ?_
  rotate_left
  · intro w hSw; go_simp; first | done | with_reducible rfl
  try simp only [Act.put, List.setIfInBounds_toArray, List.set_cons_zero, List.set_cons_succ]
  refine wpAnyH_ready (rs := [17]) (by kernel_rfl) (by simp) ?_
  refine AllReadyH.cons (o := ⟨some 35, _, _, _, _, _⟩) rfl (fun K hK => ?_) AllReadyH.nil
  go_simp
  with_reducible refine (F5.out _ hHeld).mono ?_
  rintro e u5 ⟨z, rfl, hzc, hzl, hcp, b5⟩
  have HU5 : Hid (Below w2.heap.size w2 u5) := hHeld.trans (b5.mono hHeld.size)
  have HQ := Lib.hid (F6.out z _ HU5.out hcp.rc hzc hzl)
  unfold resV
  clear hzc hcp hzl
  clear b5
  go_simp
  refine hK.out _ _ (HU5.out) (fun hHeld => ?_)
  clear hK K
  try simp only [Act.put, List.setIfInBounds_toArray, List.set_cons_zero, List.set_cons_succ]
  refine wpAnyH_ready (rs := [18]) (by kernel_rfl) (by simp) ?_
  refine AllReadyH.cons (o := ⟨some 36, _, _, _, _, _⟩) rfl (fun K hK => ?_) AllReadyH.nil
  go_simp
  with_reducible refine HQ.out.mono ?_
  rintro e u6 ⟨rfl, b6⟩
  have HU6 : Hid (Below w2.heap.size w2 u6) := hHeld.trans (b6.mono hHeld.size)
  clear b6
  go_simp
  refine hK.out _ _ (HU6.out) (fun hHeld => ?_)
  clear hK K
  try simp only [Act.put, List.setIfInBounds_toArray, List.set_cons_zero, List.set_cons_succ]
  refine wpAnyH_take (i := 19) (oi := ⟨some 37, _, _, _, _, _⟩) (v := ?_) rfl (by kernel_rfl) (by kernel_rfl) (by kernel_rfl) (fun _ _ _ h => h) (Or.inl ⟨by rfl, ?_⟩) (by assumption) ?_
  rotate_left
  · intro w hSw; go_simp; first | done | with_reducible rfl
  try simp only [Act.put, List.setIfInBounds_toArray, List.set_cons_zero, List.set_cons_succ]
  refine wpAnyH_take (i := 20) (oi := ⟨some 38, _, _, _, _, _⟩) (v := ?_) rfl (by kernel_rfl) (by kernel_rfl) (by kernel_rfl) (fun _ _ _ h => h) (Or.inl ⟨by rfl, ?_⟩) (by assumption) ?_
  rotate_left
  · intro w hSw; go_simp; first | done | with_reducible rfl
  try simp only [Act.put, List.setIfInBounds_toArray, List.set_cons_zero, List.set_cons_succ]
  refine wpAnyH_take (i := 21) (oi := ⟨some 39, _, _, _, _, _⟩) (v := ?_) rfl (by kernel_rfl) (by kernel_rfl) (by kernel_rfl) (fun _ _ _ h => h) (Or.inl ⟨by rfl, ?_⟩) (by assumption) ?_
  rotate_left
  · intro w hSw; go_simp; first | done | with_reducible rfl
  try simp only [Act.put, List.setIfInBounds_toArray, List.set_cons_zero, List.set_cons_succ]
  refine wpAnyH_take (i := 22) (oi := ⟨some 40, _, _, _, _, _⟩) (v := ?_) rfl (by kernel_rfl) (by kernel_rfl) (by kernel_rfl) (fun _ _ _ h => h) (Or.inl ⟨by rfl, ?_⟩) (by assumption) ?_
  rotate_left
  · intro w hSw; go_simp; first | done | with_reducible rfl
  try simp only [Act.put, List.setIfInBounds_toArray, List.set_cons_zero, List.set_cons_succ]
  refine wpAnyH_take (i := 24) (oi := ⟨some 42, _, _, _, _, _⟩) (v := ?_) rfl (by kernel_rfl) (by kernel_rfl) (by kernel_rfl) (fun _ _ _ h => h) (Or.inl ⟨by rfl, ?_⟩) (by assumption) ?_
  rotate_left
  · intro w hSw; go_simp; first | done | with_reducible rfl
  try simp only [Act.put, List.setIfInBounds_toArray, List.set_cons_zero, List.set_cons_succ]
  refine wpAnyH_take (i := 25) (oi := ⟨some 43, _, _, _, _, _⟩) (v := ?_) rfl (by kernel_rfl) (by kernel_rfl) (by kernel_rfl) (fun _ _ _ h => h) (Or.inl ⟨by rfl, ?_⟩) (by assumption) ?_
  rotate_left
  · intro w hSw; go_simp; first | done | with_reducible rfl
  try simp only [Act.put, List.setIfInBounds_toArray, List.set_cons_zero, List.set_cons_succ]
  refine wpAnyH_take (i := 26) (oi := ⟨some 44, _, _, _, _, _⟩) (v := ?_) rfl (by kernel_rfl) (by kernel_rfl) (by kernel_rfl) (fun _ _ _ h => h) (Or.inl ⟨by rfl, ?_⟩) (by assumption) ?_
  rotate_left
  · intro w hSw; go_simp; first | done | with_reducible rfl
  try simp only [Act.put, List.setIfInBounds_toArray, List.set_cons_zero, List.set_cons_succ]
  refine wpAnyH_ready (rs := [23]) (by kernel_rfl) (by simp) ?_
  refine AllReadyH.cons (o := ⟨some 41, _, _, _, _, _⟩) rfl (fun K hK => ?_) AllReadyH.nil
  go_simp
  with_reducible refine (F8.out _).mono ?_
  rintro e u8 ⟨rfl, b8⟩
  have HU8 : Hid (Below w2.heap.size w2 u8) := hHeld.trans (b8.mono hHeld.size)
  clear b8
  go_simp
  refine hK.out _ _ (HU8.out) (fun hHeld => ?_)
  clear hK K
  try simp only [Act.put, List.setIfInBounds_toArray, List.set_cons_zero, List.set_cons_succ]
  refine wpAnyH_ready (rs := [27]) (by kernel_rfl) (by simp) ?_
  refine AllReadyH.cons (o := ⟨some 45, _, _, _, _, _⟩) rfl (fun K hK => ?_) AllReadyH.nil
  go_simp
  with_reducible refine (F9.out _).mono ?_
  rintro e u9 ⟨rfl, b9⟩
  have HU9 : Hid (Below w2.heap.size w2 u9) := hHeld.trans (b9.mono hHeld.size)
  clear b9
  go_simp
  refine hK.out _ _ (HU9.out) (fun hHeld => ?_)
  clear hK K
  try simp only [Act.put, List.setIfInBounds_toArray, List.set_cons_zero, List.set_cons_succ]
  refine wpAnyH_take (i := 28) (oi := ⟨some 46, _, _, _, _, _⟩) (v := ?_) rfl (by kernel_rfl) (by kernel_rfl) (by kernel_rfl) (fun _ _ _ h => h) (Or.inl ⟨by rfl, ?_⟩) (by assumption) ?_
  rotate_left
  · intro w hSw; go_simp; first | done | with_reducible rfl
  try simp only [Act.put, List.setIfInBounds_toArray, List.set_cons_zero, List.set_cons_succ]
  refine wpAnyH_take (i := 29) (oi := ⟨some 47, _, _, _, _, _⟩) (v := ?_) rfl (by kernel_rfl) (by kernel_rfl) (by kernel_rfl) (fun _ _ _ h => h) (Or.inl ⟨by rfl, ?_⟩) (by assumption) ?_
  rotate_left
  · intro w hSw; go_simp; first | done | with_reducible rfl
  try simp only [Act.put, List.setIfInBounds_toArray, List.set_cons_zero, List.set_cons_succ]
  refine wpAnyH_ready (rs := [30]) (by kernel_rfl) (by simp) ?_
  refine AllReadyH.cons (o := ⟨some 48, _, _, _, _, _⟩) rfl (fun K hK => ?_) AllReadyH.nil
  go_simp
  with_reducible refine (F7.out _ hHeld).mono ?_
  rintro e u7 ⟨rfl, b7⟩
  have HU7 : Hid (Below w2.heap.size w2 u7) := hHeld.trans (b7.mono hHeld.size)
  clear b7
  go_simp
  refine hK.out _ _ (HU7.out) (fun hHeld => ?_)
  clear hK K
  try simp only [Act.put, List.setIfInBounds_toArray, List.set_cons_zero, List.set_cons_succ]
  refine wpAnyH_take (i := 31) (oi := ⟨some 49, _, _, _, _, _⟩) (v := ?_) rfl (by kernel_rfl) (by kernel_rfl) (by kernel_rfl) (fun _ _ _ h => h) (Or.inl ⟨by rfl, ?_⟩) (by assumption) ?_
  rotate_left
  · intro w hSw; go_simp; first | done | with_reducible rfl
  try simp only [Act.put, List.setIfInBounds_toArray, List.set_cons_zero, List.set_cons_succ]
  refine wpAnyH_take (i := 32) (oi := ⟨some 8, _, _, _, _, _⟩) (v := ?_) rfl (by kernel_rfl) (by kernel_rfl) (by kernel_rfl) (fun _ _ _ h => h) (Or.inl ⟨by rfl, ?_⟩) (by assumption) ?_
  rotate_left
  · intro w hSw; go_simp; first | done | with_reducible rfl
  try simp only [Act.put, List.setIfInBounds_toArray, List.set_cons_zero, List.set_cons_succ]
  refine wpAnyH_done (by kernel_rfl) ?_ _
  refine NoPanic.normal ?_
  go_wp2_with fail
  go_ret
  exact ⟨rfl, T.out _ HU7.out⟩
end Go.Proofs.Ythlfahblnpijaaa.Sza
