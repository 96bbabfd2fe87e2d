/- Proves what package response's comparisons and Fail return. Conditions: responses of bounded parts. -/
import Derived.Test.YthlfahblnpijaaaSt
import Derived.Test.YthlfahblnpijaaaSo
import Derived.Deep.RegionHeld3
namespace Go.Proofs.Ythlfahblnpijaaa.Sc
open Go.RowKit Vm Ap Vw Va Gc Mi Mb Qm Sm Se So St

theorem bequal_any (A C : Option Addr) (l m : Bs) (c d : Nat) (w : World) (hA : Rb w A l) (hC : Rb w C m) :
    Calls Try.prog 45 #[.slice A l.length c, .slice C m.length d] w fun e w' => e = .returned (.bool (decide (l = m))) ∧ w = w' := by
  have h1 := conv_str c hA
  have h2 := conv_str d hC
  go_enter Try.func45, Try.ntmps45
  go_wp2_with fail
  go_ret
  exact ⟨ret_b (by rw [Bool.eq_iff_iff]; simp), rfl⟩
set_option maxRecDepth 100000 in
set_option maxHeartbeats 2000000 in
theorem equalI_any (a b : Im) (w : World) (ha : Rb w a.A a.i.value) (hb : Rb w b.A b.i.value) :
    Calls Try.prog 30 #[imV a, imV b] w (boolOf (eqI a.i b.i) w) := by
  unfold imV
  obtain ⟨C, hC⟩ : ∃ C, C = w.heap.size := ⟨_, rfl⟩
  obtain ⟨w0, hw0⟩ : ∃ w0, w0 = (w.alloc (imO a)).alloc (imO b) := ⟨_, rfl⟩
  have HB : Hid (Below w.heap.size w w0) := by show Below _ _ _; rw [hw0]; exact two_below _ _ _
  have bA : BoxI w0 C a := by rw [hw0, hC]; exact (BoxI.new w a).below (alloc_below _ _) (Nat.le_refl _)
  have bB : BoxI w0 (C + 1) b := by
    have h := BoxI.new (w.alloc (imO a)) b
    have e : (w.alloc (imO a)).heap.size = C + 1 := by rw [hC]; simp
    rw [e] at h; rw [hw0]; exact h
  obtain ⟨a0, a1, a2, a3, _⟩ := bA
  obtain ⟨b0, b1, b2, b3, _⟩ := bB
  have HQ := Lib.hid (bequal_any a.A b.A a.i.value b.i.value a.k b.k w0 (ha.below HB.out (Nat.le_refl _)) (hb.below HB.out (Nat.le_refl _)))
  have HE : Hid (eqI a.i b.i = (decide (a.i.mark = b.i.mark) && (decide (a.i.value = b.i.value) && (decide (a.i.version = b.i.version) && decide (a.i.dead = b.i.dead))))) := rfl
  have e1 := beq_int a.i.mark b.i.mark
  have e2 := beq_nat a.i.version b.i.version
  have e3 := beq_nat a.i.dead b.i.dead
  generalize eqI a.i b.i = E at *
  generalize decide (a.i.mark = b.i.mark) = q1 at *
  generalize decide (a.i.version = b.i.version) = q2 at *
  generalize decide (a.i.dead = b.i.dead) = q3 at *
  generalize decide (a.i.value = b.i.value) = q4 at *
  unfold imO at hw0
  clear ha hb
  cases q1
  · have HF : Hid (E = false) := by show _ = _; rw [HE.out]; simp
    go_enter Try.func30, Try.ntmps30
    go_upto_region 1 with fail
    rw [← hw0, ← hC]
    clear hw0 hC
    go_wp2_with fail
    go_ret
    exact ⟨ret_b HF.out.symm, HB.out⟩
  cases q2
  · have HF : Hid (E = false) := by show _ = _; rw [HE.out]; simp
    go_enter Try.func30, Try.ntmps30
    go_upto_region 1 with fail
    rw [← hw0, ← hC]
    clear hw0 hC
    go_wp2_with fail
    go_ret
    exact ⟨ret_b HF.out.symm, HB.out⟩
  cases q3
  · have HF : Hid (E = false) := by show _ = _; rw [HE.out]; simp
    go_enter Try.func30, Try.ntmps30
    go_upto_region 1 with fail
    rw [← hw0, ← hC]
    clear hw0 hC
    go_wp2_with fail
    go_ret
    exact ⟨ret_b HF.out.symm, HB.out⟩
  go_enter Try.func30, Try.ntmps30
  go_upto_region 1 with fail
  rw [← hw0, ← hC]
  clear hw0 hC
  go_wp2_with fail
  with_reducible refine HQ.out.mono ?_
  rintro e wx ⟨rfl, rfl⟩
  cases q4
  all_goals
    go_wp2_with fail
    go_ret
    exact ⟨ret_b (by rw [HE.out]; simp), HB.out⟩
theorem items_len {l m : List Im} (h : l.length ≠ m.length) : decide (l.map (·.i) = m.map (·.i)) = false := by
  rw [decide_eq_false_iff_not]; intro e
  have := congrArg List.length e
  simp at this; exact h this
theorem items_no {l m : List Im} {k : Nat} (h1 : k < l.length) (h2 : k < m.length) (h : eqI l[k].i m[k].i = false) : decide (l.map (·.i) = m.map (·.i)) = false := by
  rw [decide_eq_false_iff_not]; intro e
  have e2 : (l.map (·.i))[k]'(by simpa using h1) = (m.map (·.i))[k]'(by simpa using h2) := by simp only [e]
  simp only [List.getElem_map] at e2
  rw [e2, (eqI_iff _ _).2 rfl] at h; cases h
theorem items_yes {l m : List Im} (hl : l.length = m.length) (h : ∀ j (h1 : j < l.length) (h2 : j < m.length), eqI l[j].i m[j].i = true) : decide (l.map (·.i) = m.map (·.i)) = true := by
  rw [decide_eq_true_eq]
  refine List.ext_getElem (by simpa using hl) (fun j h1 h2 => ?_)
  simp only [List.getElem_map]
  exact (eqI_iff _ _).1 (h j (by simpa using h1) (by simpa using h2))
/-- A list of items reads as it should. -/
structure RIs (w : World) (A : Option Addr) (l : List Im) : Prop where
  ri : RI w A l
  rv : ∀ y ∈ l, Rb w y.A y.i.value
theorem RIs.below {w w' : World} {A : Option Addr} {l : List Im} (h : RIs w A l) {B : Nat} (hb : Below B w w') (hB : w.heap.size ≤ B) : RIs w' A l := ⟨h.ri.below hb hB, fun y hy => (h.rv y hy).below hb hB⟩
set_option maxRecDepth 100000 in
set_option maxHeartbeats 2000000 in
theorem equalF_any (A C : Option Addr) (l m : List Im) (c d : Nat) (w : World) (hA : RIs w A l) (hC : RIs w C m) (hl : l.length ≤ 1000000) (_hm : m.length ≤ 1000000) :
    Calls Try.prog 29 #[.slice A l.length c, .slice C m.length d, .func (.func 30) #[] #[]] w (boolOf (decide (l.map (·.i) = m.map (·.i))) w) := by
  obtain ⟨E, hE⟩ : ∃ E, E = decide (l.map (·.i) = m.map (·.i)) := ⟨_, rfl⟩
  rw [← hE]
  have HE := Lib.hid hE
  clear hE
  by_cases hlen : l.length = m.length
  rotate_left
  · have HF : Hid (E = false) := by show _ = _; rw [HE.out]; exact items_len hlen
    have e1 : ((l.length : Int) != m.length) = true := by rw [bne_iff_ne]; omega
    clear hlen
    go_enter Try.func29, Try.ntmps29
    go_wp2_with fail
    go_ret
    exact ⟨ret_b HF.out.symm, Below.refl _ _⟩
  have e1 : ((l.length : Int) != m.length) = false := by rw [hlen]; simp
  have HLN := Lib.hid hlen
  have HRA := Lib.hid hA
  have HRC := Lib.hid hC
  clear hlen hA hC
  go_enter Try.func29, Try.ntmps29
  go_wp2_with fail
  clear e1
  go_loopw [17] (fun i wr => ∃ (k : Nat), k ≤ l.length ∧ i = .int .i64 (k : Int) ∧ Below w.heap.size w wr ∧ (∀ j (h1 : j < l.length) (h2 : j < m.length), j < k → eqI l[j].i m[j].i = true)) (fun i _ => l.length - (intOf i).toNat)
  case atStart => exact ⟨0, Nat.zero_le _, rfl, Below.refl _ _, fun j _ _ h => by omega⟩
  case round =>
    obtain ⟨k, hk, rfl, hbw, hall⟩ := hrel
    obtain ⟨wo, rfl⟩ : ∃ wo : World, wo = wr := ⟨_, rfl⟩
    have HBW := Lib.hid hbw; have HALL := Lib.hid hall
    clear hbw hall
    by_cases hlt : k < l.length
    · have hlt2 : k < m.length := by have := HLN.out; omega
      have i1 : (k : Int) < l.length := by omega
      have i2 : (k : Int) < m.length := by omega
      have RA := Lib.hid (HRA.out.below HBW.out (Nat.le_refl _))
      have RC := Lib.hid (HRC.out.below HBW.out (Nat.le_refl _))
      obtain ⟨p1, o1, rfl, l1, c10, c11, c12, c13⟩ := RA.out.ri.at_ hlt
      obtain ⟨p2, o2, rfl, l2, c20, c21, c22, c23⟩ := RC.out.ri.at_ hlt2
      have HV1 := Lib.hid (RA.out.rv _ (List.getElem_mem hlt))
      have HV2 := Lib.hid (RC.out.rv _ (List.getElem_mem hlt2))
      have HQ : Hid (eqI l[k].i m[k].i = false → E = false) := fun h => by rw [HE.out]; exact items_no hlt hlt2 h
      have HNX : Hid (eqI l[k].i m[k].i = true → ∀ j (h1 : j < l.length) (h2 : j < m.length), j < k + 1 → eqI l[j].i m[j].i = true) := fun h j h1 h2 hj => by
        by_cases hjk : j = k
        · subst hjk; exact h
        · exact HALL.out j h1 h2 (by omega)
      obtain ⟨x, hx⟩ : ∃ x, x = l[k] := ⟨_, rfl⟩
      obtain ⟨y, hy⟩ : ∃ y, y = m[k] := ⟨_, rfl⟩
      rw [← hx] at c10 c11 c12 c13 HV1 HQ HNX
      rw [← hy] at c20 c21 c22 c23 HV2 HQ HNX
      obtain ⟨w4, hw4⟩ : ∃ w4, w4 = (wo.alloc (imO x)).alloc (imO y) := ⟨_, rfl⟩
      have b4 : Below wo.heap.size wo w4 := by rw [hw4]; exact two_below _ _ _
      obtain ⟨D, hD⟩ : ∃ D, D = wo.heap.size := ⟨_, rfl⟩
      have bA : BoxI w4 D x := by rw [hw4, hD]; exact (BoxI.new wo x).below (alloc_below _ _) (Nat.le_refl _)
      have bB : BoxI w4 (D + 1) y := by
        have h := BoxI.new (wo.alloc (imO x)) y
        have e : (wo.alloc (imO x)).heap.size = D + 1 := by rw [hD]; simp
        rw [e] at h; rw [hw4]; exact h
      obtain ⟨a0, a1, a2, a3, _⟩ := bA
      obtain ⟨b0, b1, b2, b3, _⟩ := bB
      have HIT := Lib.hid (equalI_any x y w4 (HV1.out.below b4 (Nat.le_refl _)) (HV2.out.below b4 (Nat.le_refl _)))
      have HB4 := Lib.hid (HBW.out.trans (b4.mono HBW.out.size))
      unfold imV at HIT
      unfold imO at hw4
      generalize eqI x.i y.i = eb at *
      clear hx hy HV1 HV2 b4
      go_upto_region 7 with fail
      rw [← hw4, ← hD]
      clear hw4 hD c10 c11 c12 c13 c20 c21 c22 c23 l1 l2
      go_wp2_with fail
      with_reducible refine HIT.out.mono ?_
      rintro e w5 ⟨rfl, b5⟩
      have HB5 := Lib.hid (HB4.out.trans (b5.mono HB4.out.size))
      clear b5 a0 a1 a2 a3 b0 b1 b2 b3
      cases eb
      · have HF : Hid (E = false) := HQ.out rfl
        go_wp2_with fail
        go_ret
        exact ⟨ret_b HF.out.symm, HB5.out⟩
      · go_wp2_with fail
        go_roundw
        case rel => exact ⟨k + 1, by omega, by go_num, HB5.out, HNX.out trivial⟩
        case measure => simp [intOf]; omega
    · obtain rfl : k = l.length := by omega
      have hnn : ¬ (l.length : Int) < l.length := by omega
      have HT : Hid (E = true) := by show _ = _; rw [HE.out]; exact items_yes HLN.out (fun j h1 h2 => HALL.out j h1 h2 h1)
      clear HALL
      go_wp2_with fail
      go_ret
      exact ⟨ret_b HT.out.symm, HBW.out⟩
theorem nums_no {l m : List Nat} {k : Nat} (h1 : k < l.length) (h2 : k < m.length) (h : decide (l[k] = m[k]) = false) : decide (l = m) = false := by
  rw [decide_eq_false_iff_not] at h ⊢; intro e; subst e; exact h rfl
theorem nums_yes {l m : List Nat} (hl : l.length = m.length) (h : ∀ j (h1 : j < l.length) (h2 : j < m.length), decide (l[j] = m[j]) = true) : decide (l = m) = true := by
  rw [decide_eq_true_eq]
  exact List.ext_getElem hl (fun j h1 h2 => of_decide_eq_true (h j h1 h2))
set_option maxRecDepth 100000 in
set_option maxHeartbeats 2000000 in
theorem equalN_any (A C : Option Addr) (l m : List Nat) (c d : Nat) (w : World) (hA : RN w A l) (hC : RN w C m) (hl : l.length ≤ 1000000) :
    Calls Try.prog 31 #[.slice A l.length c, .slice C m.length d] w (boolOf (decide (l = m)) w) := by
  obtain ⟨E, hE⟩ : ∃ E, E = decide (l = m) := ⟨_, rfl⟩
  rw [← hE]
  have HE := Lib.hid hE
  clear hE
  by_cases hlen : l.length = m.length
  rotate_left
  · have HF : Hid (E = false) := by show _ = _; rw [HE.out, decide_eq_false_iff_not]; intro e; exact hlen (by rw [e])
    have e1 : ((l.length : Int) != m.length) = true := by rw [bne_iff_ne]; omega
    clear hlen
    go_enter Try.func31, Try.ntmps31
    go_wp2_with fail
    go_ret
    exact ⟨ret_b HF.out.symm, Below.refl _ _⟩
  have e1 : ((l.length : Int) != m.length) = false := by rw [hlen]; simp
  have HLN := Lib.hid hlen
  have HRA := Lib.hid hA
  have HRC := Lib.hid hC
  clear hlen hA hC
  go_enter Try.func31, Try.ntmps31
  go_wp2_with fail
  clear e1
  go_loopw [13] (fun i wr => ∃ (k : Nat), k ≤ l.length ∧ i = .int .i64 (k : Int) ∧ Below w.heap.size w wr ∧ (∀ j (h1 : j < l.length) (h2 : j < m.length), j < k → decide (l[j] = m[j]) = true)) (fun i _ => l.length - (intOf i).toNat)
  case atStart => exact ⟨0, Nat.zero_le _, rfl, Below.refl _ _, fun j _ _ h => by omega⟩
  case round =>
    obtain ⟨k, hk, rfl, hbw, hall⟩ := hrel
    obtain ⟨wo, rfl⟩ : ∃ wo : World, wo = wr := ⟨_, rfl⟩
    have HBW := Lib.hid hbw; have HALL := Lib.hid hall
    clear hbw hall
    by_cases hlt : k < l.length
    · have hlt2 : k < m.length := by have := HLN.out; omega
      have i1 : (k : Int) < l.length := by omega
      have i2 : (k : Int) < m.length := by omega
      obtain ⟨p1, o1, rfl, l1, c10⟩ := (HRA.out.below HBW.out (Nat.le_refl _)).at_ hlt
      obtain ⟨p2, o2, rfl, l2, c20⟩ := (HRC.out.below HBW.out (Nat.le_refl _)).at_ hlt2
      have HQ : Hid (decide (l[k] = m[k]) = false → E = false) := fun h => by rw [HE.out]; exact nums_no hlt hlt2 h
      have HNX : Hid (decide (l[k] = m[k]) = true → ∀ j (h1 : j < l.length) (h2 : j < m.length), j < k + 1 → decide (l[j] = m[j]) = true) := fun h j h1 h2 hj => by
        by_cases hjk : j = k
        · subst hjk; exact h
        · exact HALL.out j h1 h2 (by omega)
      obtain ⟨x, hx⟩ : ∃ x, x = l[k] := ⟨_, rfl⟩
      obtain ⟨y, hy⟩ : ∃ y, y = m[k] := ⟨_, rfl⟩
      rw [← hx] at c10 HQ HNX
      rw [← hy] at c20 HQ HNX
      have qn := bne_nat x y
      obtain ⟨eb, heb⟩ : ∃ eb, eb = decide (x = y) := ⟨_, rfl⟩
      rw [← heb] at qn HQ HNX
      have m1 : ∀ v, Below wo.heap.size wo v → v.cell? ⟨p1, o1 + k, none⟩ = some (.int .u64 (x : Int)) := fun v h => by rw [h.cell (p := ⟨p1, o1 + k, none⟩) l1]; exact c10
      have m2 : ∀ v, Below wo.heap.size wo v → v.cell? ⟨p2, o2 + k, none⟩ = some (.int .u64 (y : Int)) := fun v h => by rw [h.cell (p := ⟨p2, o2 + k, none⟩) l2]; exact c20
      clear hx hy heb c10 c20
      go_wp2_with fail
      refine wp_region_noPanic ?_
      refine wp_region_held_drew (S := fun v => Below wo.heap.size wo v) (by kernel_rfl) ((Below.refl _ _).drew) (fun hHeld => ?_)
      refine wpAnyH_take (i := 0) (oi := ⟨some 16, _, _, _, _, _⟩) (v := ?_) rfl (by kernel_rfl) (by kernel_rfl) (by kernel_rfl) (fun _ _ _ h => h) (Or.inl ⟨by rfl, ?_⟩) (by assumption) ?_
      rotate_left
      · intro w hSw; go_simp; first | done | with_reducible rfl
      try simp only [Act.put, List.setIfInBounds_toArray, List.set_cons_zero, List.set_cons_succ]
      refine wpAnyH_take (i := 1) (oi := ⟨some 17, _, _, _, _, _⟩) (v := ?_) rfl (by kernel_rfl) (by kernel_rfl) (by kernel_rfl) (fun _ _ _ h => h) (Or.inl ⟨by rfl, ?_⟩) (by assumption) ?_
      rotate_left
      · intro w hSw; go_simp; first | done | with_reducible rfl
      try simp only [Act.put, List.setIfInBounds_toArray, List.set_cons_zero, List.set_cons_succ]
      refine wpAnyH_take (i := 2) (oi := ⟨some 18, _, _, _, _, _⟩) (v := ?_) rfl (by kernel_rfl) (by kernel_rfl) (by kernel_rfl) (fun _ _ _ h => h) (Or.inl ⟨by rfl, ?_⟩) (by assumption) ?_
      rotate_left
      · intro w hSw; go_simp; first | done | with_reducible rfl
      try simp only [Act.put, List.setIfInBounds_toArray, List.set_cons_zero, List.set_cons_succ]
      refine wpAnyH_take (i := 3) (oi := ⟨some 19, _, _, _, _, _⟩) (v := ?_) rfl (by kernel_rfl) (by kernel_rfl) (by kernel_rfl) (fun _ _ _ h => h) (Or.inl ⟨by rfl, ?_⟩) (by assumption) ?_
      rotate_left
      · intro w hSw; go_simp; first | done | with_reducible rfl
      try simp only [Act.put, List.setIfInBounds_toArray, List.set_cons_zero, List.set_cons_succ]
      refine wpAnyH_take (i := 4) (oi := ⟨some 20, _, _, _, _, _⟩) (v := ?_) rfl (by kernel_rfl) (by kernel_rfl) (by kernel_rfl) (fun _ _ _ h => h) (Or.inl ⟨by rfl, ?_⟩) (by assumption) ?_
      rotate_left
      · intro w hSw; go_simp; first | done | with_reducible rfl
      try simp only [Act.put, List.setIfInBounds_toArray, List.set_cons_zero, List.set_cons_succ]
      refine wpAnyH_take (i := 5) (oi := ⟨some 21, _, _, _, _, _⟩) (v := ?_) rfl (by kernel_rfl) (by kernel_rfl) (by kernel_rfl) (fun _ _ _ h => h) (Or.inl ⟨by rfl, ?_⟩) (by assumption) ?_
      rotate_left
      · intro w hSw; go_simp; first | done | with_reducible rfl
      try simp only [Act.put, List.setIfInBounds_toArray, List.set_cons_zero, List.set_cons_succ]
      refine wpAnyH_take (i := 6) (oi := ⟨some 22, _, _, _, _, _⟩) (v := ?_) rfl (by kernel_rfl) (by kernel_rfl) (by kernel_rfl) (fun _ _ _ h => h) (Or.inl ⟨by rfl, ?_⟩) (by assumption) ?_
      rotate_left
      · intro w hSw; go_simp; first | done | with_reducible rfl
      try simp only [Act.put, List.setIfInBounds_toArray, List.set_cons_zero, List.set_cons_succ]
      refine wpAnyH_take (i := 7) (oi := ⟨some 23, _, _, _, _, _⟩) (v := ?_) rfl (by kernel_rfl) (by kernel_rfl) (by kernel_rfl) (fun _ _ _ h => h) (Or.inl ⟨by rfl, ?_⟩) (by assumption) ?_
      rotate_left
      · intro w hSw; go_simp; first | done | with_reducible rfl
      try simp only [Act.put, List.setIfInBounds_toArray, List.set_cons_zero, List.set_cons_succ]
      refine wpAnyH_take (i := 8) (oi := ⟨some 24, _, _, _, _, _⟩) (v := ?_) rfl (by kernel_rfl) (by kernel_rfl) (by kernel_rfl) (fun _ _ _ h => h) (Or.inl ⟨by rfl, ?_⟩) (by assumption) ?_
      rotate_left
      · intro w hSw; go_simp; first | done | with_reducible rfl
      try simp only [Act.put, List.setIfInBounds_toArray, List.set_cons_zero, List.set_cons_succ]
      refine wpAnyH_done (by kernel_rfl) ?_ _
      refine NoPanic.normal ?_
      have HB5 := Lib.hid (HBW.out.trans (hHeld.mono HBW.out.size))
      cases eb
      · have HF : Hid (E = false) := HQ.out rfl
        go_wp2_with fail
        go_ret
        exact ⟨ret_b HF.out.symm, HB5.out⟩
      · go_wp2_with fail
        go_roundw
        case rel => exact ⟨k + 1, by omega, by go_num, HB5.out, HNX.out rfl⟩
        case measure => simp [intOf]; omega
    · obtain rfl : k = l.length := by omega
      have hnn : ¬ (l.length : Int) < l.length := by omega
      have HT : Hid (E = true) := by show _ = _; rw [HE.out]; exact nums_yes HLN.out (fun j h1 h2 => HALL.out j h1 h2 h1)
      clear HALL
      go_wp2_with fail
      go_ret
      exact ⟨ret_b HT.out.symm, HBW.out⟩
set_option maxRecDepth 100000 in
set_option maxHeartbeats 4000000 in
theorem equalR_any (a b : Res) (w : World) (hra : RRc w a) (hrb : RRc w b) (ha : BndS a) (hb : BndS b) :
    Calls Try.prog 11 #[resV a, resV b] w (boolOf (eqR a.r b.r) w) := by
  unfold resV
  obtain ⟨C, hC⟩ : ∃ C, C = w.heap.size := ⟨_, rfl⟩
  obtain ⟨w0, hw0⟩ : ∃ w0, w0 = (w.alloc (resO a)).alloc (resO b) := ⟨_, rfl⟩
  have HB : Hid (Below w.heap.size w w0) := by show Below _ _ _; rw [hw0]; exact two_below _ _ _
  have HBA : Hid (BoxS w0 C a) := by show BoxS _ _ _; rw [hw0, hC]; exact (BoxS.new w a).below (alloc_below _ _) (Nat.le_refl _)
  have HBB : Hid (BoxS w0 (C + 1) b) := by
    have h := BoxS.new (w.alloc (resO a)) b
    have e : (w.alloc (resO a)).heap.size = C + 1 := by rw [hC]; simp
    rw [e] at h; show BoxS _ _ _; rw [hw0]; exact h
  have RA := hra.below HB.out (Nat.le_refl _)
  have RB := hrb.below HB.out (Nat.le_refl _)
  have HQI := Lib.hid (equalF_any a.IA b.IA a.items b.items a.ik b.ik w0 ⟨RA.ri, RA.rv⟩ ⟨RB.ri, RB.rv⟩ (by have := ha.items; omega) (by have := hb.items; omega))
  have HQN := Lib.hid (fun W (h : Below w0.heap.size w0 W) => equalN_any a.NA b.NA a.numbers b.numbers a.nk b.nk W (RA.rn.below h (Nat.le_refl _)) (RB.rn.below h (Nat.le_refl _)) (by have := ha.numbers; omega))
  have HE : Hid (eqR a.r b.r = (decide (a.op = b.op) && (decide (a.err = b.err) && (decide (a.version = b.version) && (decide (a.count = b.count) && (decide (a.items.map (·.i) = b.items.map (·.i)) && decide (a.numbers = b.numbers))))))) := rfl
  have e1 := beq_int a.op b.op
  have e2 := beq_int a.err b.err
  have e3 := beq_nat a.version b.version
  have e4 := beq_int a.count b.count
  generalize eqR a.r b.r = E at *
  generalize decide (a.op = b.op) = q1 at *
  generalize decide (a.err = b.err) = q2 at *
  generalize decide (a.version = b.version) = q3 at *
  generalize decide (a.count = b.count) = q4 at *
  generalize decide (a.items.map (·.i) = b.items.map (·.i)) = q5 at *
  generalize decide (a.numbers = b.numbers) = q6 at *
  have za := ha.items; have zb := hb.items; have na := ha.numbers; have nb := hb.numbers
  unfold resO at hw0
  clear hra hrb ha hb RA RB
  obtain ⟨a0, a1, a2, a3, a4, a5, _⟩ := HBA.out
  obtain ⟨b0, b1, b2, b3, b4, b5, _⟩ := HBB.out
  cases q1
  · have HF : Hid (E = false) := by show _ = _; rw [HE.out]; simp
    go_enter Try.func11, Try.ntmps11
    go_upto_region 1 with fail
    rw [← hw0, ← hC]
    clear hw0 hC
    go_wp2_with fail
    go_ret
    exact ⟨ret_b HF.out.symm, HB.out⟩
  cases q2
  · have HF : Hid (E = false) := by show _ = _; rw [HE.out]; simp
    go_enter Try.func11, Try.ntmps11
    go_upto_region 1 with fail
    rw [← hw0, ← hC]
    clear hw0 hC
    go_wp2_with fail
    go_ret
    exact ⟨ret_b HF.out.symm, HB.out⟩
  cases q3
  · have HF : Hid (E = false) := by show _ = _; rw [HE.out]; simp
    go_enter Try.func11, Try.ntmps11
    go_upto_region 1 with fail
    rw [← hw0, ← hC]
    clear hw0 hC
    go_wp2_with fail
    go_ret
    exact ⟨ret_b HF.out.symm, HB.out⟩
  cases q4
  · have HF : Hid (E = false) := by show _ = _; rw [HE.out]; simp
    go_enter Try.func11, Try.ntmps11
    go_upto_region 1 with fail
    rw [← hw0, ← hC]
    clear hw0 hC
    go_wp2_with fail
    go_ret
    exact ⟨ret_b HF.out.symm, HB.out⟩
  go_enter Try.func11, Try.ntmps11
  go_upto_region 1 with fail
  rw [← hw0, ← hC]
  clear hw0 hC
  go_wp2_with fail
  with_reducible refine HQI.out.mono ?_
  rintro e w1 ⟨rfl, b1'⟩
  have HB1 := Lib.hid b1'
  clear a0 a1 a2 a3 a4 a5 b0 b1 b2 b3 b4 b5
  obtain ⟨_, _, _, _, _, a5, _⟩ := HBA.out.below b1' (Nat.le_refl _)
  obtain ⟨_, _, _, _, _, b5, _⟩ := HBB.out.below b1' (Nat.le_refl _)
  clear b1'
  cases q5
  · have HF : Hid (E = false) := by show _ = _; rw [HE.out]; simp
    go_wp2_with fail
    go_ret
    exact ⟨ret_b HF.out.symm, HB.out.trans (HB1.out.mono HB.out.size)⟩
  go_wp2_with fail
  with_reducible refine (HQN.out _ HB1.out).mono ?_
  rintro e w2 ⟨rfl, b2'⟩
  have HB2 := Lib.hid (HB1.out.trans (b2'.mono HB1.out.size))
  clear b2' a5 b5
  cases q6
  all_goals
    go_wp2_with fail
    go_ret
    exact ⟨ret_b (by rw [HE.out]; simp), HB.out.trans (HB2.out.mono HB.out.size)⟩
set_option maxRecDepth 100000 in
set_option maxHeartbeats 400000 in
theorem fail_any (op err : Int) (w : World) :
    Calls Try.prog 14 #[.int .i64 op, .int .i64 err] w (fun e w' => e = .returned (resV (startS op err)) ∧ Below w.heap.size w w') := by
  obtain ⟨C, hC⟩ : ∃ C, C = w.heap.size := ⟨_, rfl⟩
  obtain ⟨w0, hw0⟩ : ∃ w0, w0 = w.alloc (resO (startS 0 0)) := ⟨_, rfl⟩
  have HB : Hid (Below w.heap.size w w0) := by show Below _ _ _; rw [hw0]; exact alloc_below _ _
  have bz : BoxS w0 C (startS 0 0) := by rw [hw0, hC]; exact BoxS.new _ _
  have HC := Lib.hid hC
  have e0 : resO (startS 0 0) = .cells #[.int .i64 0, .int .i64 0, .slice none 0 0, .int .u64 0, .int .i64 0, .slice none 0 0] 28 := rfl
  rw [e0] at hw0
  obtain ⟨z0, z1, z2, z3, z4, z5, zun⟩ := bz
  have zu0 := zun 0; have zu1 := zun 1; have zu2 := zun 2; have zu3 := zun 3; have zu4 := zun 4; have zu5 := zun 5
  clear zun e0
  go_enter Try.func14, Try.ntmps14
  go_upto_region 1 with fail
  rw [← hw0, ← hC]
  clear hw0 hC
  go_wp2_with fail
  have HFz := put6 w0 C (.int .i64 op) (.int .i64 err) (.slice none 0 0) (.int .u64 0) (.int .i64 0) (.slice none 0 0)
  have HBf := HB.out.trans (HFz.below (B := w.heap.size) (fun j e => by have := HC.out; omega) HB.out.size)
  exact bodyPost_ret (v := .agg #[.int .i64 op, .int .i64 err, .slice none 0 0, .int .u64 0, .int .i64 0, .slice none 0 0]) (by simp [results, Try.results14, go_sem, z0, z1, z2, z3, z4, z5]) rfl ⟨rfl, HBf⟩
end Go.Proofs.Ythlfahblnpijaaa.Sc
