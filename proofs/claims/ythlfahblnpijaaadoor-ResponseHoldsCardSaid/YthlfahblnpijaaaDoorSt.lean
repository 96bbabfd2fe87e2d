/- Proves what the specification's item, Equal and only return. Conditions: responses of bounded parts. -/
import Derived.Test.YthlfahblnpijaaaDoorSe
import Derived.Deep.RegionHeld3
namespace Go.Proofs.YthlfahblnpijaaaDoor.St
open Go.RowKit Vm Ap Vw Va Gc Mi Mb Qm Sm Se

theorem beq_list (x y : Bs) : (x == y) = decide (x = y) := by rw [Bool.eq_iff_iff]; simp
theorem beq_nat (x y : Nat) : ((x : Int) == (y : Int)) = decide (x = y) := by rw [Bool.eq_iff_iff, beq_iff_eq, decide_eq_true_eq]; omega
theorem beq_int (x y : Int) : (x == y) = decide (x = y) := by rw [Bool.eq_iff_iff]; simp
theorem bne_nat (x y : Nat) : ((x : Int) != (y : Int)) = !decide (x = y) := by rw [bne, beq_nat]
theorem bne_int (x y : Int) : (x != y) = !decide (x = y) := by rw [bne, beq_int]
set_option maxRecDepth 100000 in
set_option maxHeartbeats 1000000 in
theorem item_any (a b : Im) (w : World) (ha : Rb w a.A a.i.value) (hb : Rb w b.A b.i.value) :
    Calls Tryd.prog 32 #[imV a, imV b] w (boolOf (eqI a.i b.i) w) := by
  unfold imV
  obtain ⟨w0, hw0⟩ : ∃ w0, w0 = (w.alloc (imO a)).alloc (imO b) := ⟨_, rfl⟩
  have B0 : Below w.heap.size w w0 := by rw [hw0]; exact two_below _ _ _
  have HB := Lib.hid B0
  have bxa : BoxI w0 w.heap.size a := by rw [hw0]; exact (BoxI.new _ _).below (alloc_below _ _) (Nat.le_refl _)
  have bxb : BoxI w0 (w.heap.size + 1) b := by
    have h := BoxI.new (w.alloc (imO a)) b
    have e : (w.alloc (imO a)).heap.size = w.heap.size + 1 := by simp
    rw [e] at h
    rw [hw0]; exact h
  have v1 := conv_str a.k (ha.below B0 (Nat.le_refl _))
  have v2 := conv_str b.k (hb.below B0 (Nat.le_refl _))
  obtain ⟨a0, a1, a2, a3, _⟩ := bxa
  obtain ⟨b0, b1, b2, b3, _⟩ := bxb
  unfold imO at hw0
  clear B0 ha hb
  have HV : Hid (eqI a.i b.i = (decide (a.i.mark = b.i.mark) && (decide (a.i.value = b.i.value) && (decide (a.i.version = b.i.version) && decide (a.i.dead = b.i.dead))))) := rfl
  have q0 := beq_int a.i.mark b.i.mark
  have q1 := beq_list a.i.value b.i.value
  have q2 := beq_nat a.i.version b.i.version
  have q3 := beq_nat a.i.dead b.i.dead
  generalize decide (a.i.mark = b.i.mark) = d0 at *
  generalize decide (a.i.value = b.i.value) = d1 at *
  generalize decide (a.i.version = b.i.version) = d2 at *
  generalize decide (a.i.dead = b.i.dead) = d3 at *
  cases d0
  · skip
    go_enter Tryd.func32, Tryd.ntmps32
    go_upto_region 1 with fail
    rw [← hw0]
    clear hw0
    go_wp2_with fail
    go_ret
    exact ⟨ret_b (by rw [HV.out]; rfl), HB.out⟩
  cases d1
  · skip
    go_enter Tryd.func32, Tryd.ntmps32
    go_upto_region 1 with fail
    rw [← hw0]
    clear hw0
    go_wp2_with fail
    go_ret
    exact ⟨ret_b (by rw [HV.out]; rfl), HB.out⟩
  cases d2
  · skip
    go_enter Tryd.func32, Tryd.ntmps32
    go_upto_region 1 with fail
    rw [← hw0]
    clear hw0
    go_wp2_with fail
    go_ret
    exact ⟨ret_b (by rw [HV.out]; rfl), HB.out⟩
  cases d3
  · skip
    go_enter Tryd.func32, Tryd.ntmps32
    go_upto_region 1 with fail
    rw [← hw0]
    clear hw0
    go_wp2_with fail
    go_ret
    exact ⟨ret_b (by rw [HV.out]; rfl), HB.out⟩
  go_enter Tryd.func32, Tryd.ntmps32
  go_upto_region 1 with fail
  rw [← hw0]
  clear hw0
  go_wp2_with fail
  go_ret
  exact ⟨ret_b (by rw [HV.out]; rfl), HB.out⟩

theorem eqr_items {a b : Res} {k : Nat} (h1 : k < a.items.length) (h2 : k < b.items.length) (h : eqI a.items[k].i b.items[k].i = false) : eqR a.r b.r = false := by
  rw [Bool.eq_false_iff]
  intro e
  have e1 := congrArg Rsp.items ((eqR_iff _ _).1 e)
  have e2 : (a.items.map (·.i))[k]? = (b.items.map (·.i))[k]? := congrArg (·[k]?) e1
  rw [List.getElem?_map, List.getElem?_map, List.getElem?_eq_getElem h1, List.getElem?_eq_getElem h2] at e2
  simp only [Option.map_some, Option.some.injEq] at e2
  rw [(eqI_iff _ _).2 e2] at h; cases h
theorem eqr_nums {a b : Res} {k : Nat} (h1 : k < a.numbers.length) (h2 : k < b.numbers.length) (h : decide (a.numbers[k] = b.numbers[k]) = false) : eqR a.r b.r = false := by
  rw [Bool.eq_false_iff]
  intro e
  have e1 : a.numbers = b.numbers := congrArg Rsp.numbers ((eqR_iff _ _).1 e)
  have e2 : a.numbers[k]? = b.numbers[k]? := by rw [e1]
  rw [List.getElem?_eq_getElem h1, List.getElem?_eq_getElem h2] at e2
  simp only [Option.some.injEq] at e2
  rw [decide_eq_false_iff_not] at h; exact h e2
theorem eqr_head {a b : Res} (h : (decide (a.op = b.op) && (decide (a.err = b.err) && (decide (a.version = b.version) && (decide (a.count = b.count) && (decide (a.items.length = b.items.length) && decide (a.numbers.length = b.numbers.length)))))) = false) : eqR a.r b.r = false := by
  rw [Bool.eq_false_iff]
  intro e
  have e1 := (eqR_iff _ _).1 e
  have h1 := congrArg Rsp.op e1; have h2 := congrArg Rsp.err e1; have h3 := congrArg Rsp.version e1; have h4 := congrArg Rsp.count e1
  have h5 := congrArg List.length (congrArg Rsp.items e1); have h6 := congrArg List.length (congrArg Rsp.numbers e1)
  simp only [Res.r, List.length_map] at h1 h2 h3 h4 h5 h6
  rw [decide_eq_true h1, decide_eq_true h2, decide_eq_true h3, decide_eq_true h4, decide_eq_true h5, decide_eq_true h6] at h
  cases h
theorem eqr_all {a b : Res} (h : (decide (a.op = b.op) && (decide (a.err = b.err) && (decide (a.version = b.version) && (decide (a.count = b.count) && (decide (a.items.length = b.items.length) && decide (a.numbers.length = b.numbers.length)))))) = true)
    (hi : ∀ j (h1 : j < a.items.length) (h2 : j < b.items.length), eqI a.items[j].i b.items[j].i = true) (hn : ∀ j (h1 : j < a.numbers.length) (h2 : j < b.numbers.length), decide (a.numbers[j] = b.numbers[j]) = true) : eqR a.r b.r = true := by
  simp only [Bool.and_eq_true, decide_eq_true_eq] at h
  obtain ⟨h1, h2, h3, h4, h5, h6⟩ := h
  rw [eqR_iff]
  unfold Res.r
  rw [h1, h2, h3, h4]
  congr 1
  · refine List.ext_getElem (by simpa using h5) fun j g1 g2 => ?_
    simp only [List.getElem_map]
    exact (eqI_iff _ _).1 (hi j (by simpa using g1) (by simpa using g2))
  · exact List.ext_getElem h6 fun j g1 g2 => of_decide_eq_true (hn j g1 g2)
set_option maxRecDepth 100000 in
set_option maxHeartbeats 4000000 in
theorem requal_any (a b : Res) (w : World) (hra : RRc w a) (hrb : RRc w b) (ha : BndS a) (hb : BndS b) :
    Calls Tryd.prog 18 #[resV a, resV b] w (boolOf (eqR a.r b.r) w) := by
  unfold resV
  obtain ⟨C, hC⟩ : ∃ C, C = w.heap.size := ⟨_, rfl⟩
  obtain ⟨w0, hw0⟩ : ∃ w0, w0 = (w.alloc (resO a)).alloc (resO b) := ⟨_, rfl⟩
  have B0 : Below w.heap.size w w0 := by rw [hw0]; exact two_below _ _ _
  have HB := Lib.hid B0
  have bxa : BoxS w0 C a := by rw [hw0, hC]; exact (BoxS.new _ _).below (alloc_below _ _) (Nat.le_refl _)
  have bxb : BoxS w0 (C + 1) b := by
    have h := BoxS.new (w.alloc (resO a)) b
    have e : (w.alloc (resO a)).heap.size = w.heap.size + 1 := by simp
    rw [e] at h
    rw [hw0, hC]; exact h
  have RA := Lib.hid (hra.below B0 (Nat.le_refl _))
  have RB := Lib.hid (hrb.below B0 (Nat.le_refl _))
  have HBA := Lib.hid bxa; have HBB := Lib.hid bxb
  obtain ⟨a0, a1, a2, a3, a4, a5, _⟩ := bxa
  obtain ⟨b0, b1, b2, b3, b4, b5, _⟩ := bxb
  have zi1 := ha.items; have zn1 := ha.numbers; have zi2 := hb.items; have zn2 := hb.numbers
  unfold resO at hw0
  clear B0 hra hrb ha hb
  have HH := Lib.hid (eqr_head (a := a) (b := b))
  have HA := Lib.hid (eqr_all (a := a) (b := b))
  have HQI := Lib.hid (fun k => eqr_items (a := a) (b := b) (k := k))
  have HQN := Lib.hid (fun k => eqr_nums (a := a) (b := b) (k := k))
  have q0 := bne_int a.op b.op
  have q1 := bne_int a.err b.err
  have q2 := bne_nat a.version b.version
  have q3 := bne_int a.count b.count
  have q4 := bne_nat a.items.length b.items.length
  have q5 := bne_nat a.numbers.length b.numbers.length
  have L4 : Hid (decide (a.items.length = b.items.length) = true → a.items.length = b.items.length) := fun h => of_decide_eq_true h
  have L5 : Hid (decide (a.numbers.length = b.numbers.length) = true → a.numbers.length = b.numbers.length) := fun h => of_decide_eq_true h
  obtain ⟨E, hE⟩ : ∃ E, E = eqR a.r b.r := ⟨_, rfl⟩
  rw [← hE] at HH HA HQI HQN
  rw [← hE]
  clear hE
  generalize decide (a.op = b.op) = d0 at *
  generalize decide (a.err = b.err) = d1 at *
  generalize decide (a.version = b.version) = d2 at *
  generalize decide (a.count = b.count) = d3 at *
  generalize decide (a.items.length = b.items.length) = d4 at *
  generalize decide (a.numbers.length = b.numbers.length) = d5 at *
  cases d0
  · have HF : Hid (E = false) := HH.out rfl
    go_enter Tryd.func18, Tryd.ntmps18
    go_upto_region 1 with fail
    rw [← hw0, ← hC]
    clear hw0 hC
    go_wp2_with fail
    go_ret
    exact ⟨ret_b HF.out.symm, HB.out⟩
  cases d1
  · have HF : Hid (E = false) := HH.out rfl
    go_enter Tryd.func18, Tryd.ntmps18
    go_upto_region 1 with fail
    rw [← hw0, ← hC]
    clear hw0 hC
    go_wp2_with fail
    go_ret
    exact ⟨ret_b HF.out.symm, HB.out⟩
  cases d2
  · have HF : Hid (E = false) := HH.out rfl
    go_enter Tryd.func18, Tryd.ntmps18
    go_upto_region 1 with fail
    rw [← hw0, ← hC]
    clear hw0 hC
    go_wp2_with fail
    go_ret
    exact ⟨ret_b HF.out.symm, HB.out⟩
  cases d3
  · have HF : Hid (E = false) := HH.out rfl
    go_enter Tryd.func18, Tryd.ntmps18
    go_upto_region 1 with fail
    rw [← hw0, ← hC]
    clear hw0 hC
    go_wp2_with fail
    go_ret
    exact ⟨ret_b HF.out.symm, HB.out⟩
  cases d4
  · have HF : Hid (E = false) := HH.out rfl
    go_enter Tryd.func18, Tryd.ntmps18
    go_upto_region 1 with fail
    rw [← hw0, ← hC]
    clear hw0 hC
    go_wp2_with fail
    go_ret
    exact ⟨ret_b HF.out.symm, HB.out⟩
  cases d5
  · have HF : Hid (E = false) := HH.out rfl
    go_enter Tryd.func18, Tryd.ntmps18
    go_upto_region 1 with fail
    rw [← hw0, ← hC]
    clear hw0 hC
    go_wp2_with fail
    go_ret
    exact ⟨ret_b HF.out.symm, HB.out⟩
  have LI := Lib.hid (L4.out rfl)
  have LN := Lib.hid (L5.out rfl)
  go_enter Tryd.func18, Tryd.ntmps18
  go_upto_region 1 with fail
  rw [← hw0, ← hC]
  have HC := Lib.hid hC
  clear hw0 hC
  go_wp2_with fail
  clear q0 q1 q2 q3 q4 q5 a0 a1 a2 a3 a4 a5 b0 b1 b2 b3 b4 b5 L4 L5 HH
  go_loopw [5] (fun i wr => ∃ (k : Nat), k ≤ a.items.length ∧ i = .int .i64 (k : Int) ∧ Below w0.heap.size w0 wr ∧ (∀ j (h1 : j < a.items.length) (h2 : j < b.items.length), j < k → eqI a.items[j].i b.items[j].i = true)) (fun i _ => a.items.length - (intOf i).toNat)
  case atStart => exact ⟨0, Nat.zero_le _, rfl, Below.refl _ _, fun j _ _ h => by omega⟩
  case round =>
    obtain ⟨k, hk, rfl, hbw, hall⟩ := hrel
    obtain ⟨wo, rfl⟩ : ∃ wo : World, wo = wr := ⟨_, rfl⟩
    have HBW := Lib.hid hbw; have HALL := Lib.hid hall
    clear hbw hall
    obtain ⟨a0, a1, a2, a3, a4, a5, _⟩ := HBA.out.below HBW.out (Nat.le_refl _)
    by_cases hlt : k < a.items.length
    · have hlt2 : k < b.items.length := by have := LI.out; omega
      have i1 : (k : Int) < a.items.length := by omega
      have i2 : (k : Int) < b.items.length := by omega
      obtain ⟨p1, o1, e1, l1, c10, c11, c12, c13⟩ := (RA.out.ri.below HBW.out (Nat.le_refl _)).at_ hlt
      obtain ⟨p2, o2, e2, l2, c20, c21, c22, c23⟩ := (RB.out.ri.below HBW.out (Nat.le_refl _)).at_ hlt2
      have HIT := Lib.hid (fun W (h : Below wo.heap.size wo W) => item_any a.items[k] b.items[k] W ((RA.out.rv _ (List.getElem_mem hlt)).below (HBW.out.trans (h.mono HBW.out.size)) (Nat.le_refl _)) ((RB.out.rv _ (List.getElem_mem hlt2)).below (HBW.out.trans (h.mono HBW.out.size)) (Nat.le_refl _)))
      have HQ := Lib.hid (fun h => HQI.out k hlt hlt2 h)
      have HNX : Hid (eqI a.items[k].i b.items[k].i = true → ∀ j (h1 : j < a.items.length) (h2 : j < b.items.length), j < k + 1 → eqI a.items[j].i b.items[j].i = true) := fun h j h1 h2 hj => by
        by_cases hjk : j = k
        · subst hjk; exact h
        · exact HALL.out j h1 h2 (by omega)
      obtain ⟨x, hx⟩ : ∃ x, x = a.items[k] := ⟨_, rfl⟩
      obtain ⟨y, hy⟩ : ∃ y, y = b.items[k] := ⟨_, rfl⟩
      rw [← hx] at c10 c11 c12 c13 HIT HQ HNX
      rw [← hy] at c20 c21 c22 c23 HIT HQ HNX
      unfold imV at HIT
      obtain ⟨eb, heb⟩ : ∃ eb, eb = eqI x.i y.i := ⟨_, rfl⟩
      rw [← heb] at HIT HQ HNX
      have hCL : C < w0.heap.size := HBA.out.lt
      have hCL1 : C + 1 < w0.heap.size := HBB.out.lt
      have hw0o := HBW.out.size
      have k2 : ∀ u, Below wo.heap.size wo u → u.cell? ⟨C, 2, none⟩ = some (.slice (some ⟨p1, o1, none⟩) a.items.length a.ik) := fun u h => by rw [← e1]; exact (HBA.out.below (HBW.out.trans (h.mono hw0o)) (Nat.le_refl _)).c2
      have m2 : ∀ u, Below wo.heap.size wo u → u.cell? ⟨C + 1, 2, none⟩ = some (.slice (some ⟨p2, o2, none⟩) b.items.length b.ik) := fun u h => by rw [← e2]; exact (HBB.out.below (HBW.out.trans (h.mono hw0o)) (Nat.le_refl _)).c2
      have f10 : ∀ u, Below wo.heap.size wo u → u.cell? ⟨p1, o1 + k * 4, none⟩ = some (.int .i64 x.i.mark) := fun u h => by rw [h.cell (p := ⟨p1, o1 + k * 4, none⟩) l1]; exact c10
      have f11 : ∀ u, Below wo.heap.size wo u → u.cell? ⟨p1, o1 + k * 4 + 1, none⟩ = some (.slice x.A x.i.value.length x.k) := fun u h => by rw [h.cell (p := ⟨p1, o1 + k * 4 + 1, none⟩) l1]; exact c11
      have f12 : ∀ u, Below wo.heap.size wo u → u.cell? ⟨p1, o1 + k * 4 + 2, none⟩ = some (.int .u64 (x.i.version : Int)) := fun u h => by rw [h.cell (p := ⟨p1, o1 + k * 4 + 2, none⟩) l1]; exact c12
      have f13 : ∀ u, Below wo.heap.size wo u → u.cell? ⟨p1, o1 + k * 4 + 3, none⟩ = some (.int .u64 (x.i.dead : Int)) := fun u h => by rw [h.cell (p := ⟨p1, o1 + k * 4 + 3, none⟩) l1]; exact c13
      have f20 : ∀ u, Below wo.heap.size wo u → u.cell? ⟨p2, o2 + k * 4, none⟩ = some (.int .i64 y.i.mark) := fun u h => by rw [h.cell (p := ⟨p2, o2 + k * 4, none⟩) l2]; exact c20
      have f21 : ∀ u, Below wo.heap.size wo u → u.cell? ⟨p2, o2 + k * 4 + 1, none⟩ = some (.slice y.A y.i.value.length y.k) := fun u h => by rw [h.cell (p := ⟨p2, o2 + k * 4 + 1, none⟩) l2]; exact c21
      have f22 : ∀ u, Below wo.heap.size wo u → u.cell? ⟨p2, o2 + k * 4 + 2, none⟩ = some (.int .u64 (y.i.version : Int)) := fun u h => by rw [h.cell (p := ⟨p2, o2 + k * 4 + 2, none⟩) l2]; exact c22
      have f23 : ∀ u, Below wo.heap.size wo u → u.cell? ⟨p2, o2 + k * 4 + 3, none⟩ = some (.int .u64 (y.i.dead : Int)) := fun u h => by rw [h.cell (p := ⟨p2, o2 + k * 4 + 3, none⟩) l2]; exact c23
      clear hx hy heb e1 e2 c10 c11 c12 c13 c20 c21 c22 c23
      go_wp2_with fail
      refine wp_region_noPanic ?_
      refine wp_region_held_drew (S := fun u => Below wo.heap.size wo u) (by kernel_rfl) ((Below.refl _ _).drew) (fun hHeld => ?_)
      refine wpAnyH_take (i := 0) (oi := ⟨some 58, _, _, _, _, _⟩) (v := ?_) rfl (by kernel_rfl) (by kernel_rfl) (by kernel_rfl) (fun _ _ _ h => h) (Or.inl ⟨by rfl, ?_⟩) (by assumption) ?_
      rotate_left
      · intro w hSw; go_simp; first | done | with_reducible rfl
      try simp only [Act.put, List.setIfInBounds_toArray, List.set_cons_zero, List.set_cons_succ]
      refine wpAnyH_take (i := 1) (oi := ⟨some 59, _, _, _, _, _⟩) (v := ?_) rfl (by kernel_rfl) (by kernel_rfl) (by kernel_rfl) (fun _ _ _ h => h) (Or.inl ⟨by rfl, ?_⟩) (by assumption) ?_
      rotate_left
      · intro w hSw; go_simp; first | done | with_reducible rfl
      try simp only [Act.put, List.setIfInBounds_toArray, List.set_cons_zero, List.set_cons_succ]
      refine wpAnyH_take (i := 2) (oi := ⟨some 60, _, _, _, _, _⟩) (v := ?_) rfl (by kernel_rfl) (by kernel_rfl) (by kernel_rfl) (fun _ _ _ h => h) (Or.inl ⟨by rfl, ?_⟩) (by assumption) ?_
      rotate_left
      · intro w hSw; go_simp; first | done | with_reducible rfl
      try simp only [Act.put, List.setIfInBounds_toArray, List.set_cons_zero, List.set_cons_succ]
      refine wpAnyH_take (i := 3) (oi := ⟨some 61, _, _, _, _, _⟩) (v := ?_) rfl (by kernel_rfl) (by kernel_rfl) (by kernel_rfl) (fun _ _ _ h => h) (Or.inl ⟨by rfl, ?_⟩) (by assumption) ?_
      rotate_left
      · intro w hSw; go_simp; first | done | with_reducible rfl
      try simp only [Act.put, List.setIfInBounds_toArray, List.set_cons_zero, List.set_cons_succ]
      refine wpAnyH_take (i := 4) (oi := ⟨some 62, _, _, _, _, _⟩) (v := ?_) rfl (by kernel_rfl) (by kernel_rfl) (by kernel_rfl) (fun _ _ _ h => h) (Or.inl ⟨by rfl, ?_⟩) (by assumption) ?_
      rotate_left
      · intro w hSw; go_simp; first | done | with_reducible rfl
      try simp only [Act.put, List.setIfInBounds_toArray, List.set_cons_zero, List.set_cons_succ]
      refine wpAnyH_take (i := 5) (oi := ⟨some 63, _, _, _, _, _⟩) (v := ?_) rfl (by kernel_rfl) (by kernel_rfl) (by kernel_rfl) (fun _ _ _ h => h) (Or.inl ⟨by rfl, ?_⟩) (by assumption) ?_
      rotate_left
      · intro w hSw; go_simp; first | done | with_reducible rfl
      try simp only [Act.put, List.setIfInBounds_toArray, List.set_cons_zero, List.set_cons_succ]
      refine wpAnyH_take (i := 6) (oi := ⟨some 64, _, _, _, _, _⟩) (v := ?_) rfl (by kernel_rfl) (by kernel_rfl) (by kernel_rfl) (fun _ _ _ h => h) (Or.inl ⟨by rfl, ?_⟩) (by assumption) ?_
      rotate_left
      · intro w hSw; go_simp; first | done | with_reducible rfl
      try simp only [Act.put, List.setIfInBounds_toArray, List.set_cons_zero, List.set_cons_succ]
      refine wpAnyH_take (i := 7) (oi := ⟨some 65, _, _, _, _, _⟩) (v := ?_) rfl (by kernel_rfl) (by kernel_rfl) (by kernel_rfl) (fun _ _ _ h => h) (Or.inl ⟨by rfl, ?_⟩) (by assumption) ?_
      rotate_left
      · intro w hSw; go_simp; first | done | with_reducible rfl
      try simp only [Act.put, List.setIfInBounds_toArray, List.set_cons_zero, List.set_cons_succ]
      refine wpAnyH_take (i := 8) (oi := ⟨some 66, _, _, _, _, _⟩) (v := ?_) rfl (by kernel_rfl) (by kernel_rfl) (by kernel_rfl) (fun _ _ _ h => h) (Or.inl ⟨by rfl, ?_⟩) (by assumption) ?_
      rotate_left
      · intro w hSw; go_simp; first | done | with_reducible rfl
      try simp only [Act.put, List.setIfInBounds_toArray, List.set_cons_zero, List.set_cons_succ]
      refine wpAnyH_take (i := 9) (oi := ⟨some 67, _, _, _, _, _⟩) (v := ?_) rfl (by kernel_rfl) (by kernel_rfl) (by kernel_rfl) (fun _ _ _ h => h) (Or.inl ⟨by rfl, ?_⟩) (by assumption) ?_
      rotate_left
      · intro w hSw; go_simp; first | done | with_reducible rfl
      try simp only [Act.put, List.setIfInBounds_toArray, List.set_cons_zero, List.set_cons_succ]
      refine wpAnyH_ready (rs := [10]) (by kernel_rfl) (by simp) ?_
      refine AllReadyH.cons (o := ⟨some 68, _, _, _, _, _⟩) rfl (fun K hK => ?_) AllReadyH.nil
      go_simp
      with_reducible refine (HIT.out _ hHeld).mono ?_
      rintro e u1 ⟨rfl, b1⟩
      have HU1 : Hid (Below wo.heap.size wo u1) := hHeld.trans (b1.mono hHeld.size)
      clear b1
      go_simp
      refine hK.out _ _ (HU1.out) (fun hHeld => ?_)
      clear hK K
      try simp only [Act.put, List.setIfInBounds_toArray, List.set_cons_zero, List.set_cons_succ]
      refine wpAnyH_take (i := 11) (oi := ⟨some 69, _, _, _, _, _⟩) (v := ?_) rfl (by kernel_rfl) (by kernel_rfl) (by kernel_rfl) (fun _ _ _ h => h) (Or.inl ⟨by rfl, ?_⟩) (by assumption) ?_
      rotate_left
      · intro w hSw; go_simp; first | done | with_reducible rfl
      try simp only [Act.put, List.setIfInBounds_toArray, List.set_cons_zero, List.set_cons_succ]
      refine wpAnyH_done (by kernel_rfl) ?_ _
      refine NoPanic.normal ?_
      have HBU := Lib.hid (HBW.out.trans (HU1.out.mono hw0o))
      cases eb
      · have HF : Hid (E = false) := HQ.out rfl
        go_wp2_with fail
        go_ret
        exact ⟨ret_b HF.out.symm, HB.out.trans (HBU.out.mono HB.out.size)⟩
      · go_wp2_with fail
        go_roundw
        case rel => exact ⟨k + 1, by omega, by go_num, HBU.out, HNX.out rfl⟩
        case measure => simp [intOf]; omega
    · obtain rfl : k = a.items.length := by omega
      have hnn : ¬ (a.items.length : Int) < a.items.length := by omega
      go_wp2_with fail
      clear a0 a1 a2 a3 a4 a5
      have HAI : Hid (∀ j (h1 : j < a.items.length) (h2 : j < b.items.length), eqI a.items[j].i b.items[j].i = true) := fun j h1 h2 => HALL.out j h1 h2 h1
      go_loopw [6] (fun i wr => ∃ (k : Nat), k ≤ a.numbers.length ∧ i = .int .i64 (k : Int) ∧ Below w0.heap.size w0 wr ∧ (∀ j (h1 : j < a.numbers.length) (h2 : j < b.numbers.length), j < k → decide (a.numbers[j] = b.numbers[j]) = true)) (fun i _ => a.numbers.length - (intOf i).toNat)
      case atStart => exact ⟨0, Nat.zero_le _, rfl, HBW.out, fun j _ _ h => by omega⟩
      case round =>
        obtain ⟨k, hk, rfl, hbw, hall⟩ := hrel
        obtain ⟨wo2, rfl⟩ : ∃ wo2 : World, wo2 = wr := ⟨_, rfl⟩
        have HBX := Lib.hid hbw; have HALL2 := Lib.hid hall
        clear hbw hall
        obtain ⟨a0, a1, a2, a3, a4, a5, _⟩ := HBA.out.below HBX.out (Nat.le_refl _)
        by_cases hlt : k < a.numbers.length
        · have hlt2 : k < b.numbers.length := by have := LN.out; omega
          have i1 : (k : Int) < a.numbers.length := by omega
          have i2 : (k : Int) < b.numbers.length := by omega
          obtain ⟨p1, o1, e1, l1, c10⟩ := (RA.out.rn.below HBX.out (Nat.le_refl _)).at_ hlt
          obtain ⟨p2, o2, e2, l2, c20⟩ := (RB.out.rn.below HBX.out (Nat.le_refl _)).at_ hlt2
          have HQ := Lib.hid (fun h => HQN.out k hlt hlt2 h)
          have HNX : Hid (decide (a.numbers[k] = b.numbers[k]) = true → ∀ j (h1 : j < a.numbers.length) (h2 : j < b.numbers.length), j < k + 1 → decide (a.numbers[j] = b.numbers[j]) = true) := fun h j h1 h2 hj => by
            by_cases hjk : j = k
            · subst hjk; exact h
            · exact HALL2.out j h1 h2 (by omega)
          obtain ⟨x, hx⟩ : ∃ x, x = a.numbers[k] := ⟨_, rfl⟩
          obtain ⟨y, hy⟩ : ∃ y, y = b.numbers[k] := ⟨_, rfl⟩
          rw [← hx] at c10 HQ HNX
          rw [← hy] at c20 HQ HNX
          have qn := bne_nat x y
          obtain ⟨eb, heb⟩ : ∃ eb, eb = decide (x = y) := ⟨_, rfl⟩
          rw [← heb] at qn HQ HNX
          have hw0o := HBX.out.size
          have k2 : ∀ u, Below wo2.heap.size wo2 u → u.cell? ⟨C, 5, none⟩ = some (.slice (some ⟨p1, o1, none⟩) a.numbers.length a.nk) := fun u h => by rw [← e1]; exact (HBA.out.below (HBX.out.trans (h.mono hw0o)) (Nat.le_refl _)).c5
          have m2 : ∀ u, Below wo2.heap.size wo2 u → u.cell? ⟨C + 1, 5, none⟩ = some (.slice (some ⟨p2, o2, none⟩) b.numbers.length b.nk) := fun u h => by rw [← e2]; exact (HBB.out.below (HBX.out.trans (h.mono hw0o)) (Nat.le_refl _)).c5
          have f10 : ∀ u, Below wo2.heap.size wo2 u → u.cell? ⟨p1, o1 + k, none⟩ = some (.int .u64 (x : Int)) := fun u h => by rw [h.cell (p := ⟨p1, o1 + k, none⟩) l1]; exact c10
          have f20 : ∀ u, Below wo2.heap.size wo2 u → u.cell? ⟨p2, o2 + k, none⟩ = some (.int .u64 (y : Int)) := fun u h => by rw [h.cell (p := ⟨p2, o2 + k, none⟩) l2]; exact c20
          clear hx hy heb e1 e2 c10 c20
          cases eb
          · have HF : Hid (E = false) := HQ.out rfl
            go_wp2_with fail
            refine wp_region_noPanic ?_
            refine wp_region_held_drew (S := fun u => Below wo2.heap.size wo2 u) (by kernel_rfl) ((Below.refl _ _).drew) (fun hHeld => ?_)
            refine wpAnyH_take (i := 0) (oi := ⟨some 77, _, _, _, _, _⟩) (v := ?_) rfl (by kernel_rfl) (by kernel_rfl) (by kernel_rfl) (fun _ _ _ h => h) (Or.inl ⟨by rfl, ?_⟩) (by assumption) ?_
            rotate_left
            · intro w hSw; go_simp; first | done | with_reducible rfl
            try simp only [Act.put, List.setIfInBounds_toArray, List.set_cons_zero, List.set_cons_succ]
            refine wpAnyH_take (i := 1) (oi := ⟨some 78, _, _, _, _, _⟩) (v := ?_) rfl (by kernel_rfl) (by kernel_rfl) (by kernel_rfl) (fun _ _ _ h => h) (Or.inl ⟨by rfl, ?_⟩) (by assumption) ?_
            rotate_left
            · intro w hSw; go_simp; first | done | with_reducible rfl
            try simp only [Act.put, List.setIfInBounds_toArray, List.set_cons_zero, List.set_cons_succ]
            refine wpAnyH_take (i := 2) (oi := ⟨some 79, _, _, _, _, _⟩) (v := ?_) rfl (by kernel_rfl) (by kernel_rfl) (by kernel_rfl) (fun _ _ _ h => h) (Or.inl ⟨by rfl, ?_⟩) (by assumption) ?_
            rotate_left
            · intro w hSw; go_simp; first | done | with_reducible rfl
            try simp only [Act.put, List.setIfInBounds_toArray, List.set_cons_zero, List.set_cons_succ]
            refine wpAnyH_take (i := 3) (oi := ⟨some 80, _, _, _, _, _⟩) (v := ?_) rfl (by kernel_rfl) (by kernel_rfl) (by kernel_rfl) (fun _ _ _ h => h) (Or.inl ⟨by rfl, ?_⟩) (by assumption) ?_
            rotate_left
            · intro w hSw; go_simp; first | done | with_reducible rfl
            try simp only [Act.put, List.setIfInBounds_toArray, List.set_cons_zero, List.set_cons_succ]
            refine wpAnyH_take (i := 4) (oi := ⟨some 81, _, _, _, _, _⟩) (v := ?_) rfl (by kernel_rfl) (by kernel_rfl) (by kernel_rfl) (fun _ _ _ h => h) (Or.inl ⟨by rfl, ?_⟩) (by assumption) ?_
            rotate_left
            · intro w hSw; go_simp; first | done | with_reducible rfl
            try simp only [Act.put, List.setIfInBounds_toArray, List.set_cons_zero, List.set_cons_succ]
            refine wpAnyH_take (i := 5) (oi := ⟨some 82, _, _, _, _, _⟩) (v := ?_) rfl (by kernel_rfl) (by kernel_rfl) (by kernel_rfl) (fun _ _ _ h => h) (Or.inl ⟨by rfl, ?_⟩) (by assumption) ?_
            rotate_left
            · intro w hSw; go_simp; first | done | with_reducible rfl
            try simp only [Act.put, List.setIfInBounds_toArray, List.set_cons_zero, List.set_cons_succ]
            refine wpAnyH_take (i := 6) (oi := ⟨some 83, _, _, _, _, _⟩) (v := ?_) rfl (by kernel_rfl) (by kernel_rfl) (by kernel_rfl) (fun _ _ _ h => h) (Or.inl ⟨by rfl, ?_⟩) (by assumption) ?_
            rotate_left
            · intro w hSw; go_simp; first | done | with_reducible rfl
            try simp only [Act.put, List.setIfInBounds_toArray, List.set_cons_zero, List.set_cons_succ]
            refine wpAnyH_take (i := 7) (oi := ⟨some 84, _, _, _, _, _⟩) (v := ?_) rfl (by kernel_rfl) (by kernel_rfl) (by kernel_rfl) (fun _ _ _ h => h) (Or.inl ⟨by rfl, ?_⟩) (by assumption) ?_
            rotate_left
            · intro w hSw; go_simp; first | done | with_reducible rfl
            try simp only [Act.put, List.setIfInBounds_toArray, List.set_cons_zero, List.set_cons_succ]
            refine wpAnyH_take (i := 8) (oi := ⟨some 85, _, _, _, _, _⟩) (v := ?_) rfl (by kernel_rfl) (by kernel_rfl) (by kernel_rfl) (fun _ _ _ h => h) (Or.inl ⟨by rfl, ?_⟩) (by assumption) ?_
            rotate_left
            · intro w hSw; go_simp; first | done | with_reducible rfl
            try simp only [Act.put, List.setIfInBounds_toArray, List.set_cons_zero, List.set_cons_succ]
            refine wpAnyH_take (i := 9) (oi := ⟨some 86, _, _, _, _, _⟩) (v := ?_) rfl (by kernel_rfl) (by kernel_rfl) (by kernel_rfl) (fun _ _ _ h => h) (Or.inl ⟨by rfl, ?_⟩) (by assumption) ?_
            rotate_left
            · intro w hSw; go_simp; first | done | with_reducible rfl
            try simp only [Act.put, List.setIfInBounds_toArray, List.set_cons_zero, List.set_cons_succ]
            refine wpAnyH_take (i := 10) (oi := ⟨some 87, _, _, _, _, _⟩) (v := ?_) rfl (by kernel_rfl) (by kernel_rfl) (by kernel_rfl) (fun _ _ _ h => h) (Or.inl ⟨by rfl, ?_⟩) (by assumption) ?_
            rotate_left
            · intro w hSw; go_simp; first | done | with_reducible rfl
            try simp only [Act.put, List.setIfInBounds_toArray, List.set_cons_zero, List.set_cons_succ]
            refine wpAnyH_done (by kernel_rfl) ?_ _
            refine NoPanic.normal ?_
            go_wp2_with fail
            go_ret
            exact ⟨ret_b HF.out.symm, HB.out.trans ((HBX.out.trans (hHeld.mono hw0o)).mono HB.out.size)⟩
          · go_wp2_with fail
            refine wp_region_noPanic ?_
            refine wp_region_held_drew (S := fun u => Below wo2.heap.size wo2 u) (by kernel_rfl) ((Below.refl _ _).drew) (fun hHeld => ?_)
            refine wpAnyH_take (i := 0) (oi := ⟨some 77, _, _, _, _, _⟩) (v := ?_) rfl (by kernel_rfl) (by kernel_rfl) (by kernel_rfl) (fun _ _ _ h => h) (Or.inl ⟨by rfl, ?_⟩) (by assumption) ?_
            rotate_left
            · intro w hSw; go_simp; first | done | with_reducible rfl
            try simp only [Act.put, List.setIfInBounds_toArray, List.set_cons_zero, List.set_cons_succ]
            refine wpAnyH_take (i := 1) (oi := ⟨some 78, _, _, _, _, _⟩) (v := ?_) rfl (by kernel_rfl) (by kernel_rfl) (by kernel_rfl) (fun _ _ _ h => h) (Or.inl ⟨by rfl, ?_⟩) (by assumption) ?_
            rotate_left
            · intro w hSw; go_simp; first | done | with_reducible rfl
            try simp only [Act.put, List.setIfInBounds_toArray, List.set_cons_zero, List.set_cons_succ]
            refine wpAnyH_take (i := 2) (oi := ⟨some 79, _, _, _, _, _⟩) (v := ?_) rfl (by kernel_rfl) (by kernel_rfl) (by kernel_rfl) (fun _ _ _ h => h) (Or.inl ⟨by rfl, ?_⟩) (by assumption) ?_
            rotate_left
            · intro w hSw; go_simp; first | done | with_reducible rfl
            try simp only [Act.put, List.setIfInBounds_toArray, List.set_cons_zero, List.set_cons_succ]
            refine wpAnyH_take (i := 3) (oi := ⟨some 80, _, _, _, _, _⟩) (v := ?_) rfl (by kernel_rfl) (by kernel_rfl) (by kernel_rfl) (fun _ _ _ h => h) (Or.inl ⟨by rfl, ?_⟩) (by assumption) ?_
            rotate_left
            · intro w hSw; go_simp; first | done | with_reducible rfl
            try simp only [Act.put, List.setIfInBounds_toArray, List.set_cons_zero, List.set_cons_succ]
            refine wpAnyH_take (i := 4) (oi := ⟨some 81, _, _, _, _, _⟩) (v := ?_) rfl (by kernel_rfl) (by kernel_rfl) (by kernel_rfl) (fun _ _ _ h => h) (Or.inl ⟨by rfl, ?_⟩) (by assumption) ?_
            rotate_left
            · intro w hSw; go_simp; first | done | with_reducible rfl
            try simp only [Act.put, List.setIfInBounds_toArray, List.set_cons_zero, List.set_cons_succ]
            refine wpAnyH_take (i := 5) (oi := ⟨some 82, _, _, _, _, _⟩) (v := ?_) rfl (by kernel_rfl) (by kernel_rfl) (by kernel_rfl) (fun _ _ _ h => h) (Or.inl ⟨by rfl, ?_⟩) (by assumption) ?_
            rotate_left
            · intro w hSw; go_simp; first | done | with_reducible rfl
            try simp only [Act.put, List.setIfInBounds_toArray, List.set_cons_zero, List.set_cons_succ]
            refine wpAnyH_take (i := 6) (oi := ⟨some 83, _, _, _, _, _⟩) (v := ?_) rfl (by kernel_rfl) (by kernel_rfl) (by kernel_rfl) (fun _ _ _ h => h) (Or.inl ⟨by rfl, ?_⟩) (by assumption) ?_
            rotate_left
            · intro w hSw; go_simp; first | done | with_reducible rfl
            try simp only [Act.put, List.setIfInBounds_toArray, List.set_cons_zero, List.set_cons_succ]
            refine wpAnyH_take (i := 7) (oi := ⟨some 84, _, _, _, _, _⟩) (v := ?_) rfl (by kernel_rfl) (by kernel_rfl) (by kernel_rfl) (fun _ _ _ h => h) (Or.inl ⟨by rfl, ?_⟩) (by assumption) ?_
            rotate_left
            · intro w hSw; go_simp; first | done | with_reducible rfl
            try simp only [Act.put, List.setIfInBounds_toArray, List.set_cons_zero, List.set_cons_succ]
            refine wpAnyH_take (i := 8) (oi := ⟨some 85, _, _, _, _, _⟩) (v := ?_) rfl (by kernel_rfl) (by kernel_rfl) (by kernel_rfl) (fun _ _ _ h => h) (Or.inl ⟨by rfl, ?_⟩) (by assumption) ?_
            rotate_left
            · intro w hSw; go_simp; first | done | with_reducible rfl
            try simp only [Act.put, List.setIfInBounds_toArray, List.set_cons_zero, List.set_cons_succ]
            refine wpAnyH_take (i := 9) (oi := ⟨some 86, _, _, _, _, _⟩) (v := ?_) rfl (by kernel_rfl) (by kernel_rfl) (by kernel_rfl) (fun _ _ _ h => h) (Or.inl ⟨by rfl, ?_⟩) (by assumption) ?_
            rotate_left
            · intro w hSw; go_simp; first | done | with_reducible rfl
            try simp only [Act.put, List.setIfInBounds_toArray, List.set_cons_zero, List.set_cons_succ]
            refine wpAnyH_take (i := 10) (oi := ⟨some 87, _, _, _, _, _⟩) (v := ?_) rfl (by kernel_rfl) (by kernel_rfl) (by kernel_rfl) (fun _ _ _ h => h) (Or.inl ⟨by rfl, ?_⟩) (by assumption) ?_
            rotate_left
            · intro w hSw; go_simp; first | done | with_reducible rfl
            try simp only [Act.put, List.setIfInBounds_toArray, List.set_cons_zero, List.set_cons_succ]
            refine wpAnyH_done (by kernel_rfl) ?_ _
            refine NoPanic.normal ?_
            go_wp2_with fail
            go_roundw
            case rel => exact ⟨k + 1, by omega, by go_num, HBX.out.trans (hHeld.mono hw0o), HNX.out trivial⟩
            case measure => simp [intOf]; omega
        · obtain rfl : k = a.numbers.length := by omega
          have hnn2 : ¬ (a.numbers.length : Int) < a.numbers.length := by omega
          have HF : Hid (E = true) := HA.out rfl HAI.out (fun j h1 h2 => HALL2.out j h1 h2 h1)
          go_wp2_with fail
          go_ret
          exact ⟨ret_b HF.out.symm, HB.out.trans (HBX.out.mono HB.out.size)⟩
end Go.Proofs.YthlfahblnpijaaaDoor.St
