/- Proves what package response's comparisons and Fail return. Conditions: responses of bounded parts. -/
import Derived.Test.YthlfahblnpijaaaDoorSt
import Derived.Test.YthlfahblnpijaaaDoorSo
import Derived.Deep.RegionHeld3
namespace Go.Proofs.YthlfahblnpijaaaDoor.Sc
open Go.RowKit Vm Ap Vw Va Gc Mi Mb Qm Sm Se So St

theorem bequal_any (A C : Option Addr) (l m : Bs) (c d : Nat) (w : World) (hA : Rb w A l) (hC : Rb w C m) :
    Calls Tryd.prog 76 #[.slice A l.length c, .slice C m.length d] w fun e w' => e = .returned (.bool (decide (l = m))) ∧ w = w' := by
  have h1 := conv_str c hA
  have h2 := conv_str d hC
  go_enter Tryd.func76, Tryd.ntmps76
  go_wp2_with fail
  go_ret
  exact ⟨ret_b (by rw [Bool.eq_iff_iff]; simp), rfl⟩
set_option maxRecDepth 100000 in
set_option maxHeartbeats 2000000 in
theorem equalI_any (a b : Im) (w : World) (ha : Rb w a.A a.i.value) (hb : Rb w b.A b.i.value) :
    Calls Tryd.prog 55 #[imV a, imV b] w (boolOf (eqI a.i b.i) w) := by
  unfold imV
  obtain ⟨C, hC⟩ : ∃ C, C = w.heap.size := ⟨_, rfl⟩
  obtain ⟨w0, hw0⟩ : ∃ w0, w0 = (w.alloc (imO a)).alloc (imO b) := ⟨_, rfl⟩
  have HB : Hid (Below w.heap.size w w0) := by show Below _ _ _; rw [hw0]; exact two_below _ _ _
  have bA : BoxI w0 C a := by rw [hw0, hC]; exact (BoxI.new w a).below (alloc_below _ _) (Nat.le_refl _)
  have bB : BoxI w0 (C + 1) b := by
    have h := BoxI.new (w.alloc (imO a)) b
    have e : (w.alloc (imO a)).heap.size = C + 1 := by rw [hC]; simp
    rw [e] at h; rw [hw0]; exact h
  obtain ⟨a0, a1, a2, a3, _⟩ := bA
  obtain ⟨b0, b1, b2, b3, _⟩ := bB
  have HQ := Lib.hid (bequal_any a.A b.A a.i.value b.i.value a.k b.k w0 (ha.below HB.out (Nat.le_refl _)) (hb.below HB.out (Nat.le_refl _)))
  have HE : Hid (eqI a.i b.i = (decide (a.i.mark = b.i.mark) && (decide (a.i.value = b.i.value) && (decide (a.i.version = b.i.version) && decide (a.i.dead = b.i.dead))))) := rfl
  have e1 := beq_int a.i.mark b.i.mark
  have e2 := beq_nat a.i.version b.i.version
  have e3 := beq_nat a.i.dead b.i.dead
  generalize eqI a.i b.i = E at *
  generalize decide (a.i.mark = b.i.mark) = q1 at *
  generalize decide (a.i.version = b.i.version) = q2 at *
  generalize decide (a.i.dead = b.i.dead) = q3 at *
  generalize decide (a.i.value = b.i.value) = q4 at *
  unfold imO at hw0
  clear ha hb
  cases q1
  · have HF : Hid (E = false) := by show _ = _; rw [HE.out]; simp
    go_enter Tryd.func55, Tryd.ntmps55
    go_upto_region 1 with fail
    rw [← hw0, ← hC]
    clear hw0 hC
    go_wp2_with fail
    go_ret
    exact ⟨ret_b HF.out.symm, HB.out⟩
  cases q2
  · have HF : Hid (E = false) := by show _ = _; rw [HE.out]; simp
    go_enter Tryd.func55, Tryd.ntmps55
    go_upto_region 1 with fail
    rw [← hw0, ← hC]
    clear hw0 hC
    go_wp2_with fail
    go_ret
    exact ⟨ret_b HF.out.symm, HB.out⟩
  cases q3
  · have HF : Hid (E = false) := by show _ = _; rw [HE.out]; simp
    go_enter Tryd.func55, Tryd.ntmps55
    go_upto_region 1 with fail
    rw [← hw0, ← hC]
    clear hw0 hC
    go_wp2_with fail
    go_ret
    exact ⟨ret_b HF.out.symm, HB.out⟩
  go_enter Tryd.func55, Tryd.ntmps55
  go_upto_region 1 with fail
  rw [← hw0, ← hC]
  clear hw0 hC
  go_wp2_with fail
  with_reducible refine HQ.out.mono ?_
  rintro e wx ⟨rfl, rfl⟩
  cases q4
  all_goals
    go_wp2_with fail
    go_ret
    exact ⟨ret_b (by rw [HE.out]; simp), HB.out⟩
theorem items_len {l m : List Im} (h : l.length ≠ m.length) : decide (l.map (·.i) = m.map (·.i)) = false := by
  rw [decide_eq_false_iff_not]; intro e
  have := congrArg List.length e
  simp at this; exact h this
theorem items_no {l m : List Im} {k : Nat} (h1 : k < l.length) (h2 : k < m.length) (h : eqI l[k].i m[k].i = false) : decide (l.map (·.i) = m.map (·.i)) = false := by
  rw [decide_eq_false_iff_not]; intro e
  have e2 : (l.map (·.i))[k]'(by simpa using h1) = (m.map (·.i))[k]'(by simpa using h2) := by simp only [e]
  simp only [List.getElem_map] at e2
  rw [e2, (eqI_iff _ _).2 rfl] at h; cases h
theorem items_yes {l m : List Im} (hl : l.length = m.length) (h : ∀ j (h1 : j < l.length) (h2 : j < m.length), eqI l[j].i m[j].i = true) : decide (l.map (·.i) = m.map (·.i)) = true := by
  rw [decide_eq_true_eq]
  refine List.ext_getElem (by simpa using hl) (fun j h1 h2 => ?_)
  simp only [List.getElem_map]
  exact (eqI_iff _ _).1 (h j (by simpa using h1) (by simpa using h2))
/-- A list of items reads as it should. -/
structure RIs (w : World) (A : Option Addr) (l : List Im) : Prop where
  ri : RI w A l
  rv : ∀ y ∈ l, Rb w y.A y.i.value
theorem RIs.below {w w' : World} {A : Option Addr} {l : List Im} (h : RIs w A l) {B : Nat} (hb : Below B w w') (hB : w.heap.size ≤ B) : RIs w' A l := ⟨h.ri.below hb hB, fun y hy => (h.rv y hy).below hb hB⟩
theorem nums_no {l m : List Nat} {k : Nat} (h1 : k < l.length) (h2 : k < m.length) (h : decide (l[k] = m[k]) = false) : decide (l = m) = false := by
  rw [decide_eq_false_iff_not] at h ⊢; intro e; subst e; exact h rfl
theorem nums_yes {l m : List Nat} (hl : l.length = m.length) (h : ∀ j (h1 : j < l.length) (h2 : j < m.length), decide (l[j] = m[j]) = true) : decide (l = m) = true := by
  rw [decide_eq_true_eq]
  exact List.ext_getElem hl (fun j h1 h2 => of_decide_eq_true (h j h1 h2))
set_option maxRecDepth 100000 in
set_option maxHeartbeats 400000 in
theorem fail_any (op err : Int) (w : World) :
    Calls Tryd.prog 12 #[.int .i64 op, .int .i64 err] w (fun e w' => e = .returned (resV (startS op err)) ∧ Below w.heap.size w w') := by
  obtain ⟨C, hC⟩ : ∃ C, C = w.heap.size := ⟨_, rfl⟩
  obtain ⟨w0, hw0⟩ : ∃ w0, w0 = w.alloc (resO (startS 0 0)) := ⟨_, rfl⟩
  have HB : Hid (Below w.heap.size w w0) := by show Below _ _ _; rw [hw0]; exact alloc_below _ _
  have bz : BoxS w0 C (startS 0 0) := by rw [hw0, hC]; exact BoxS.new _ _
  have HC := Lib.hid hC
  have e0 : resO (startS 0 0) = .cells #[.int .i64 0, .int .i64 0, .slice none 0 0, .int .u64 0, .int .i64 0, .slice none 0 0] 28 := rfl
  rw [e0] at hw0
  obtain ⟨z0, z1, z2, z3, z4, z5, zun⟩ := bz
  have zu0 := zun 0; have zu1 := zun 1; have zu2 := zun 2; have zu3 := zun 3; have zu4 := zun 4; have zu5 := zun 5
  clear zun e0
  go_enter Tryd.func12, Tryd.ntmps12
  go_upto_region 1 with fail
  rw [← hw0, ← hC]
  clear hw0 hC
  go_wp2_with fail
  have HFz := put6 w0 C (.int .i64 op) (.int .i64 err) (.slice none 0 0) (.int .u64 0) (.int .i64 0) (.slice none 0 0)
  have HBf := HB.out.trans (HFz.below (B := w.heap.size) (fun j e => by have := HC.out; omega) HB.out.size)
  exact bodyPost_ret (v := .agg #[.int .i64 op, .int .i64 err, .slice none 0 0, .int .u64 0, .int .i64 0, .slice none 0 0]) (by simp [results, Tryd.results12, go_sem, z0, z1, z2, z3, z4, z5]) rfl ⟨rfl, HBf⟩
end Go.Proofs.YthlfahblnpijaaaDoor.Sc
