/- Proves what the specification's Equal of two commands returns. Conditions: commands of bounded parts. -/
import Derived.Test.YtefadkdngcbpiaaDoorQx
namespace Go.Proofs.YtefadkdngcbpiaaDoor.Qr
open Go.RowKit Go.BigFrame Vm Ap Vw Va Gc Mi Mb Qm Qs Qe Qx

theorem beq_dec {α : Type} [DecidableEq α] (x y : α) : (x == y) = decide (x = y) := rfl
theorem beq_list (x y : Bs) : (x == y) = decide (x = y) := by rw [Bool.eq_iff_iff]; simp
theorem beq_nat (x y : Nat) : ((x : Int) == (y : Int)) = decide (x = y) := by rw [Bool.eq_iff_iff, beq_iff_eq, decide_eq_true_eq]; omega
theorem beq_int (x y : Int) : (x == y) = decide (x = y) := by rw [Bool.eq_iff_iff]; simp
set_option maxRecDepth 100000 in
set_option maxHeartbeats 4000000 in
theorem requal_any (a b : Com) (w : World) (hra : Rc w a) (hrb : Rc w b) (ha : Bnd a.c) (hb : Bnd b.c) :
    Calls Tryd.prog 14 #[comV a, comV b] w (boolOf (eqC a.c b.c) w) := by
  unfold comV
  obtain ⟨w0, hw0⟩ : ∃ w0, w0 = (w.alloc (comO a)).alloc (comO b) := ⟨_, rfl⟩
  have B0 : Below w.heap.size w w0 := by rw [hw0]; exact two_below _ _ _
  have HB := Lib.hid B0
  have bxa : Box w0 w.heap.size a := by rw [hw0]; exact (Box.new _ _).below (alloc_below _ _) (Nat.le_refl _)
  have bxb : Box w0 (w.heap.size + 1) b := by
    have h := Box.new (w.alloc (comO a)) b
    have e : (w.alloc (comO a)).heap.size = w.heap.size + 1 := by simp
    rw [e] at h
    rw [hw0]; exact h
  have ra := hra.below B0 (Nat.le_refl _)
  have rb := hrb.below B0 (Nat.le_refl _)
  obtain ⟨a0, a1, a2, a3, a4, a5, a6, a7, a8, a9, _⟩ := bxa
  obtain ⟨b0, b1, b2, b3, b4, b5, b6, b7, b8, b9, _⟩ := bxb
  unfold comO at hw0
  clear B0 hra hrb
  have HV : Hid (eqC a.c b.c = (decide (a.c.op = b.c.op) && (decide (a.c.key = b.c.key) && (decide (a.c.keys = b.c.keys) && (decide (a.c.value = b.c.value) && (decide (a.c.tags = b.c.tags) && (decide (a.c.life = b.c.life) && (decide (a.c.version = b.c.version) && (decide (a.c.tag = b.c.tag) && (decide (a.c.pre = b.c.pre) && (decide (a.c.child = b.c.child)))))))))))) := rfl
  have q0 : (a.c.op == b.c.op) = decide (a.c.op = b.c.op) := beq_int _ _
  have q1 : (a.c.key == b.c.key) = decide (a.c.key = b.c.key) := beq_list _ _
  have Q2 := Lib.hid (fun n => same_any a.KA b.KA a.c.keys b.c.keys a.kc b.kc (w0.drewN n) (ra.rk.drewN n) (rb.rk.drewN n) (by have := ha.keys; omega) (by have := hb.keys; omega))
  unfold samePost at Q2
  have v1 := fun n => conv_str a.vc (ra.rv.drewN n)
  have v2 := fun n => conv_str b.vc (rb.rv.drewN n)
  have q3 : (a.c.value == b.c.value) = decide (a.c.value = b.c.value) := beq_list _ _
  have Q4 := Lib.hid (fun n => same_any a.TA b.TA a.c.tags b.c.tags a.tc b.tc (w0.drewN n) (ra.rt.drewN n) (rb.rt.drewN n) (by have := ha.tags; omega) (by have := hb.tags; omega))
  unfold samePost at Q4
  have q5 : ((a.c.life : Int) == (b.c.life : Int)) = decide (a.c.life = b.c.life) := beq_nat _ _
  have q6 : ((a.c.version : Int) == (b.c.version : Int)) = decide (a.c.version = b.c.version) := beq_nat _ _
  have q7 : (a.c.tag == b.c.tag) = decide (a.c.tag = b.c.tag) := beq_list _ _
  have q8 : (a.c.pre == b.c.pre) = decide (a.c.pre = b.c.pre) := beq_list _ _
  have q9 : (a.c.child == b.c.child) = decide (a.c.child = b.c.child) := beq_list _ _
  generalize decide (a.c.op = b.c.op) = d0 at *
  generalize decide (a.c.key = b.c.key) = d1 at *
  generalize decide (a.c.keys = b.c.keys) = d2 at *
  generalize decide (a.c.value = b.c.value) = d3 at *
  generalize decide (a.c.tags = b.c.tags) = d4 at *
  generalize decide (a.c.life = b.c.life) = d5 at *
  generalize decide (a.c.version = b.c.version) = d6 at *
  generalize decide (a.c.tag = b.c.tag) = d7 at *
  generalize decide (a.c.pre = b.c.pre) = d8 at *
  generalize decide (a.c.child = b.c.child) = d9 at *
  clear ra rb ha hb
  cases d0
  · skip
    go_enter Tryd.func14, Tryd.ntmps14
    go_wp2_with fail
    rw [← hw0]
    clear hw0
    go_ret
    exact ⟨ret_b (by rw [HV.out]; rfl), HB.out⟩
  cases d1
  · skip
    go_enter Tryd.func14, Tryd.ntmps14
    go_wp2_with fail
    rw [← hw0]
    clear hw0
    go_ret
    exact ⟨ret_b (by rw [HV.out]; rfl), HB.out⟩
  cases d2
  · skip
    go_enter Tryd.func14, Tryd.ntmps14
    go_wp2_with fail
    rw [← hw0]
    clear hw0
    refine (quietS (Q2.out 0)).mono ?_
    rintro e wx ⟨rfl, m0, rfl⟩
    go_wp2_with fail
    go_ret
    exact ⟨ret_b (by rw [HV.out]; rfl), below_drewN HB.out _⟩
  cases d3
  · skip
    go_enter Tryd.func14, Tryd.ntmps14
    go_wp2_with fail
    rw [← hw0]
    clear hw0
    refine (quietS (Q2.out 0)).mono ?_
    rintro e wx ⟨rfl, m0, rfl⟩
    go_wp2_with fail
    go_ret
    exact ⟨ret_b (by rw [HV.out]; rfl), below_drewN HB.out _⟩
  cases d4
  · skip
    go_enter Tryd.func14, Tryd.ntmps14
    go_wp2_with fail
    rw [← hw0]
    clear hw0
    refine (quietS (Q2.out 0)).mono ?_
    rintro e wx ⟨rfl, m0, rfl⟩
    go_wp2_with fail
    refine (quietS (Q4.out m0)).mono ?_
    rintro e wx ⟨rfl, m1, rfl⟩
    go_wp2_with fail
    go_ret
    exact ⟨ret_b (by rw [HV.out]; rfl), below_drewN HB.out _⟩
  cases d5
  · skip
    go_enter Tryd.func14, Tryd.ntmps14
    go_wp2_with fail
    rw [← hw0]
    clear hw0
    refine (quietS (Q2.out 0)).mono ?_
    rintro e wx ⟨rfl, m0, rfl⟩
    go_wp2_with fail
    refine (quietS (Q4.out m0)).mono ?_
    rintro e wx ⟨rfl, m1, rfl⟩
    go_wp2_with fail
    go_ret
    exact ⟨ret_b (by rw [HV.out]; rfl), below_drewN HB.out _⟩
  cases d6
  · skip
    go_enter Tryd.func14, Tryd.ntmps14
    go_wp2_with fail
    rw [← hw0]
    clear hw0
    refine (quietS (Q2.out 0)).mono ?_
    rintro e wx ⟨rfl, m0, rfl⟩
    go_wp2_with fail
    refine (quietS (Q4.out m0)).mono ?_
    rintro e wx ⟨rfl, m1, rfl⟩
    go_wp2_with fail
    go_ret
    exact ⟨ret_b (by rw [HV.out]; rfl), below_drewN HB.out _⟩
  cases d7
  · skip
    go_enter Tryd.func14, Tryd.ntmps14
    go_wp2_with fail
    rw [← hw0]
    clear hw0
    refine (quietS (Q2.out 0)).mono ?_
    rintro e wx ⟨rfl, m0, rfl⟩
    go_wp2_with fail
    refine (quietS (Q4.out m0)).mono ?_
    rintro e wx ⟨rfl, m1, rfl⟩
    go_wp2_with fail
    go_ret
    exact ⟨ret_b (by rw [HV.out]; rfl), below_drewN HB.out _⟩
  cases d8
  · skip
    go_enter Tryd.func14, Tryd.ntmps14
    go_wp2_with fail
    rw [← hw0]
    clear hw0
    refine (quietS (Q2.out 0)).mono ?_
    rintro e wx ⟨rfl, m0, rfl⟩
    go_wp2_with fail
    refine (quietS (Q4.out m0)).mono ?_
    rintro e wx ⟨rfl, m1, rfl⟩
    go_wp2_with fail
    go_ret
    exact ⟨ret_b (by rw [HV.out]; rfl), below_drewN HB.out _⟩
  cases d9
  · skip
    go_enter Tryd.func14, Tryd.ntmps14
    go_wp2_with fail
    rw [← hw0]
    clear hw0
    refine (quietS (Q2.out 0)).mono ?_
    rintro e wx ⟨rfl, m0, rfl⟩
    go_wp2_with fail
    refine (quietS (Q4.out m0)).mono ?_
    rintro e wx ⟨rfl, m1, rfl⟩
    go_wp2_with fail
    go_ret
    exact ⟨ret_b (by rw [HV.out]; rfl), below_drewN HB.out _⟩
  go_enter Tryd.func14, Tryd.ntmps14
  go_wp2_with fail
  rw [← hw0]
  clear hw0
  refine (quietS (Q2.out 0)).mono ?_
  rintro e wx ⟨rfl, m0, rfl⟩
  go_wp2_with fail
  refine (quietS (Q4.out m0)).mono ?_
  rintro e wx ⟨rfl, m1, rfl⟩
  go_wp2_with fail
  go_ret
  exact ⟨ret_b (by rw [HV.out]; rfl), below_drewN HB.out _⟩
end Go.Proofs.YtefadkdngcbpiaaDoor.Qr
