/- Proves what the specification's only returns. Conditions: responses of bounded parts. -/
import Derived.Test.YthlfahblnpijaaaSt
namespace Go.Proofs.Ythlfahblnpijaaa.Su
open Go.RowKit Vm Ap Vw Va Gc Mi Mb Qm Sm Se St

def onlyPost (w : World) (x : Res) : Ending → World → Prop := fun e w' => ∃ y, e = .returned (resV y) ∧ y.r = onlyR x.r ∧ RRc w' y ∧ BndS y ∧ Below w.heap.size w w'
theorem bnd_start (x : Res) (h : BndS x) : BndS (startS x.op x.err) := ⟨h.op1, h.op2, h.err1, h.err2, by simp [startS], by simp [startS], by simp [startS], by simp [startS], by simp [startS], (fun y hy => by cases hy), (fun n hn => by cases hn)⟩
theorem need_at {op : Int} {n : UInt8} (m : Int) (h : need op = n) (hm : (n.toNat : Int) = m) (W : World) : Calls Try.prog 28 #[.int .i64 op] W fun e w' => e = .returned (.int .u8 m) ∧ W = w' := by
  subst h; subst hm; exact needs_any op W
set_option maxRecDepth 100000 in
set_option maxHeartbeats 4000000 in
theorem only_any (x : Res) (w : World) (hr : RRc w x) (hb : BndS x) :
    Calls Try.prog 26 #[resV x] w (onlyPost w x) := by
  unfold resV
  obtain ⟨C, hC⟩ : ∃ C, C = w.heap.size := ⟨_, rfl⟩
  obtain ⟨w0, hw0⟩ : ∃ w0, w0 = ((w.alloc (resO x)).alloc (resO (startS 0 0))).alloc (resO (startS x.op x.err)) := ⟨_, rfl⟩
  have hs0 : w0.heap.size = C + 3 := by rw [hw0, hC]; simp
  have B0 : Below w.heap.size w w0 := by rw [hw0]; exact (two_below _ _ _).alloc (by simp; omega) _
  have HB := Lib.hid B0
  have bx : BoxS w0 C x := by rw [hw0, hC]; exact ((BoxS.new _ _).below (alloc_below _ _) (Nat.le_refl _)).below (alloc_below _ _) (Nat.le_refl _)
  have bz : BoxS w0 (C + 1) (startS 0 0) := by
    have h := (BoxS.new (w.alloc (resO x)) (startS 0 0)).below (alloc_below _ (resO (startS x.op x.err))) (Nat.le_refl _)
    have e : (w.alloc (resO x)).heap.size = w.heap.size + 1 := by simp
    rw [e] at h
    rw [hw0, hC]; exact h
  have bo : BoxS w0 (C + 2) (startS x.op x.err) := by
    have h := BoxS.new ((w.alloc (resO x)).alloc (resO (startS 0 0))) (startS x.op x.err)
    have e : ((w.alloc (resO x)).alloc (resO (startS 0 0))).heap.size = w.heap.size + 2 := by simp
    rw [e] at h
    rw [hw0, hC]; exact h
  have e0 : resO (startS 0 0) = .cells #[.int .i64 0, .int .i64 0, .slice none 0 0, .int .u64 0, .int .i64 0, .slice none 0 0] 28 := rfl
  have e1 : resO (startS x.op x.err) = .cells #[.int .i64 x.op, .int .i64 x.err, .slice none 0 0, .int .u64 0, .int .i64 0, .slice none 0 0] 28 := rfl
  have HR := Lib.hid hr
  have HBX := Lib.hid bx
  have HD := Lib.hid hb
  rw [e0, e1] at hw0
  unfold resO at hw0
  have hCs : C + 2 < w0.heap.size := by omega
  have HS0 := Lib.hid hs0
  have HCW : Hid (w.heap.size ≤ C) := by show _ ≤ _; omega
  clear e0 e1 B0 hr hb hs0
  obtain ⟨c0, c1, c2, c3, c4, c5, _⟩ := bx
  obtain ⟨z0, z1, z2, z3, z4, z5, zun⟩ := bz
  obtain ⟨b0, b1, b2, b3, b4, b5, bun⟩ := bo
  have zu0 := zun 0; have zu1 := zun 1; have zu2 := zun 2; have zu3 := zun 3; have zu4 := zun 4; have zu5 := zun 5
  have bu0 := bun 0; have bu1 := bun 1; have bu2 := bun 2; have bu3 := bun 3; have bu4 := bun 4; have bu5 := bun 5
  clear zun bun
  have t0 : w0.cell? ⟨C + 2, 0, none⟩ = some (.int .i64 x.op) := b0
  have t1 : w0.cell? ⟨C + 2, 1, none⟩ = some (.int .i64 x.err) := b1
  have t2 : w0.cell? ⟨C + 2, 2, none⟩ = some (.slice none 0 0) := b2
  have t3 : w0.cell? ⟨C + 2, 3, none⟩ = some (.int .u64 0) := b3
  have t4 : w0.cell? ⟨C + 2, 4, none⟩ = some (.int .i64 0) := b4
  have t5 : w0.cell? ⟨C + 2, 5, none⟩ = some (.slice none 0 0) := b5
  clear b0 b1 b2 b3 b4 b5
  by_cases he : x.err = 0
  rotate_left
  · have hne : (x.err != 0) = true := by rw [bne_iff_ne]; exact he
    have HO : Hid (onlyR x.r = (startS x.op x.err).r) := by show _ = _; unfold onlyR; rw [if_pos (show x.r.err ≠ 0 from he)]; rfl
    clear he
    go_enter Try.func26, Try.ntmps26
    go_upto_region 2 with fail
    rw [← hw0, ← hC]
    clear hw0 hC
    go_wp2_with fail
    have HF := (Only.refl (fun j => j = C + 1 ∨ j = C + 2) w0).trans ((put6 w0 (C + 1) (.int .i64 x.op) (.int .i64 x.err) (.slice none 0 0) (.int .u64 0) (.int .i64 0) (.slice none 0 0)).mono (fun j _ e => Or.inl (Or.inl e)))
    have HBf := HB.out.trans (HF.below (B := w.heap.size) (fun j e => by have := HCW.out; omega) (by have := HB.out.size; omega))
    have hlen := HR.out
    exact bodyPost_ret (v := resV (startS x.op x.err)) (by unfold resV startS; simp [results, Try.results26, go_sem, z0, z1, z2, z3, z4, z5]) rfl ⟨(startS x.op x.err), rfl, by rw [HO.out], ⟨RI.nil _ _, fun _ => rfl, (fun y hy => by cases hy), (fun y hy => by cases hy), RN.nil _ _, fun _ => rfl⟩, bnd_start x HD.out, HBf⟩
  have hne : (x.err != 0) = false := by rw [he]; rfl
  have HE := Lib.hid he
  clear he
  rcases need_cases x.op with q | q | q | q | q
  · have HN := Lib.hid (fun W => need_at 119 q rfl W)
    have HO : Hid (onlyR x.r = Res.r ({ startS x.op x.err with version := x.version, count := x.count })) := by
      have q2 : need x.r.op = 119 := q
      have e2 : x.r.err = 0 := HE.out
      show _ = _; unfold onlyR; simp (decide := true) only [q2, e2, ne_eq, if_true, if_false]; simp [Res.r, bareR, startS, HE.out]
    clear q
    go_enter Try.func26, Try.ntmps26
    go_upto_region 2 with fail
    rw [← hw0, ← hC]
    clear hw0 hC
    go_wp2_with fail
    refine (HN.out _).mono ?_
    rintro e wx ⟨rfl, rfl⟩
    go_wp2_with fail
    have HF := (((Only.refl (fun j => j = C + 1 ∨ j = C + 2) w0).put (ad := ⟨C + 2, 3, none⟩) (Or.inr rfl) (.int .u64 (x.version : Int))).put (ad := ⟨C + 2, 4, none⟩) (Or.inr rfl) (.int .i64 x.count)).trans ((put6 ((w0.setCell ⟨C + 2, 3, none⟩ (.int .u64 (x.version : Int))).setCell ⟨C + 2, 4, none⟩ (.int .i64 x.count)) (C + 1) (.int .i64 x.op) (.int .i64 x.err) (.slice none 0 0) (.int .u64 (x.version : Int)) (.int .i64 x.count) (.slice none 0 0)).mono (fun j _ e => Or.inl (Or.inl e)))
    have HBf := HB.out.trans (HF.below (B := w.heap.size) (fun j e => by have := HCW.out; omega) (by have := HB.out.size; omega))
    have hlen := HR.out
    exact bodyPost_ret (v := resV ({ startS x.op x.err with version := x.version, count := x.count })) (by unfold resV startS; simp [results, Try.results26, go_sem, z0, z1, z2, z3, z4, z5]) rfl ⟨({ startS x.op x.err with version := x.version, count := x.count }), rfl, by rw [HO.out], ⟨RI.nil _ _, fun _ => rfl, (fun y hy => by cases hy), (fun y hy => by cases hy), RN.nil _ _, fun _ => rfl⟩, ⟨HD.out.op1, HD.out.op2, HD.out.err1, HD.out.err2, HD.out.count1, HD.out.count2, HD.out.version, by simp [startS], by simp [startS], (fun y hy => by cases hy), (fun n hn => by cases hn)⟩, HBf⟩
  · have HN := Lib.hid (fun W => need_at 105 q rfl W)
    have HO : Hid (onlyR x.r = Res.r ({ startS x.op x.err with items := x.items, IA := x.IA, ik := x.ik })) := by
      have q2 : need x.r.op = 105 := q
      have e2 : x.r.err = 0 := HE.out
      show _ = _; unfold onlyR; simp (decide := true) only [q2, e2, ne_eq, if_true, if_false]; simp [Res.r, bareR, startS, HE.out]
    clear q
    go_enter Try.func26, Try.ntmps26
    go_upto_region 2 with fail
    rw [← hw0, ← hC]
    clear hw0 hC
    go_wp2_with fail
    refine (HN.out _).mono ?_
    rintro e wx ⟨rfl, rfl⟩
    go_wp2_with fail
    have HF := ((Only.refl (fun j => j = C + 1 ∨ j = C + 2) w0).put (ad := ⟨C + 2, 2, none⟩) (Or.inr rfl) (.slice x.IA x.items.length x.ik)).trans ((put6 (w0.setCell ⟨C + 2, 2, none⟩ (.slice x.IA x.items.length x.ik)) (C + 1) (.int .i64 x.op) (.int .i64 x.err) (.slice x.IA x.items.length x.ik) (.int .u64 0) (.int .i64 0) (.slice none 0 0)).mono (fun j _ e => Or.inl (Or.inl e)))
    have HBf := HB.out.trans (HF.below (B := w.heap.size) (fun j e => by have := HCW.out; omega) (by have := HB.out.size; omega))
    have hlen := HR.out
    exact bodyPost_ret (v := resV ({ startS x.op x.err with items := x.items, IA := x.IA, ik := x.ik })) (by unfold resV startS; simp [results, Try.results26, go_sem, z0, z1, z2, z3, z4, z5]) rfl ⟨({ startS x.op x.err with items := x.items, IA := x.IA, ik := x.ik }), rfl, by rw [HO.out], ⟨HR.out.ri.below HBf (Nat.le_refl _), HR.out.ni, fun y hy => (HR.out.rv y hy).below HBf (Nat.le_refl _), HR.out.nv, RN.nil _ _, fun _ => rfl⟩, ⟨HD.out.op1, HD.out.op2, HD.out.err1, HD.out.err2, by simp [startS], by simp [startS], by simp [startS], HD.out.items, by simp [startS], HD.out.each, (fun n hn => by cases hn)⟩, HBf⟩
  · have HN := Lib.hid (fun W => need_at 109 q rfl W)
    have HO : Hid (onlyR x.r = Res.r ({ startS x.op x.err with items := x.items, IA := x.IA, ik := x.ik })) := by
      have q2 : need x.r.op = 109 := q
      have e2 : x.r.err = 0 := HE.out
      show _ = _; unfold onlyR; simp (decide := true) only [q2, e2, ne_eq, if_true, if_false]; simp [Res.r, bareR, startS, HE.out]
    clear q
    go_enter Try.func26, Try.ntmps26
    go_upto_region 2 with fail
    rw [← hw0, ← hC]
    clear hw0 hC
    go_wp2_with fail
    refine (HN.out _).mono ?_
    rintro e wx ⟨rfl, rfl⟩
    go_wp2_with fail
    have HF := ((Only.refl (fun j => j = C + 1 ∨ j = C + 2) w0).put (ad := ⟨C + 2, 2, none⟩) (Or.inr rfl) (.slice x.IA x.items.length x.ik)).trans ((put6 (w0.setCell ⟨C + 2, 2, none⟩ (.slice x.IA x.items.length x.ik)) (C + 1) (.int .i64 x.op) (.int .i64 x.err) (.slice x.IA x.items.length x.ik) (.int .u64 0) (.int .i64 0) (.slice none 0 0)).mono (fun j _ e => Or.inl (Or.inl e)))
    have HBf := HB.out.trans (HF.below (B := w.heap.size) (fun j e => by have := HCW.out; omega) (by have := HB.out.size; omega))
    have hlen := HR.out
    exact bodyPost_ret (v := resV ({ startS x.op x.err with items := x.items, IA := x.IA, ik := x.ik })) (by unfold resV startS; simp [results, Try.results26, go_sem, z0, z1, z2, z3, z4, z5]) rfl ⟨({ startS x.op x.err with items := x.items, IA := x.IA, ik := x.ik }), rfl, by rw [HO.out], ⟨HR.out.ri.below HBf (Nat.le_refl _), HR.out.ni, fun y hy => (HR.out.rv y hy).below HBf (Nat.le_refl _), HR.out.nv, RN.nil _ _, fun _ => rfl⟩, ⟨HD.out.op1, HD.out.op2, HD.out.err1, HD.out.err2, by simp [startS], by simp [startS], by simp [startS], HD.out.items, by simp [startS], HD.out.each, (fun n hn => by cases hn)⟩, HBf⟩
  · have HN := Lib.hid (fun W => need_at 110 q rfl W)
    have HO : Hid (onlyR x.r = Res.r ({ startS x.op x.err with numbers := x.numbers, NA := x.NA, nk := x.nk })) := by
      have q2 : need x.r.op = 110 := q
      have e2 : x.r.err = 0 := HE.out
      show _ = _; unfold onlyR; simp (decide := true) only [q2, e2, ne_eq, if_false]; simp [Res.r, bareR, startS, HE.out]
    clear q
    go_enter Try.func26, Try.ntmps26
    go_upto_region 2 with fail
    rw [← hw0, ← hC]
    clear hw0 hC
    go_wp2_with fail
    refine (HN.out _).mono ?_
    rintro e wx ⟨rfl, rfl⟩
    go_wp2_with fail
    have HF := ((Only.refl (fun j => j = C + 1 ∨ j = C + 2) w0).put (ad := ⟨C + 2, 5, none⟩) (Or.inr rfl) (.slice x.NA x.numbers.length x.nk)).trans ((put6 (w0.setCell ⟨C + 2, 5, none⟩ (.slice x.NA x.numbers.length x.nk)) (C + 1) (.int .i64 x.op) (.int .i64 x.err) (.slice none 0 0) (.int .u64 0) (.int .i64 0) (.slice x.NA x.numbers.length x.nk)).mono (fun j _ e => Or.inl (Or.inl e)))
    have HBf := HB.out.trans (HF.below (B := w.heap.size) (fun j e => by have := HCW.out; omega) (by have := HB.out.size; omega))
    have hlen := HR.out
    exact bodyPost_ret (v := resV ({ startS x.op x.err with numbers := x.numbers, NA := x.NA, nk := x.nk })) (by unfold resV startS; simp [results, Try.results26, go_sem, z0, z1, z2, z3, z4, z5]) rfl ⟨({ startS x.op x.err with numbers := x.numbers, NA := x.NA, nk := x.nk }), rfl, by rw [HO.out], ⟨RI.nil _ _, fun _ => rfl, (fun y hy => by cases hy), (fun y hy => by cases hy), HR.out.rn.below HBf (Nat.le_refl _), HR.out.nn⟩, ⟨HD.out.op1, HD.out.op2, HD.out.err1, HD.out.err2, by simp [startS], by simp [startS], by simp [startS], by simp [startS], HD.out.numbers, (fun y hy => by cases hy), HD.out.nums⟩, HBf⟩
  · have HN := Lib.hid (fun W => need_at 99 q rfl W)
    have HO : Hid (onlyR x.r = Res.r ({ startS x.op x.err with count := x.count })) := by
      have q2 : need x.r.op = 99 := q
      have e2 : x.r.err = 0 := HE.out
      show _ = _; unfold onlyR; simp (decide := true) only [q2, e2, ne_eq, if_true, if_false]; simp [Res.r, bareR, startS, HE.out]
    clear q
    go_enter Try.func26, Try.ntmps26
    go_upto_region 2 with fail
    rw [← hw0, ← hC]
    clear hw0 hC
    go_wp2_with fail
    refine (HN.out _).mono ?_
    rintro e wx ⟨rfl, rfl⟩
    go_wp2_with fail
    have HF := ((Only.refl (fun j => j = C + 1 ∨ j = C + 2) w0).put (ad := ⟨C + 2, 4, none⟩) (Or.inr rfl) (.int .i64 x.count)).trans ((put6 (w0.setCell ⟨C + 2, 4, none⟩ (.int .i64 x.count)) (C + 1) (.int .i64 x.op) (.int .i64 x.err) (.slice none 0 0) (.int .u64 0) (.int .i64 x.count) (.slice none 0 0)).mono (fun j _ e => Or.inl (Or.inl e)))
    have HBf := HB.out.trans (HF.below (B := w.heap.size) (fun j e => by have := HCW.out; omega) (by have := HB.out.size; omega))
    have hlen := HR.out
    exact bodyPost_ret (v := resV ({ startS x.op x.err with count := x.count })) (by unfold resV startS; simp [results, Try.results26, go_sem, z0, z1, z2, z3, z4, z5]) rfl ⟨({ startS x.op x.err with count := x.count }), rfl, by rw [HO.out], ⟨RI.nil _ _, fun _ => rfl, (fun y hy => by cases hy), (fun y hy => by cases hy), RN.nil _ _, fun _ => rfl⟩, ⟨HD.out.op1, HD.out.op2, HD.out.err1, HD.out.err2, HD.out.count1, HD.out.count2, by simp [startS], by simp [startS], by simp [startS], (fun y hy => by cases hy), (fun n hn => by cases hn)⟩, HBf⟩
end Go.Proofs.Ythlfahblnpijaaa.Su
