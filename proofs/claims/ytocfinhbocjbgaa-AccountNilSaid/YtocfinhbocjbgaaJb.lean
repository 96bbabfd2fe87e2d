/- Proves what the specification's functions on accounts return. Conditions: as each theorem names them. -/
import Derived.Test.YtocfinhbocjbgaaJa
import Derived.Deep.Cut
namespace Go.Proofs.Ytocfinhbocjbgaa.Jb
open Go.RowKit Ap Mi Nw Ja

def vPost (w : World) (v : Value) : Ending → World → Prop := fun q w' => q = .returned v ∧ Below w.heap.size w w'
theorem is_any (c : Int) (w : World) : Calls Try.prog 30 #[.int .i64 c] w fun q w' => q = .returned (.bool (decide (isC c))) ∧ w' = w := by
  by_cases h0 : 65 ≤ c
  · by_cases h1 : c ≤ 67000
    · have HS : Hid (isC c) := ⟨h0, h1⟩
      have g0 : c ≥ 65 := h0
      go_enter Try.func30, Try.ntmps30
      go_wp2_with fail
      go_ret
      exact ⟨retB (by simp [HS.out]), rfl⟩
    · have HS : Hid (¬ isC c) := fun h => h1 h.2
      have g0 : c ≥ 65 := h0
      go_enter Try.func30, Try.ntmps30
      go_wp2_with fail
      go_ret
      exact ⟨retB (by simp [HS.out]), rfl⟩
  · have HS : Hid (¬ isC c) := fun h => h0 h.1
    have g0 : ¬ c ≥ 65 := h0
    go_enter Try.func30, Try.ntmps30
    go_wp2_with fail
    go_ret
    exact ⟨retB (by simp [HS.out]), rfl⟩
theorem is_yes {c : Int} (h : isC c) (w : World) : Calls Try.prog 30 #[.int .i64 c] w fun q w' => q = .returned (.bool true) ∧ w' = w := by
  refine (is_any c w).mono ?_
  rintro q w' ⟨rfl, rfl⟩; exact ⟨retB (by simp [h]), rfl⟩
theorem is_no {c : Int} (h : ¬ isC c) (w : World) : Calls Try.prog 30 #[.int .i64 c] w fun q w' => q = .returned (.bool false) ∧ w' = w := by
  refine (is_any c w).mono ?_
  rintro q w' ⟨rfl, rfl⟩; exact ⟨retB (by simp [h]), rfl⟩
set_option maxRecDepth 100000 in
set_option maxHeartbeats 1000000 in
theorem add_any {s : Ac} (hok : Ok s) (c : Int) (w : World) : Calls Try.prog 13 #[sv s, .int .i64 c] w (vPost w (.tuple #[sv (addT s c), .int .i64 (addN s c)])) := by
  unfold vPost
  by_cases hc : isC c
  case' neg =>
    have HE : Hid (addT s c = s ∧ addN s c = 3) := ⟨if_neg (fun h => hc h.1), if_pos hc⟩
    have HI := Lib.hid (is_no hc)
    obtain ⟨b, e, x, n⟩ := s
    obtain ⟨⟨hb1, hb2, he1, he2⟩, hn0, hn1, hlo, hhi⟩ := hok
    simp only at hb1 hb2 he1 he2 hn0 hn1 hlo hhi
    unfold sv cells
    simp only
    obtain ⟨v0, hv0⟩ : ∃ v0, v0 = (w.alloc (.cells #[.int .i64 b, .int .i64 e, .int .i64 x, .int .i64 n] 35)).alloc (.cells #[.int .i64 0, .int .i64 0, .int .i64 0, .int .i64 0] 35) := ⟨_, rfl⟩
    have b0 : Below w.heap.size w v0 := by rw [hv0]; exact (bnew w _).alloc (by simp) _
    have P0 : Hid (Blk v0 w.heap.size #[.int .i64 b, .int .i64 e, .int .i64 x, .int .i64 n] 35) := by
      show Blk _ _ _ _; rw [hv0]
      exact (Blk.new w _ _).below (bnew (w.alloc (.cells #[.int .i64 b, .int .i64 e, .int .i64 x, .int .i64 n] 35)) (.cells #[.int .i64 0, .int .i64 0, .int .i64 0, .int .i64 0] 35)) (by simp)
    have R0 : Hid (Blk v0 (w.heap.size + 1) #[.int .i64 0, .int .i64 0, .int .i64 0, .int .i64 0] 35) := by
      show Blk _ _ _ _; rw [hv0]
      have := Blk.new (w.alloc (.cells #[.int .i64 b, .int .i64 e, .int .i64 x, .int .i64 n] 35)) #[.int .i64 0, .int .i64 0, .int .i64 0, .int .i64 0] 35
      simpa using this
    have HB0 := Lib.hid b0
    obtain ⟨p0, p1, p2, p3, pf0, pf1, pf2, pf3⟩ := P0.out.four
    obtain ⟨r0, r1, r2, r3, rf0, rf1, rf2, rf3⟩ := R0.out.four
    have lr := R0.out.lt
    clear b0 hc
    go_enter Try.func13, Try.ntmps13
    go_wp2_with fail
    rw [← hv0]
    clear hv0
    refine (HI.out v0).mono ?_
    rintro q w1 ⟨rfl, rfl⟩
    go_wp2_with fail
    have RW := R0
    have BW := HB0
    obtain ⟨v9, hv9⟩ : ∃ v9, v9 = put4 w1 (w.heap.size + 1) (.int .i64 b) (.int .i64 e) (.int .i64 x) (.int .i64 n) := ⟨_, rfl⟩
    have R9 : Hid (Blk v9 (w.heap.size + 1) #[.int .i64 b, .int .i64 e, .int .i64 x, .int .i64 n] 35) := by show Blk _ _ _ _; rw [hv9]; exact put4_blk RW.out _ _ _ _
    have B9 : Hid (Below w.heap.size w v9) := by show Below _ _ _; rw [hv9]; exact BW.out.trans ((put4_only _ _ _ _ _ _).below (fun j hj => by rw [hj]; omega) BW.out.size)
    unfold put4 at hv9
    rw [← hv9]
    clear hv9 r0 r1 r2 r3 rf0 rf1 rf2 rf3 p0 p1 p2 p3 pf0 pf1 pf2 pf3
    obtain ⟨t0, t1, t2, t3, _⟩ := R9.out.four
    exact bodyPost_ret (v := .tuple #[.agg #[.int .i64 b, .int .i64 e, .int .i64 x, .int .i64 n], .int .i64 3]) (by simp [results, Try.results13, go_sem, t0, t1, t2, t3]) rfl ⟨by rw [HE.out.1, HE.out.2], B9.out⟩
  by_cases hf : 2097152 ≤ s.n
  case' pos =>
    have HE : Hid (addT s c = s ∧ addN s c = 7) := ⟨if_neg (fun h => by have := h.2; omega), by unfold addN; rw [if_neg (by simpa using hc), if_pos hf]⟩
    have HI := Lib.hid (is_yes hc)
    obtain ⟨b, e, x, n⟩ := s
    obtain ⟨⟨hb1, hb2, he1, he2⟩, hn0, hn1, hlo, hhi⟩ := hok
    simp only at hb1 hb2 he1 he2 hn0 hn1 hlo hhi
    unfold sv cells
    simp only
    simp only at hf
    have hf2 : n ≥ 2097152 := hf
    obtain ⟨v0, hv0⟩ : ∃ v0, v0 = (w.alloc (.cells #[.int .i64 b, .int .i64 e, .int .i64 x, .int .i64 n] 35)).alloc (.cells #[.int .i64 0, .int .i64 0, .int .i64 0, .int .i64 0] 35) := ⟨_, rfl⟩
    have b0 : Below w.heap.size w v0 := by rw [hv0]; exact (bnew w _).alloc (by simp) _
    have P0 : Hid (Blk v0 w.heap.size #[.int .i64 b, .int .i64 e, .int .i64 x, .int .i64 n] 35) := by
      show Blk _ _ _ _; rw [hv0]
      exact (Blk.new w _ _).below (bnew (w.alloc (.cells #[.int .i64 b, .int .i64 e, .int .i64 x, .int .i64 n] 35)) (.cells #[.int .i64 0, .int .i64 0, .int .i64 0, .int .i64 0] 35)) (by simp)
    have R0 : Hid (Blk v0 (w.heap.size + 1) #[.int .i64 0, .int .i64 0, .int .i64 0, .int .i64 0] 35) := by
      show Blk _ _ _ _; rw [hv0]
      have := Blk.new (w.alloc (.cells #[.int .i64 b, .int .i64 e, .int .i64 x, .int .i64 n] 35)) #[.int .i64 0, .int .i64 0, .int .i64 0, .int .i64 0] 35
      simpa using this
    have HB0 := Lib.hid b0
    obtain ⟨p0, p1, p2, p3, pf0, pf1, pf2, pf3⟩ := P0.out.four
    obtain ⟨r0, r1, r2, r3, rf0, rf1, rf2, rf3⟩ := R0.out.four
    have lr := R0.out.lt
    clear b0 hc hf
    go_enter Try.func13, Try.ntmps13
    go_wp2_with fail
    rw [← hv0]
    clear hv0
    refine (HI.out v0).mono ?_
    rintro q w1 ⟨rfl, rfl⟩
    go_wp2_with fail
    have RW := R0
    have BW := HB0
    obtain ⟨v9, hv9⟩ : ∃ v9, v9 = put4 w1 (w.heap.size + 1) (.int .i64 b) (.int .i64 e) (.int .i64 x) (.int .i64 n) := ⟨_, rfl⟩
    have R9 : Hid (Blk v9 (w.heap.size + 1) #[.int .i64 b, .int .i64 e, .int .i64 x, .int .i64 n] 35) := by show Blk _ _ _ _; rw [hv9]; exact put4_blk RW.out _ _ _ _
    have B9 : Hid (Below w.heap.size w v9) := by show Below _ _ _; rw [hv9]; exact BW.out.trans ((put4_only _ _ _ _ _ _).below (fun j hj => by rw [hj]; omega) BW.out.size)
    unfold put4 at hv9
    rw [← hv9]
    clear hv9 r0 r1 r2 r3 rf0 rf1 rf2 rf3 p0 p1 p2 p3 pf0 pf1 pf2 pf3
    obtain ⟨t0, t1, t2, t3, _⟩ := R9.out.four
    exact bodyPost_ret (v := .tuple #[.agg #[.int .i64 b, .int .i64 e, .int .i64 x, .int .i64 n], .int .i64 7]) (by simp [results, Try.results13, go_sem, t0, t1, t2, t3]) rfl ⟨by rw [HE.out.1, HE.out.2], B9.out⟩
  have HE : Hid (addT s c = { s with x := s.x + c, n := s.n + 1 } ∧ addN s c = 0) := ⟨if_pos ⟨hc, by omega⟩, by unfold addN; rw [if_neg (by simpa using hc), if_neg hf]⟩
  have HI := Lib.hid (is_yes hc)
  obtain ⟨hc1, hc2⟩ := hc
  obtain ⟨b, e, x, n⟩ := s
  obtain ⟨⟨hb1, hb2, he1, he2⟩, hn0, hn1, hlo, hhi⟩ := hok
  simp only at hb1 hb2 he1 he2 hn0 hn1 hlo hhi
  unfold sv cells
  simp only
  simp only at hf
  have hf2 : ¬ n ≥ 2097152 := hf
  obtain ⟨v0, hv0⟩ : ∃ v0, v0 = (w.alloc (.cells #[.int .i64 b, .int .i64 e, .int .i64 x, .int .i64 n] 35)).alloc (.cells #[.int .i64 0, .int .i64 0, .int .i64 0, .int .i64 0] 35) := ⟨_, rfl⟩
  have b0 : Below w.heap.size w v0 := by rw [hv0]; exact (bnew w _).alloc (by simp) _
  have P0 : Hid (Blk v0 w.heap.size #[.int .i64 b, .int .i64 e, .int .i64 x, .int .i64 n] 35) := by
    show Blk _ _ _ _; rw [hv0]
    exact (Blk.new w _ _).below (bnew (w.alloc (.cells #[.int .i64 b, .int .i64 e, .int .i64 x, .int .i64 n] 35)) (.cells #[.int .i64 0, .int .i64 0, .int .i64 0, .int .i64 0] 35)) (by simp)
  have R0 : Hid (Blk v0 (w.heap.size + 1) #[.int .i64 0, .int .i64 0, .int .i64 0, .int .i64 0] 35) := by
    show Blk _ _ _ _; rw [hv0]
    have := Blk.new (w.alloc (.cells #[.int .i64 b, .int .i64 e, .int .i64 x, .int .i64 n] 35)) #[.int .i64 0, .int .i64 0, .int .i64 0, .int .i64 0] 35
    simpa using this
  have HB0 := Lib.hid b0
  obtain ⟨p0, p1, p2, p3, pf0, pf1, pf2, pf3⟩ := P0.out.four
  obtain ⟨r0, r1, r2, r3, rf0, rf1, rf2, rf3⟩ := R0.out.four
  have lr := R0.out.lt
  clear b0 hf
  go_enter Try.func13, Try.ntmps13
  go_wp2_with fail
  rw [← hv0]
  clear hv0
  refine (HI.out v0).mono ?_
  rintro q w1 ⟨rfl, rfl⟩
  go_wp2_with fail
  have OW : Only (fun j => j = w.heap.size) w1 ((w1.setCell ⟨w.heap.size, 2, none⟩ (.int .i64 (x + c))).setCell ⟨w.heap.size, 3, none⟩ (.int .i64 (n + 1))) := ((Only.refl (fun j => j = w.heap.size) w1).put (ad := ⟨w.heap.size, 2, none⟩) rfl _).put (ad := ⟨w.heap.size, 3, none⟩) rfl _
  have RW := Lib.hid (R0.out.only OW (fun h => by omega))
  have BW : Hid (Below w.heap.size w ((w1.setCell ⟨w.heap.size, 2, none⟩ (.int .i64 (x + c))).setCell ⟨w.heap.size, 3, none⟩ (.int .i64 (n + 1)))) := HB0.out.trans (OW.below (fun j hj => by rw [hj]; exact Nat.le_refl _) HB0.out.size)
  clear OW
  obtain ⟨v9, hv9⟩ : ∃ v9, v9 = put4 ((w1.setCell ⟨w.heap.size, 2, none⟩ (.int .i64 (x + c))).setCell ⟨w.heap.size, 3, none⟩ (.int .i64 (n + 1))) (w.heap.size + 1) (.int .i64 b) (.int .i64 e) (.int .i64 (x + c)) (.int .i64 (n + 1)) := ⟨_, rfl⟩
  have R9 : Hid (Blk v9 (w.heap.size + 1) #[.int .i64 b, .int .i64 e, .int .i64 (x + c), .int .i64 (n + 1)] 35) := by show Blk _ _ _ _; rw [hv9]; exact put4_blk RW.out _ _ _ _
  have B9 : Hid (Below w.heap.size w v9) := by show Below _ _ _; rw [hv9]; exact BW.out.trans ((put4_only _ _ _ _ _ _).below (fun j hj => by rw [hj]; omega) BW.out.size)
  unfold put4 at hv9
  rw [← hv9]
  clear hv9 r0 r1 r2 r3 rf0 rf1 rf2 rf3 p0 p1 p2 p3 pf0 pf1 pf2 pf3
  obtain ⟨t0, t1, t2, t3, _⟩ := R9.out.four
  exact bodyPost_ret (v := .tuple #[.agg #[.int .i64 b, .int .i64 e, .int .i64 (x + c), .int .i64 (n + 1)], .int .i64 0]) (by simp [results, Try.results13, go_sem, t0, t1, t2, t3]) rfl ⟨by rw [HE.out.1, HE.out.2], B9.out⟩
set_option maxRecDepth 100000 in
set_option maxHeartbeats 1000000 in
theorem rem_any {s : Ac} (hok : Ok s) (c : Int) (w : World) : Calls Try.prog 15 #[sv s, .int .i64 c] w (vPost w (.tuple #[sv (remT s c), .int .i64 (remN s c)])) := by
  unfold vPost
  by_cases hc : isC c
  case' neg =>
    have HE : Hid (remT s c = s ∧ remN s c = 3) := ⟨if_neg (fun h => hc h.1), if_pos hc⟩
    have HI := Lib.hid (is_no hc)
    obtain ⟨b, e, x, n⟩ := s
    obtain ⟨⟨hb1, hb2, he1, he2⟩, hn0, hn1, hlo, hhi⟩ := hok
    simp only at hb1 hb2 he1 he2 hn0 hn1 hlo hhi
    unfold sv cells
    simp only
    obtain ⟨v0, hv0⟩ : ∃ v0, v0 = (w.alloc (.cells #[.int .i64 b, .int .i64 e, .int .i64 x, .int .i64 n] 35)).alloc (.cells #[.int .i64 0, .int .i64 0, .int .i64 0, .int .i64 0] 35) := ⟨_, rfl⟩
    have b0 : Below w.heap.size w v0 := by rw [hv0]; exact (bnew w _).alloc (by simp) _
    have P0 : Hid (Blk v0 w.heap.size #[.int .i64 b, .int .i64 e, .int .i64 x, .int .i64 n] 35) := by
      show Blk _ _ _ _; rw [hv0]
      exact (Blk.new w _ _).below (bnew (w.alloc (.cells #[.int .i64 b, .int .i64 e, .int .i64 x, .int .i64 n] 35)) (.cells #[.int .i64 0, .int .i64 0, .int .i64 0, .int .i64 0] 35)) (by simp)
    have R0 : Hid (Blk v0 (w.heap.size + 1) #[.int .i64 0, .int .i64 0, .int .i64 0, .int .i64 0] 35) := by
      show Blk _ _ _ _; rw [hv0]
      have := Blk.new (w.alloc (.cells #[.int .i64 b, .int .i64 e, .int .i64 x, .int .i64 n] 35)) #[.int .i64 0, .int .i64 0, .int .i64 0, .int .i64 0] 35
      simpa using this
    have HB0 := Lib.hid b0
    obtain ⟨p0, p1, p2, p3, pf0, pf1, pf2, pf3⟩ := P0.out.four
    obtain ⟨r0, r1, r2, r3, rf0, rf1, rf2, rf3⟩ := R0.out.four
    have lr := R0.out.lt
    clear b0 hc
    go_enter Try.func15, Try.ntmps15
    go_wp2_with fail
    rw [← hv0]
    clear hv0
    refine (HI.out v0).mono ?_
    rintro q w1 ⟨rfl, rfl⟩
    go_wp2_with fail
    have RW := R0
    have BW := HB0
    obtain ⟨v9, hv9⟩ : ∃ v9, v9 = put4 w1 (w.heap.size + 1) (.int .i64 b) (.int .i64 e) (.int .i64 x) (.int .i64 n) := ⟨_, rfl⟩
    have R9 : Hid (Blk v9 (w.heap.size + 1) #[.int .i64 b, .int .i64 e, .int .i64 x, .int .i64 n] 35) := by show Blk _ _ _ _; rw [hv9]; exact put4_blk RW.out _ _ _ _
    have B9 : Hid (Below w.heap.size w v9) := by show Below _ _ _; rw [hv9]; exact BW.out.trans ((put4_only _ _ _ _ _ _).below (fun j hj => by rw [hj]; omega) BW.out.size)
    unfold put4 at hv9
    rw [← hv9]
    clear hv9 r0 r1 r2 r3 rf0 rf1 rf2 rf3 p0 p1 p2 p3 pf0 pf1 pf2 pf3
    obtain ⟨t0, t1, t2, t3, _⟩ := R9.out.four
    exact bodyPost_ret (v := .tuple #[.agg #[.int .i64 b, .int .i64 e, .int .i64 x, .int .i64 n], .int .i64 3]) (by simp [results, Try.results15, go_sem, t0, t1, t2, t3]) rfl ⟨by rw [HE.out.1, HE.out.2], B9.out⟩
  by_cases hk : can s c
  case' pos =>
    have HE : Hid (remT s c = { s with x := s.x - c, n := s.n - 1 } ∧ remN s c = 0) := ⟨if_pos ⟨hc, hk⟩, by unfold remN; rw [if_neg (by simpa using hc), if_pos hk]⟩
    have HI := Lib.hid (is_yes hc)
    obtain ⟨hc1, hc2⟩ := hc
    obtain ⟨b, e, x, n⟩ := s
    obtain ⟨⟨hb1, hb2, he1, he2⟩, hn0, hn1, hlo, hhi⟩ := hok
    simp only at hb1 hb2 he1 he2 hn0 hn1 hlo hhi
    unfold sv cells
    simp only
    unfold can at hk
    simp only at hk
    obtain ⟨hk1, hk2, hk3⟩ := hk
    have m1 : ¬ n - 1 < 0 := by omega
    have m2 : ¬ x - c < 65 * (n - 1) := by omega
    have m3 : ¬ x - c > 67000 * (n - 1) := by omega
    obtain ⟨v0, hv0⟩ : ∃ v0, v0 = (w.alloc (.cells #[.int .i64 b, .int .i64 e, .int .i64 x, .int .i64 n] 35)).alloc (.cells #[.int .i64 0, .int .i64 0, .int .i64 0, .int .i64 0] 35) := ⟨_, rfl⟩
    have b0 : Below w.heap.size w v0 := by rw [hv0]; exact (bnew w _).alloc (by simp) _
    have P0 : Hid (Blk v0 w.heap.size #[.int .i64 b, .int .i64 e, .int .i64 x, .int .i64 n] 35) := by
      show Blk _ _ _ _; rw [hv0]
      exact (Blk.new w _ _).below (bnew (w.alloc (.cells #[.int .i64 b, .int .i64 e, .int .i64 x, .int .i64 n] 35)) (.cells #[.int .i64 0, .int .i64 0, .int .i64 0, .int .i64 0] 35)) (by simp)
    have R0 : Hid (Blk v0 (w.heap.size + 1) #[.int .i64 0, .int .i64 0, .int .i64 0, .int .i64 0] 35) := by
      show Blk _ _ _ _; rw [hv0]
      have := Blk.new (w.alloc (.cells #[.int .i64 b, .int .i64 e, .int .i64 x, .int .i64 n] 35)) #[.int .i64 0, .int .i64 0, .int .i64 0, .int .i64 0] 35
      simpa using this
    have HB0 := Lib.hid b0
    obtain ⟨p0, p1, p2, p3, pf0, pf1, pf2, pf3⟩ := P0.out.four
    obtain ⟨r0, r1, r2, r3, rf0, rf1, rf2, rf3⟩ := R0.out.four
    have lr := R0.out.lt
    clear b0
    go_enter Try.func15, Try.ntmps15
    go_wp2_with fail
    rw [← hv0]
    clear hv0
    refine (HI.out v0).mono ?_
    rintro q w1 ⟨rfl, rfl⟩
    go_wp2_with fail
    go_region
    obtain ⟨w2, hw2⟩ : ∃ w2, w2 = w1.drew := ⟨_, rfl⟩
    have R0d : Hid (Blk w2 (w.heap.size + 1) #[.int .i64 0, .int .i64 0, .int .i64 0, .int .i64 0] 35) := by show Blk _ _ _ _; rw [hw2]; exact R0.out
    have P0d : Hid (Blk w2 w.heap.size #[.int .i64 b, .int .i64 e, .int .i64 x, .int .i64 n] 35) := by show Blk _ _ _ _; rw [hw2]; exact P0.out
    have HB0d : Hid (Below w.heap.size w w2) := by show Below _ _ _; rw [hw2]; exact HB0.out.drew
    rw [← hw2]
    clear R0 HB0 P0 hw2 p0 p1 p2 p3 pf0 pf1 pf2 pf3 r0 r1 r2 r3 rf0 rf1 rf2 rf3 lr
    have R0 := R0d
    have HB0 := HB0d
    have P0 := P0d
    obtain ⟨p0, p1, p2, p3, pf0, pf1, pf2, pf3⟩ := P0.out.four
    obtain ⟨r0, r1, r2, r3, rf0, rf1, rf2, rf3⟩ := R0.out.four
    have lr := R0.out.lt
    clear R0d HB0d P0d
    go_wp2_with fail
    have OW : Only (fun j => j = w.heap.size) w2 ((w2.setCell ⟨w.heap.size, 2, none⟩ (.int .i64 (x - c))).setCell ⟨w.heap.size, 3, none⟩ (.int .i64 (n - 1))) := ((Only.refl (fun j => j = w.heap.size) w2).put (ad := ⟨w.heap.size, 2, none⟩) rfl _).put (ad := ⟨w.heap.size, 3, none⟩) rfl _
    have RW := Lib.hid (R0.out.only OW (fun h => by omega))
    have BW : Hid (Below w.heap.size w ((w2.setCell ⟨w.heap.size, 2, none⟩ (.int .i64 (x - c))).setCell ⟨w.heap.size, 3, none⟩ (.int .i64 (n - 1)))) := HB0.out.trans (OW.below (fun j hj => by rw [hj]; exact Nat.le_refl _) HB0.out.size)
    clear OW
    obtain ⟨v9, hv9⟩ : ∃ v9, v9 = put4 ((w2.setCell ⟨w.heap.size, 2, none⟩ (.int .i64 (x - c))).setCell ⟨w.heap.size, 3, none⟩ (.int .i64 (n - 1))) (w.heap.size + 1) (.int .i64 b) (.int .i64 e) (.int .i64 (x - c)) (.int .i64 (n - 1)) := ⟨_, rfl⟩
    have R9 : Hid (Blk v9 (w.heap.size + 1) #[.int .i64 b, .int .i64 e, .int .i64 (x - c), .int .i64 (n - 1)] 35) := by show Blk _ _ _ _; rw [hv9]; exact put4_blk RW.out _ _ _ _
    have B9 : Hid (Below w.heap.size w v9) := by show Below _ _ _; rw [hv9]; exact BW.out.trans ((put4_only _ _ _ _ _ _).below (fun j hj => by rw [hj]; omega) BW.out.size)
    unfold put4 at hv9
    rw [← hv9]
    clear hv9 r0 r1 r2 r3 rf0 rf1 rf2 rf3 p0 p1 p2 p3 pf0 pf1 pf2 pf3
    obtain ⟨t0, t1, t2, t3, _⟩ := R9.out.four
    exact bodyPost_ret (v := .tuple #[.agg #[.int .i64 b, .int .i64 e, .int .i64 (x - c), .int .i64 (n - 1)], .int .i64 0]) (by simp [results, Try.results15, go_sem, t0, t1, t2, t3]) rfl ⟨by rw [HE.out.1, HE.out.2], B9.out⟩
  have HE : Hid (remT s c = s ∧ remN s c = 9) := ⟨if_neg (fun h => hk h.2), by unfold remN; rw [if_neg (by simpa using hc), if_neg hk]⟩
  have HI := Lib.hid (is_yes hc)
  obtain ⟨hc1, hc2⟩ := hc
  obtain ⟨b, e, x, n⟩ := s
  obtain ⟨⟨hb1, hb2, he1, he2⟩, hn0, hn1, hlo, hhi⟩ := hok
  simp only at hb1 hb2 he1 he2 hn0 hn1 hlo hhi
  unfold sv cells
  simp only
  unfold can at hk
  simp only at hk
  by_cases k1 : n - 1 < 0
  case' pos =>
    obtain ⟨v0, hv0⟩ : ∃ v0, v0 = (w.alloc (.cells #[.int .i64 b, .int .i64 e, .int .i64 x, .int .i64 n] 35)).alloc (.cells #[.int .i64 0, .int .i64 0, .int .i64 0, .int .i64 0] 35) := ⟨_, rfl⟩
    have b0 : Below w.heap.size w v0 := by rw [hv0]; exact (bnew w _).alloc (by simp) _
    have P0 : Hid (Blk v0 w.heap.size #[.int .i64 b, .int .i64 e, .int .i64 x, .int .i64 n] 35) := by
      show Blk _ _ _ _; rw [hv0]
      exact (Blk.new w _ _).below (bnew (w.alloc (.cells #[.int .i64 b, .int .i64 e, .int .i64 x, .int .i64 n] 35)) (.cells #[.int .i64 0, .int .i64 0, .int .i64 0, .int .i64 0] 35)) (by simp)
    have R0 : Hid (Blk v0 (w.heap.size + 1) #[.int .i64 0, .int .i64 0, .int .i64 0, .int .i64 0] 35) := by
      show Blk _ _ _ _; rw [hv0]
      have := Blk.new (w.alloc (.cells #[.int .i64 b, .int .i64 e, .int .i64 x, .int .i64 n] 35)) #[.int .i64 0, .int .i64 0, .int .i64 0, .int .i64 0] 35
      simpa using this
    have HB0 := Lib.hid b0
    obtain ⟨p0, p1, p2, p3, pf0, pf1, pf2, pf3⟩ := P0.out.four
    obtain ⟨r0, r1, r2, r3, rf0, rf1, rf2, rf3⟩ := R0.out.four
    have lr := R0.out.lt
    clear b0
    go_enter Try.func15, Try.ntmps15
    go_wp2_with fail
    rw [← hv0]
    clear hv0
    refine (HI.out v0).mono ?_
    rintro q w1 ⟨rfl, rfl⟩
    go_wp2_with fail
    go_region
    obtain ⟨w2, hw2⟩ : ∃ w2, w2 = w1.drew := ⟨_, rfl⟩
    have R0d : Hid (Blk w2 (w.heap.size + 1) #[.int .i64 0, .int .i64 0, .int .i64 0, .int .i64 0] 35) := by show Blk _ _ _ _; rw [hw2]; exact R0.out
    have P0d : Hid (Blk w2 w.heap.size #[.int .i64 b, .int .i64 e, .int .i64 x, .int .i64 n] 35) := by show Blk _ _ _ _; rw [hw2]; exact P0.out
    have HB0d : Hid (Below w.heap.size w w2) := by show Below _ _ _; rw [hw2]; exact HB0.out.drew
    rw [← hw2]
    clear R0 HB0 P0 hw2 p0 p1 p2 p3 pf0 pf1 pf2 pf3 r0 r1 r2 r3 rf0 rf1 rf2 rf3 lr
    have R0 := R0d
    have HB0 := HB0d
    have P0 := P0d
    obtain ⟨p0, p1, p2, p3, pf0, pf1, pf2, pf3⟩ := P0.out.four
    obtain ⟨r0, r1, r2, r3, rf0, rf1, rf2, rf3⟩ := R0.out.four
    have lr := R0.out.lt
    clear R0d HB0d P0d
    go_wp2_with fail
    have RW := R0
    have BW := HB0
    obtain ⟨v9, hv9⟩ : ∃ v9, v9 = put4 w2 (w.heap.size + 1) (.int .i64 b) (.int .i64 e) (.int .i64 x) (.int .i64 n) := ⟨_, rfl⟩
    have R9 : Hid (Blk v9 (w.heap.size + 1) #[.int .i64 b, .int .i64 e, .int .i64 x, .int .i64 n] 35) := by show Blk _ _ _ _; rw [hv9]; exact put4_blk RW.out _ _ _ _
    have B9 : Hid (Below w.heap.size w v9) := by show Below _ _ _; rw [hv9]; exact BW.out.trans ((put4_only _ _ _ _ _ _).below (fun j hj => by rw [hj]; omega) BW.out.size)
    unfold put4 at hv9
    rw [← hv9]
    clear hv9 r0 r1 r2 r3 rf0 rf1 rf2 rf3 p0 p1 p2 p3 pf0 pf1 pf2 pf3
    obtain ⟨t0, t1, t2, t3, _⟩ := R9.out.four
    exact bodyPost_ret (v := .tuple #[.agg #[.int .i64 b, .int .i64 e, .int .i64 x, .int .i64 n], .int .i64 9]) (by simp [results, Try.results15, go_sem, t0, t1, t2, t3]) rfl ⟨by rw [HE.out.1, HE.out.2], B9.out⟩
  by_cases k2 : x - c < 65 * (n - 1)
  case' pos =>
    have m1 : 0 ≤ n - 1 := by omega
    obtain ⟨v0, hv0⟩ : ∃ v0, v0 = (w.alloc (.cells #[.int .i64 b, .int .i64 e, .int .i64 x, .int .i64 n] 35)).alloc (.cells #[.int .i64 0, .int .i64 0, .int .i64 0, .int .i64 0] 35) := ⟨_, rfl⟩
    have b0 : Below w.heap.size w v0 := by rw [hv0]; exact (bnew w _).alloc (by simp) _
    have P0 : Hid (Blk v0 w.heap.size #[.int .i64 b, .int .i64 e, .int .i64 x, .int .i64 n] 35) := by
      show Blk _ _ _ _; rw [hv0]
      exact (Blk.new w _ _).below (bnew (w.alloc (.cells #[.int .i64 b, .int .i64 e, .int .i64 x, .int .i64 n] 35)) (.cells #[.int .i64 0, .int .i64 0, .int .i64 0, .int .i64 0] 35)) (by simp)
    have R0 : Hid (Blk v0 (w.heap.size + 1) #[.int .i64 0, .int .i64 0, .int .i64 0, .int .i64 0] 35) := by
      show Blk _ _ _ _; rw [hv0]
      have := Blk.new (w.alloc (.cells #[.int .i64 b, .int .i64 e, .int .i64 x, .int .i64 n] 35)) #[.int .i64 0, .int .i64 0, .int .i64 0, .int .i64 0] 35
      simpa using this
    have HB0 := Lib.hid b0
    obtain ⟨p0, p1, p2, p3, pf0, pf1, pf2, pf3⟩ := P0.out.four
    obtain ⟨r0, r1, r2, r3, rf0, rf1, rf2, rf3⟩ := R0.out.four
    have lr := R0.out.lt
    clear b0
    go_enter Try.func15, Try.ntmps15
    go_wp2_with fail
    rw [← hv0]
    clear hv0
    refine (HI.out v0).mono ?_
    rintro q w1 ⟨rfl, rfl⟩
    go_wp2_with fail
    go_region
    obtain ⟨w2, hw2⟩ : ∃ w2, w2 = w1.drew := ⟨_, rfl⟩
    have R0d : Hid (Blk w2 (w.heap.size + 1) #[.int .i64 0, .int .i64 0, .int .i64 0, .int .i64 0] 35) := by show Blk _ _ _ _; rw [hw2]; exact R0.out
    have P0d : Hid (Blk w2 w.heap.size #[.int .i64 b, .int .i64 e, .int .i64 x, .int .i64 n] 35) := by show Blk _ _ _ _; rw [hw2]; exact P0.out
    have HB0d : Hid (Below w.heap.size w w2) := by show Below _ _ _; rw [hw2]; exact HB0.out.drew
    rw [← hw2]
    clear R0 HB0 P0 hw2 p0 p1 p2 p3 pf0 pf1 pf2 pf3 r0 r1 r2 r3 rf0 rf1 rf2 rf3 lr
    have R0 := R0d
    have HB0 := HB0d
    have P0 := P0d
    obtain ⟨p0, p1, p2, p3, pf0, pf1, pf2, pf3⟩ := P0.out.four
    obtain ⟨r0, r1, r2, r3, rf0, rf1, rf2, rf3⟩ := R0.out.four
    have lr := R0.out.lt
    clear R0d HB0d P0d
    go_wp2_with fail
    have RW := R0
    have BW := HB0
    obtain ⟨v9, hv9⟩ : ∃ v9, v9 = put4 w2 (w.heap.size + 1) (.int .i64 b) (.int .i64 e) (.int .i64 x) (.int .i64 n) := ⟨_, rfl⟩
    have R9 : Hid (Blk v9 (w.heap.size + 1) #[.int .i64 b, .int .i64 e, .int .i64 x, .int .i64 n] 35) := by show Blk _ _ _ _; rw [hv9]; exact put4_blk RW.out _ _ _ _
    have B9 : Hid (Below w.heap.size w v9) := by show Below _ _ _; rw [hv9]; exact BW.out.trans ((put4_only _ _ _ _ _ _).below (fun j hj => by rw [hj]; omega) BW.out.size)
    unfold put4 at hv9
    rw [← hv9]
    clear hv9 r0 r1 r2 r3 rf0 rf1 rf2 rf3 p0 p1 p2 p3 pf0 pf1 pf2 pf3
    obtain ⟨t0, t1, t2, t3, _⟩ := R9.out.four
    exact bodyPost_ret (v := .tuple #[.agg #[.int .i64 b, .int .i64 e, .int .i64 x, .int .i64 n], .int .i64 9]) (by simp [results, Try.results15, go_sem, t0, t1, t2, t3]) rfl ⟨by rw [HE.out.1, HE.out.2], B9.out⟩
  have k3 : x - c > 67000 * (n - 1) := by
    rcases Int.lt_or_le (67000 * (n - 1)) (x - c) with h | h
    · exact h
    · exact absurd ⟨by omega, by omega, by omega⟩ hk
  have m1 : 0 ≤ n - 1 := by omega
  have m2 : 65 * (n - 1) ≤ x - c := by omega
  obtain ⟨v0, hv0⟩ : ∃ v0, v0 = (w.alloc (.cells #[.int .i64 b, .int .i64 e, .int .i64 x, .int .i64 n] 35)).alloc (.cells #[.int .i64 0, .int .i64 0, .int .i64 0, .int .i64 0] 35) := ⟨_, rfl⟩
  have b0 : Below w.heap.size w v0 := by rw [hv0]; exact (bnew w _).alloc (by simp) _
  have P0 : Hid (Blk v0 w.heap.size #[.int .i64 b, .int .i64 e, .int .i64 x, .int .i64 n] 35) := by
    show Blk _ _ _ _; rw [hv0]
    exact (Blk.new w _ _).below (bnew (w.alloc (.cells #[.int .i64 b, .int .i64 e, .int .i64 x, .int .i64 n] 35)) (.cells #[.int .i64 0, .int .i64 0, .int .i64 0, .int .i64 0] 35)) (by simp)
  have R0 : Hid (Blk v0 (w.heap.size + 1) #[.int .i64 0, .int .i64 0, .int .i64 0, .int .i64 0] 35) := by
    show Blk _ _ _ _; rw [hv0]
    have := Blk.new (w.alloc (.cells #[.int .i64 b, .int .i64 e, .int .i64 x, .int .i64 n] 35)) #[.int .i64 0, .int .i64 0, .int .i64 0, .int .i64 0] 35
    simpa using this
  have HB0 := Lib.hid b0
  obtain ⟨p0, p1, p2, p3, pf0, pf1, pf2, pf3⟩ := P0.out.four
  obtain ⟨r0, r1, r2, r3, rf0, rf1, rf2, rf3⟩ := R0.out.four
  have lr := R0.out.lt
  clear b0
  go_enter Try.func15, Try.ntmps15
  go_wp2_with fail
  rw [← hv0]
  clear hv0
  refine (HI.out v0).mono ?_
  rintro q w1 ⟨rfl, rfl⟩
  go_wp2_with fail
  go_region
  obtain ⟨w2, hw2⟩ : ∃ w2, w2 = w1.drew := ⟨_, rfl⟩
  have R0d : Hid (Blk w2 (w.heap.size + 1) #[.int .i64 0, .int .i64 0, .int .i64 0, .int .i64 0] 35) := by show Blk _ _ _ _; rw [hw2]; exact R0.out
  have P0d : Hid (Blk w2 w.heap.size #[.int .i64 b, .int .i64 e, .int .i64 x, .int .i64 n] 35) := by show Blk _ _ _ _; rw [hw2]; exact P0.out
  have HB0d : Hid (Below w.heap.size w w2) := by show Below _ _ _; rw [hw2]; exact HB0.out.drew
  rw [← hw2]
  clear R0 HB0 P0 hw2 p0 p1 p2 p3 pf0 pf1 pf2 pf3 r0 r1 r2 r3 rf0 rf1 rf2 rf3 lr
  have R0 := R0d
  have HB0 := HB0d
  have P0 := P0d
  obtain ⟨p0, p1, p2, p3, pf0, pf1, pf2, pf3⟩ := P0.out.four
  obtain ⟨r0, r1, r2, r3, rf0, rf1, rf2, rf3⟩ := R0.out.four
  have lr := R0.out.lt
  clear R0d HB0d P0d
  go_wp2_with fail
  have RW := R0
  have BW := HB0
  obtain ⟨v9, hv9⟩ : ∃ v9, v9 = put4 w2 (w.heap.size + 1) (.int .i64 b) (.int .i64 e) (.int .i64 x) (.int .i64 n) := ⟨_, rfl⟩
  have R9 : Hid (Blk v9 (w.heap.size + 1) #[.int .i64 b, .int .i64 e, .int .i64 x, .int .i64 n] 35) := by show Blk _ _ _ _; rw [hv9]; exact put4_blk RW.out _ _ _ _
  have B9 : Hid (Below w.heap.size w v9) := by show Below _ _ _; rw [hv9]; exact BW.out.trans ((put4_only _ _ _ _ _ _).below (fun j hj => by rw [hj]; omega) BW.out.size)
  unfold put4 at hv9
  rw [← hv9]
  clear hv9 r0 r1 r2 r3 rf0 rf1 rf2 rf3 p0 p1 p2 p3 pf0 pf1 pf2 pf3
  obtain ⟨t0, t1, t2, t3, _⟩ := R9.out.four
  exact bodyPost_ret (v := .tuple #[.agg #[.int .i64 b, .int .i64 e, .int .i64 x, .int .i64 n], .int .i64 9]) (by simp [results, Try.results15, go_sem, t0, t1, t2, t3]) rfl ⟨by rw [HE.out.1, HE.out.2], B9.out⟩
set_option maxRecDepth 100000 in
set_option maxHeartbeats 1000000 in
theorem chg_any {s : Ac} (hok : Ok s) (c d : Int) (w : World) : Calls Try.prog 17 #[sv s, .int .i64 c, .int .i64 d] w (vPost w (.tuple #[sv (chgT s c d), .int .i64 (chgN s c d)])) := by
  unfold vPost
  by_cases hc : isC c
  case' neg =>
    have HE : Hid (chgT s c d = s ∧ chgN s c d = 3) := ⟨if_neg (fun h => hc h.1.1), if_pos (fun h => hc h.1)⟩
    have HI := Lib.hid (is_no hc)
    clear hc
    obtain ⟨b, e, x, n⟩ := s
    obtain ⟨⟨hb1, hb2, he1, he2⟩, hn0, hn1, hlo, hhi⟩ := hok
    simp only at hb1 hb2 he1 he2 hn0 hn1 hlo hhi
    unfold sv cells
    simp only
    obtain ⟨v0, hv0⟩ : ∃ v0, v0 = (w.alloc (.cells #[.int .i64 b, .int .i64 e, .int .i64 x, .int .i64 n] 35)).alloc (.cells #[.int .i64 0, .int .i64 0, .int .i64 0, .int .i64 0] 35) := ⟨_, rfl⟩
    have b0 : Below w.heap.size w v0 := by rw [hv0]; exact (bnew w _).alloc (by simp) _
    have P0 : Hid (Blk v0 w.heap.size #[.int .i64 b, .int .i64 e, .int .i64 x, .int .i64 n] 35) := by
      show Blk _ _ _ _; rw [hv0]
      exact (Blk.new w _ _).below (bnew (w.alloc (.cells #[.int .i64 b, .int .i64 e, .int .i64 x, .int .i64 n] 35)) (.cells #[.int .i64 0, .int .i64 0, .int .i64 0, .int .i64 0] 35)) (by simp)
    have R0 : Hid (Blk v0 (w.heap.size + 1) #[.int .i64 0, .int .i64 0, .int .i64 0, .int .i64 0] 35) := by
      show Blk _ _ _ _; rw [hv0]
      have := Blk.new (w.alloc (.cells #[.int .i64 b, .int .i64 e, .int .i64 x, .int .i64 n] 35)) #[.int .i64 0, .int .i64 0, .int .i64 0, .int .i64 0] 35
      simpa using this
    have HB0 := Lib.hid b0
    obtain ⟨p0, p1, p2, p3, pf0, pf1, pf2, pf3⟩ := P0.out.four
    obtain ⟨r0, r1, r2, r3, rf0, rf1, rf2, rf3⟩ := R0.out.four
    have lr := R0.out.lt
    clear b0
    go_enter Try.func17, Try.ntmps17
    go_wp2_with fail
    rw [← hv0]
    clear hv0
    refine (HI.out v0).mono ?_
    rintro q w1 ⟨rfl, rfl⟩
    go_wp2_with fail
    have RW := R0
    have BW := HB0
    obtain ⟨v9, hv9⟩ : ∃ v9, v9 = put4 w1 (w.heap.size + 1) (.int .i64 b) (.int .i64 e) (.int .i64 x) (.int .i64 n) := ⟨_, rfl⟩
    have R9 : Hid (Blk v9 (w.heap.size + 1) #[.int .i64 b, .int .i64 e, .int .i64 x, .int .i64 n] 35) := by show Blk _ _ _ _; rw [hv9]; exact put4_blk RW.out _ _ _ _
    have B9 : Hid (Below w.heap.size w v9) := by show Below _ _ _; rw [hv9]; exact BW.out.trans ((put4_only _ _ _ _ _ _).below (fun j hj => by rw [hj]; omega) BW.out.size)
    unfold put4 at hv9
    rw [← hv9]
    clear hv9 r0 r1 r2 r3 rf0 rf1 rf2 rf3 p0 p1 p2 p3 pf0 pf1 pf2 pf3
    obtain ⟨t0, t1, t2, t3, _⟩ := R9.out.four
    exact bodyPost_ret (v := .tuple #[.agg #[.int .i64 b, .int .i64 e, .int .i64 x, .int .i64 n], .int .i64 3]) (by simp [results, Try.results17, go_sem, t0, t1, t2, t3]) rfl ⟨by rw [HE.out.1, HE.out.2], B9.out⟩
  by_cases hd : isC d
  case' neg =>
    have HE : Hid (chgT s c d = s ∧ chgN s c d = 3) := ⟨if_neg (fun h => hd h.1.2), if_pos (fun h => hd h.2)⟩
    have HI := Lib.hid (is_yes hc)
    have HJ := Lib.hid (is_no hd)
    clear hc hd
    obtain ⟨b, e, x, n⟩ := s
    obtain ⟨⟨hb1, hb2, he1, he2⟩, hn0, hn1, hlo, hhi⟩ := hok
    simp only at hb1 hb2 he1 he2 hn0 hn1 hlo hhi
    unfold sv cells
    simp only
    obtain ⟨v0, hv0⟩ : ∃ v0, v0 = (w.alloc (.cells #[.int .i64 b, .int .i64 e, .int .i64 x, .int .i64 n] 35)).alloc (.cells #[.int .i64 0, .int .i64 0, .int .i64 0, .int .i64 0] 35) := ⟨_, rfl⟩
    have b0 : Below w.heap.size w v0 := by rw [hv0]; exact (bnew w _).alloc (by simp) _
    have P0 : Hid (Blk v0 w.heap.size #[.int .i64 b, .int .i64 e, .int .i64 x, .int .i64 n] 35) := by
      show Blk _ _ _ _; rw [hv0]
      exact (Blk.new w _ _).below (bnew (w.alloc (.cells #[.int .i64 b, .int .i64 e, .int .i64 x, .int .i64 n] 35)) (.cells #[.int .i64 0, .int .i64 0, .int .i64 0, .int .i64 0] 35)) (by simp)
    have R0 : Hid (Blk v0 (w.heap.size + 1) #[.int .i64 0, .int .i64 0, .int .i64 0, .int .i64 0] 35) := by
      show Blk _ _ _ _; rw [hv0]
      have := Blk.new (w.alloc (.cells #[.int .i64 b, .int .i64 e, .int .i64 x, .int .i64 n] 35)) #[.int .i64 0, .int .i64 0, .int .i64 0, .int .i64 0] 35
      simpa using this
    have HB0 := Lib.hid b0
    obtain ⟨p0, p1, p2, p3, pf0, pf1, pf2, pf3⟩ := P0.out.four
    obtain ⟨r0, r1, r2, r3, rf0, rf1, rf2, rf3⟩ := R0.out.four
    have lr := R0.out.lt
    clear b0
    go_enter Try.func17, Try.ntmps17
    go_wp2_with fail
    rw [← hv0]
    clear hv0
    refine (HI.out v0).mono ?_
    rintro q w1 ⟨rfl, rfl⟩
    go_wp2_with fail
    refine (HJ.out w1).mono ?_
    rintro q w2 ⟨rfl, rfl⟩
    go_wp2_with fail
    have RW := R0
    have BW := HB0
    obtain ⟨v9, hv9⟩ : ∃ v9, v9 = put4 w2 (w.heap.size + 1) (.int .i64 b) (.int .i64 e) (.int .i64 x) (.int .i64 n) := ⟨_, rfl⟩
    have R9 : Hid (Blk v9 (w.heap.size + 1) #[.int .i64 b, .int .i64 e, .int .i64 x, .int .i64 n] 35) := by show Blk _ _ _ _; rw [hv9]; exact put4_blk RW.out _ _ _ _
    have B9 : Hid (Below w.heap.size w v9) := by show Below _ _ _; rw [hv9]; exact BW.out.trans ((put4_only _ _ _ _ _ _).below (fun j hj => by rw [hj]; omega) BW.out.size)
    unfold put4 at hv9
    rw [← hv9]
    clear hv9 r0 r1 r2 r3 rf0 rf1 rf2 rf3 p0 p1 p2 p3 pf0 pf1 pf2 pf3
    obtain ⟨t0, t1, t2, t3, _⟩ := R9.out.four
    exact bodyPost_ret (v := .tuple #[.agg #[.int .i64 b, .int .i64 e, .int .i64 x, .int .i64 n], .int .i64 3]) (by simp [results, Try.results17, go_sem, t0, t1, t2, t3]) rfl ⟨by rw [HE.out.1, HE.out.2], B9.out⟩
  by_cases hk : can s c
  case' neg =>
    have HE : Hid (chgT s c d = s ∧ chgN s c d = 9) := ⟨if_neg (fun h => hk h.2), by unfold chgN; rw [if_neg (fun h => h ⟨hc, hd⟩), if_neg hk]⟩
    have HI := Lib.hid (is_yes hc)
    have HJ := Lib.hid (is_yes hd)
    have HRM : Hid (∀ W, Calls Try.prog 15 #[sv s, .int .i64 c] W (vPost W (.tuple #[sv (remT s c), .int .i64 (remN s c)]))) := fun W => rem_any hok c W
    have eT : remT s c = s := if_neg (fun h => hk h.2)
    have eN : remN s c = 9 := by unfold remN; rw [if_neg (by simpa using hc), if_neg hk]
    rw [eT, eN] at HRM
    clear eT eN hc hd hk
    obtain ⟨b, e, x, n⟩ := s
    obtain ⟨⟨hb1, hb2, he1, he2⟩, hn0, hn1, hlo, hhi⟩ := hok
    simp only at hb1 hb2 he1 he2 hn0 hn1 hlo hhi
    unfold sv cells
    simp only
    unfold sv cells vPost at HRM
    simp only at HRM
    obtain ⟨v0, hv0⟩ : ∃ v0, v0 = (w.alloc (.cells #[.int .i64 b, .int .i64 e, .int .i64 x, .int .i64 n] 35)).alloc (.cells #[.int .i64 0, .int .i64 0, .int .i64 0, .int .i64 0] 35) := ⟨_, rfl⟩
    have b0 : Below w.heap.size w v0 := by rw [hv0]; exact (bnew w _).alloc (by simp) _
    have P0 : Hid (Blk v0 w.heap.size #[.int .i64 b, .int .i64 e, .int .i64 x, .int .i64 n] 35) := by
      show Blk _ _ _ _; rw [hv0]
      exact (Blk.new w _ _).below (bnew (w.alloc (.cells #[.int .i64 b, .int .i64 e, .int .i64 x, .int .i64 n] 35)) (.cells #[.int .i64 0, .int .i64 0, .int .i64 0, .int .i64 0] 35)) (by simp)
    have R0 : Hid (Blk v0 (w.heap.size + 1) #[.int .i64 0, .int .i64 0, .int .i64 0, .int .i64 0] 35) := by
      show Blk _ _ _ _; rw [hv0]
      have := Blk.new (w.alloc (.cells #[.int .i64 b, .int .i64 e, .int .i64 x, .int .i64 n] 35)) #[.int .i64 0, .int .i64 0, .int .i64 0, .int .i64 0] 35
      simpa using this
    have HB0 := Lib.hid b0
    obtain ⟨p0, p1, p2, p3, pf0, pf1, pf2, pf3⟩ := P0.out.four
    obtain ⟨r0, r1, r2, r3, rf0, rf1, rf2, rf3⟩ := R0.out.four
    have lr := R0.out.lt
    clear b0
    go_enter Try.func17, Try.ntmps17
    go_wp2_with fail
    rw [← hv0]
    clear hv0
    refine (HI.out v0).mono ?_
    rintro q w1 ⟨rfl, rfl⟩
    go_wp2_with fail
    refine (HJ.out w1).mono ?_
    rintro q w2 ⟨rfl, rfl⟩
    go_wp2_with fail
    refine (HRM.out w2).mono ?_
    rintro q v1 ⟨rfl, hb⟩
    have R1 := Lib.hid (R0.out.below hb R0.out.lt)
    have P1 := Lib.hid (P0.out.below hb P0.out.lt)
    have HB1 := Lib.hid (HB0.out.trans (hb.mono HB0.out.size))
    clear hb p0 p1 p2 p3 pf0 pf1 pf2 pf3 r0 r1 r2 r3 rf0 rf1 rf2 rf3 lr
    obtain ⟨p0, p1, p2, p3, pf0, pf1, pf2, pf3⟩ := P1.out.four
    obtain ⟨r0, r1, r2, r3, rf0, rf1, rf2, rf3⟩ := R1.out.four
    have lr := R1.out.lt
    obtain ⟨v2, hv2⟩ : ∃ v2, v2 = v1.alloc (.cells #[.int .i64 b, .int .i64 e, .int .i64 x, .int .i64 n] 35) := ⟨_, rfl⟩
    have AL : Below v1.heap.size v1 v2 := by rw [hv2]; exact bnew _ _
    have R2 := Lib.hid (R1.out.below AL lr)
    have P2 := Lib.hid (P1.out.below AL P1.out.lt)
    have HB2 := Lib.hid (HB1.out.trans (AL.mono HB1.out.size))
    clear AL
    go_upto_region 4 with fail
    rw [← hv2]
    clear hv2 p0 p1 p2 p3 pf0 pf1 pf2 pf3 r0 r1 r2 r3 rf0 rf1 rf2 rf3 lr
    obtain ⟨p0, p1, p2, p3, pf0, pf1, pf2, pf3⟩ := P2.out.four
    obtain ⟨r0, r1, r2, r3, rf0, rf1, rf2, rf3⟩ := R2.out.four
    have lr := R2.out.lt
    go_wp2_with fail
    have RW := R2
    have BW := HB2
    obtain ⟨v9, hv9⟩ : ∃ v9, v9 = put4 v2 (w.heap.size + 1) (.int .i64 b) (.int .i64 e) (.int .i64 x) (.int .i64 n) := ⟨_, rfl⟩
    have R9 : Hid (Blk v9 (w.heap.size + 1) #[.int .i64 b, .int .i64 e, .int .i64 x, .int .i64 n] 35) := by show Blk _ _ _ _; rw [hv9]; exact put4_blk RW.out _ _ _ _
    have B9 : Hid (Below w.heap.size w v9) := by show Below _ _ _; rw [hv9]; exact BW.out.trans ((put4_only _ _ _ _ _ _).below (fun j hj => by rw [hj]; omega) BW.out.size)
    unfold put4 at hv9
    rw [← hv9]
    clear hv9 r0 r1 r2 r3 rf0 rf1 rf2 rf3 p0 p1 p2 p3 pf0 pf1 pf2 pf3
    obtain ⟨t0, t1, t2, t3, _⟩ := R9.out.four
    exact bodyPost_ret (v := .tuple #[.agg #[.int .i64 b, .int .i64 e, .int .i64 x, .int .i64 n], .int .i64 9]) (by simp [results, Try.results17, go_sem, t0, t1, t2, t3]) rfl ⟨by rw [HE.out.1, HE.out.2], B9.out⟩
  have HE : Hid (chgT s c d = { s with x := s.x - c + d } ∧ chgN s c d = 0) := ⟨if_pos ⟨⟨hc, hd⟩, hk⟩, by unfold chgN; rw [if_neg (fun h => h ⟨hc, hd⟩), if_pos hk]⟩
  have HI := Lib.hid (is_yes hc)
  have HJ := Lib.hid (is_yes hd)
  have HRM : Hid (∀ W, Calls Try.prog 15 #[sv s, .int .i64 c] W (vPost W (.tuple #[sv (remT s c), .int .i64 (remN s c)]))) := fun W => rem_any hok c W
  have eT : remT s c = { s with x := s.x - c, n := s.n - 1 } := if_pos ⟨hc, hk⟩
  have eN : remN s c = 0 := by unfold remN; rw [if_neg (by simpa using hc), if_pos hk]
  obtain ⟨e1, e2⟩ := chg_two hok hc hd hk
  have HAD : Hid (∀ W, Calls Try.prog 13 #[sv (remT s c), .int .i64 d] W (vPost W (.tuple #[sv (addT (remT s c) d), .int .i64 (addN (remT s c) d)]))) := fun W => add_any (hok.rem c) d W
  rw [← e1, e2, HE.out.1, eT] at HAD
  rw [eT, eN] at HRM
  clear e1 e2 eT eN hc hd hk
  obtain ⟨b, e, x, n⟩ := s
  obtain ⟨⟨hb1, hb2, he1, he2⟩, hn0, hn1, hlo, hhi⟩ := hok
  simp only at hb1 hb2 he1 he2 hn0 hn1 hlo hhi
  unfold sv cells
  simp only
  unfold sv cells vPost at HRM HAD
  simp only at HRM HAD
  obtain ⟨v0, hv0⟩ : ∃ v0, v0 = (w.alloc (.cells #[.int .i64 b, .int .i64 e, .int .i64 x, .int .i64 n] 35)).alloc (.cells #[.int .i64 0, .int .i64 0, .int .i64 0, .int .i64 0] 35) := ⟨_, rfl⟩
  have b0 : Below w.heap.size w v0 := by rw [hv0]; exact (bnew w _).alloc (by simp) _
  have P0 : Hid (Blk v0 w.heap.size #[.int .i64 b, .int .i64 e, .int .i64 x, .int .i64 n] 35) := by
    show Blk _ _ _ _; rw [hv0]
    exact (Blk.new w _ _).below (bnew (w.alloc (.cells #[.int .i64 b, .int .i64 e, .int .i64 x, .int .i64 n] 35)) (.cells #[.int .i64 0, .int .i64 0, .int .i64 0, .int .i64 0] 35)) (by simp)
  have R0 : Hid (Blk v0 (w.heap.size + 1) #[.int .i64 0, .int .i64 0, .int .i64 0, .int .i64 0] 35) := by
    show Blk _ _ _ _; rw [hv0]
    have := Blk.new (w.alloc (.cells #[.int .i64 b, .int .i64 e, .int .i64 x, .int .i64 n] 35)) #[.int .i64 0, .int .i64 0, .int .i64 0, .int .i64 0] 35
    simpa using this
  have HB0 := Lib.hid b0
  obtain ⟨p0, p1, p2, p3, pf0, pf1, pf2, pf3⟩ := P0.out.four
  obtain ⟨r0, r1, r2, r3, rf0, rf1, rf2, rf3⟩ := R0.out.four
  have lr := R0.out.lt
  clear b0
  go_enter Try.func17, Try.ntmps17
  go_wp2_with fail
  rw [← hv0]
  clear hv0
  refine (HI.out v0).mono ?_
  rintro q w1 ⟨rfl, rfl⟩
  go_wp2_with fail
  refine (HJ.out w1).mono ?_
  rintro q w2 ⟨rfl, rfl⟩
  go_wp2_with fail
  refine (HRM.out w2).mono ?_
  rintro q v1 ⟨rfl, hb⟩
  have R1 := Lib.hid (R0.out.below hb R0.out.lt)
  have P1 := Lib.hid (P0.out.below hb P0.out.lt)
  have HB1 := Lib.hid (HB0.out.trans (hb.mono HB0.out.size))
  clear hb p0 p1 p2 p3 pf0 pf1 pf2 pf3 r0 r1 r2 r3 rf0 rf1 rf2 rf3 lr
  obtain ⟨p0, p1, p2, p3, pf0, pf1, pf2, pf3⟩ := P1.out.four
  obtain ⟨r0, r1, r2, r3, rf0, rf1, rf2, rf3⟩ := R1.out.four
  have lr := R1.out.lt
  obtain ⟨v2, hv2⟩ : ∃ v2, v2 = v1.alloc (.cells #[.int .i64 b, .int .i64 e, .int .i64 (x - c), .int .i64 (n - 1)] 35) := ⟨_, rfl⟩
  have AL : Below v1.heap.size v1 v2 := by rw [hv2]; exact bnew _ _
  have P8 : Hid (Blk v2 v1.heap.size #[.int .i64 b, .int .i64 e, .int .i64 (x - c), .int .i64 (n - 1)] 35) := by show Blk _ _ _ _; rw [hv2]; exact Blk.new _ _ _
  have R2 := Lib.hid (R1.out.below AL lr)
  have HB2 := Lib.hid (HB1.out.trans (AL.mono HB1.out.size))
  clear AL
  go_upto_region 4 with fail
  rw [← hv2]
  clear hv2 p0 p1 p2 p3 pf0 pf1 pf2 pf3 r0 r1 r2 r3 rf0 rf1 rf2 rf3 lr
  obtain ⟨p0, p1, p2, p3, pf0, pf1, pf2, pf3⟩ := P8.out.four
  go_wp2_with fail
  refine (HAD.out v2).mono ?_
  rintro q v3 ⟨rfl, hb⟩
  have RW := Lib.hid (R2.out.below hb R2.out.lt)
  have BW := Lib.hid (HB2.out.trans (hb.mono HB2.out.size))
  clear hb p0 p1 p2 p3 pf0 pf1 pf2 pf3
  obtain ⟨r0, r1, r2, r3, rf0, rf1, rf2, rf3⟩ := RW.out.four
  have lr := RW.out.lt
  obtain ⟨p0, p1, p2, p3, pf0, pf1, pf2, pf3⟩ := (P8.out.below (Below.refl _ _) P8.out.lt).four
  go_wp2_with fail
  obtain ⟨v9, hv9⟩ : ∃ v9, v9 = put4 v3 (w.heap.size + 1) (.int .i64 b) (.int .i64 e) (.int .i64 (x - c + d)) (.int .i64 n) := ⟨_, rfl⟩
  have R9 : Hid (Blk v9 (w.heap.size + 1) #[.int .i64 b, .int .i64 e, .int .i64 (x - c + d), .int .i64 n] 35) := by show Blk _ _ _ _; rw [hv9]; exact put4_blk RW.out _ _ _ _
  have B9 : Hid (Below w.heap.size w v9) := by show Below _ _ _; rw [hv9]; exact BW.out.trans ((put4_only _ _ _ _ _ _).below (fun j hj => by rw [hj]; omega) BW.out.size)
  unfold put4 at hv9
  rw [← hv9]
  clear hv9 r0 r1 r2 r3 rf0 rf1 rf2 rf3 p0 p1 p2 p3 pf0 pf1 pf2 pf3
  obtain ⟨t0, t1, t2, t3, _⟩ := R9.out.four
  exact bodyPost_ret (v := .tuple #[.agg #[.int .i64 b, .int .i64 e, .int .i64 (x - c + d), .int .i64 n], .int .i64 0]) (by simp [results, Try.results17, go_sem, t0, t1, t2, t3]) rfl ⟨by rw [HE.out.1, HE.out.2], B9.out⟩
set_option maxRecDepth 100000 in
theorem fits_any {s : Ac} (hok : Ok s) (c : Int) (w : World) : Calls Try.prog 20 #[sv s, .int .i64 c] w (vPost w (.bool (fitB s c))) := by
  unfold vPost
  by_cases hc : isC c
  case' neg =>
    have HE : Hid (fitB s c = false) := by show _ = _; unfold fitB; simp [hc]
    have HI := Lib.hid (is_no hc)
    clear hc
    obtain ⟨b, e, x, n⟩ := s
    obtain ⟨⟨hb1, hb2, he1, he2⟩, hn0, hn1, hlo, hhi⟩ := hok
    simp only at hb1 hb2 he1 he2 hn0 hn1 hlo hhi
    unfold sv cells
    simp only
    obtain ⟨v0, hv0⟩ : ∃ v0, v0 = w.alloc (.cells #[.int .i64 b, .int .i64 e, .int .i64 x, .int .i64 n] 35) := ⟨_, rfl⟩
    have b0 : Below w.heap.size w v0 := by rw [hv0]; exact bnew w _
    have P0 : Hid (Blk v0 w.heap.size #[.int .i64 b, .int .i64 e, .int .i64 x, .int .i64 n] 35) := by show Blk _ _ _ _; rw [hv0]; exact Blk.new w _ _
    have HB0 := Lib.hid b0
    obtain ⟨p0, p1, p2, p3, _⟩ := P0.out.four
    have lw := P0.out.lt
    clear b0
    go_enter Try.func20, Try.ntmps20
    go_wp2_with fail
    rw [← hv0]
    clear hv0
    refine (HI.out v0).mono ?_
    rintro q w1 ⟨rfl, rfl⟩
    go_wp2_with fail
    go_ret
    exact ⟨retB HE.out.symm, HB0.out⟩
  by_cases hf : c ≤ s.b
  case' pos =>
    have HE : Hid (fitB s c = true) := by show _ = _; unfold fitB; simp [hc, hf]
    have HI := Lib.hid (is_yes hc)
    clear hc
    obtain ⟨b, e, x, n⟩ := s
    obtain ⟨⟨hb1, hb2, he1, he2⟩, hn0, hn1, hlo, hhi⟩ := hok
    simp only at hb1 hb2 he1 he2 hn0 hn1 hlo hhi
    unfold sv cells
    simp only
    simp only at hf
    obtain ⟨v0, hv0⟩ : ∃ v0, v0 = w.alloc (.cells #[.int .i64 b, .int .i64 e, .int .i64 x, .int .i64 n] 35) := ⟨_, rfl⟩
    have b0 : Below w.heap.size w v0 := by rw [hv0]; exact bnew w _
    have P0 : Hid (Blk v0 w.heap.size #[.int .i64 b, .int .i64 e, .int .i64 x, .int .i64 n] 35) := by show Blk _ _ _ _; rw [hv0]; exact Blk.new w _ _
    have HB0 := Lib.hid b0
    obtain ⟨p0, p1, p2, p3, _⟩ := P0.out.four
    have lw := P0.out.lt
    clear b0
    go_enter Try.func20, Try.ntmps20
    go_wp2_with fail
    rw [← hv0]
    clear hv0
    refine (HI.out v0).mono ?_
    rintro q w1 ⟨rfl, rfl⟩
    go_wp2_with fail
    go_ret
    exact ⟨retB (by rw [HE.out]; try (simp; omega)), HB0.out⟩
  have HE : Hid (fitB s c = false) := by show _ = _; unfold fitB; simp [hc, hf]
  have HI := Lib.hid (is_yes hc)
  clear hc
  obtain ⟨b, e, x, n⟩ := s
  obtain ⟨⟨hb1, hb2, he1, he2⟩, hn0, hn1, hlo, hhi⟩ := hok
  simp only at hb1 hb2 he1 he2 hn0 hn1 hlo hhi
  unfold sv cells
  simp only
  simp only at hf
  obtain ⟨v0, hv0⟩ : ∃ v0, v0 = w.alloc (.cells #[.int .i64 b, .int .i64 e, .int .i64 x, .int .i64 n] 35) := ⟨_, rfl⟩
  have b0 : Below w.heap.size w v0 := by rw [hv0]; exact bnew w _
  have P0 : Hid (Blk v0 w.heap.size #[.int .i64 b, .int .i64 e, .int .i64 x, .int .i64 n] 35) := by show Blk _ _ _ _; rw [hv0]; exact Blk.new w _ _
  have HB0 := Lib.hid b0
  obtain ⟨p0, p1, p2, p3, _⟩ := P0.out.four
  have lw := P0.out.lt
  clear b0
  go_enter Try.func20, Try.ntmps20
  go_wp2_with fail
  rw [← hv0]
  clear hv0
  refine (HI.out v0).mono ?_
  rintro q w1 ⟨rfl, rfl⟩
  go_wp2_with fail
  go_ret
  exact ⟨retB (by rw [HE.out]; try (simp; omega)), HB0.out⟩
set_option maxRecDepth 100000 in
theorem over_any {s : Ac} (hok : Ok s) (w : World) : Calls Try.prog 22 #[sv s] w (vPost w (.tuple #[.int .i64 (ovB s), .int .i64 (ovE s)])) := by
  unfold vPost
  obtain ⟨b, e, x, n⟩ := s
  obtain ⟨⟨hb1, hb2, he1, he2⟩, hn0, hn1, hlo, hhi⟩ := hok
  simp only at hb1 hb2 he1 he2 hn0 hn1 hlo hhi
  unfold sv cells
  simp only
  unfold ovB ovE
  simp only
  obtain ⟨v0, hv0⟩ : ∃ v0, v0 = w.alloc (.cells #[.int .i64 b, .int .i64 e, .int .i64 x, .int .i64 n] 35) := ⟨_, rfl⟩
  have b0 : Below w.heap.size w v0 := by rw [hv0]; exact bnew w _
  have P0 : Hid (Blk v0 w.heap.size #[.int .i64 b, .int .i64 e, .int .i64 x, .int .i64 n] 35) := by show Blk _ _ _ _; rw [hv0]; exact Blk.new w _ _
  have HB0 := Lib.hid b0
  obtain ⟨p0, p1, p2, p3, _⟩ := P0.out.four
  have lw := P0.out.lt
  clear b0
  go_enter Try.func22, Try.ntmps22
  go_wp2_with fail
  rw [← hv0]
  clear hv0
  go_region
  all_goals
    go_wp2_with fail
  all_goals
    go_ret2
    refine ⟨?_, HB0.out.drew⟩
    simp
    omega
set_option maxRecDepth 100000 in
theorem new_any (b e : Int) (w : World) : Calls Try.prog 12 #[.int .i64 b, .int .i64 e] w (vPost w (.tuple #[sv (if bud b e then ⟨b, e, 0, 0⟩ else ⟨0, 0, 0, 0⟩), .int .i64 (if bud b e then 0 else 2)])) := by
  unfold vPost
  by_cases h : bud b e
  case' pos =>
    rw [if_pos h, if_pos h]
    obtain ⟨h1, h2, h3, h4⟩ := h
    unfold sv cells
    simp only
    have k1 : ¬ b < 1 := by omega
    have k2 : ¬ b > 1099511627776 := by omega
    have k3 : ¬ e < 1 := by omega
    have k4 : ¬ e > 1048576 := by omega
    go_enter Try.func12, Try.ntmps12
    go_wp2_with fail
    obtain ⟨v9, hv9⟩ : ∃ v9, v9 = w.alloc (.cells #[.int .i64 b, .int .i64 e, .int .i64 0, .int .i64 0] 35) := ⟨_, rfl⟩
    have R9 : Hid (Blk v9 w.heap.size #[.int .i64 b, .int .i64 e, .int .i64 0, .int .i64 0] 35) := by show Blk _ _ _ _; rw [hv9]; exact Blk.new _ _ _
    have B9 : Hid (Below w.heap.size w v9) := by show Below _ _ _; rw [hv9]; exact bnew _ _
    rw [← hv9]
    clear hv9
    obtain ⟨t0, t1, t2, t3, _⟩ := R9.out.four
    exact bodyPost_ret (v := .tuple #[.agg #[.int .i64 b, .int .i64 e, .int .i64 0, .int .i64 0], .int .i64 0]) (by simp [results, Try.results12, go_sem, t0, t1, t2, t3]) rfl ⟨rfl, B9.out⟩
  rw [if_neg h, if_neg h]
  unfold sv cells
  simp only
  by_cases k1 : b < 1
  case' pos =>
    clear h
    go_enter Try.func12, Try.ntmps12
    go_wp2_with fail
    obtain ⟨v9, hv9⟩ : ∃ v9, v9 = w.alloc (.cells #[.int .i64 0, .int .i64 0, .int .i64 0, .int .i64 0] 35) := ⟨_, rfl⟩
    have R9 : Hid (Blk v9 w.heap.size #[.int .i64 0, .int .i64 0, .int .i64 0, .int .i64 0] 35) := by show Blk _ _ _ _; rw [hv9]; exact Blk.new _ _ _
    have B9 : Hid (Below w.heap.size w v9) := by show Below _ _ _; rw [hv9]; exact bnew _ _
    rw [← hv9]
    clear hv9
    obtain ⟨t0, t1, t2, t3, _⟩ := R9.out.four
    exact bodyPost_ret (v := .tuple #[.agg #[.int .i64 0, .int .i64 0, .int .i64 0, .int .i64 0], .int .i64 2]) (by simp [results, Try.results12, go_sem, t0, t1, t2, t3]) rfl ⟨rfl, B9.out⟩
  by_cases k2 : b > 1099511627776
  case' pos =>
    clear h
    have m1 : 1 ≤ b := by omega
    go_enter Try.func12, Try.ntmps12
    go_wp2_with fail
    obtain ⟨v9, hv9⟩ : ∃ v9, v9 = w.alloc (.cells #[.int .i64 0, .int .i64 0, .int .i64 0, .int .i64 0] 35) := ⟨_, rfl⟩
    have R9 : Hid (Blk v9 w.heap.size #[.int .i64 0, .int .i64 0, .int .i64 0, .int .i64 0] 35) := by show Blk _ _ _ _; rw [hv9]; exact Blk.new _ _ _
    have B9 : Hid (Below w.heap.size w v9) := by show Below _ _ _; rw [hv9]; exact bnew _ _
    rw [← hv9]
    clear hv9
    obtain ⟨t0, t1, t2, t3, _⟩ := R9.out.four
    exact bodyPost_ret (v := .tuple #[.agg #[.int .i64 0, .int .i64 0, .int .i64 0, .int .i64 0], .int .i64 2]) (by simp [results, Try.results12, go_sem, t0, t1, t2, t3]) rfl ⟨rfl, B9.out⟩
  by_cases k3 : e < 1
  case' pos =>
    clear h
    have m1 : 1 ≤ b := by omega
    have m2 : b ≤ 1099511627776 := by omega
    go_enter Try.func12, Try.ntmps12
    go_wp2_with fail
    obtain ⟨v9, hv9⟩ : ∃ v9, v9 = w.alloc (.cells #[.int .i64 0, .int .i64 0, .int .i64 0, .int .i64 0] 35) := ⟨_, rfl⟩
    have R9 : Hid (Blk v9 w.heap.size #[.int .i64 0, .int .i64 0, .int .i64 0, .int .i64 0] 35) := by show Blk _ _ _ _; rw [hv9]; exact Blk.new _ _ _
    have B9 : Hid (Below w.heap.size w v9) := by show Below _ _ _; rw [hv9]; exact bnew _ _
    rw [← hv9]
    clear hv9
    obtain ⟨t0, t1, t2, t3, _⟩ := R9.out.four
    exact bodyPost_ret (v := .tuple #[.agg #[.int .i64 0, .int .i64 0, .int .i64 0, .int .i64 0], .int .i64 2]) (by simp [results, Try.results12, go_sem, t0, t1, t2, t3]) rfl ⟨rfl, B9.out⟩
  have k4 : e > 1048576 := by
    rcases Int.lt_or_le 1048576 e with g | g
    · exact g
    · exact absurd ⟨by omega, by omega, by omega, g⟩ h
  clear h
  have m1 : 1 ≤ b := by omega
  have m2 : b ≤ 1099511627776 := by omega
  have m3 : 1 ≤ e := by omega
  go_enter Try.func12, Try.ntmps12
  go_wp2_with fail
  obtain ⟨v9, hv9⟩ : ∃ v9, v9 = w.alloc (.cells #[.int .i64 0, .int .i64 0, .int .i64 0, .int .i64 0] 35) := ⟨_, rfl⟩
  have R9 : Hid (Blk v9 w.heap.size #[.int .i64 0, .int .i64 0, .int .i64 0, .int .i64 0] 35) := by show Blk _ _ _ _; rw [hv9]; exact Blk.new _ _ _
  have B9 : Hid (Below w.heap.size w v9) := by show Below _ _ _; rw [hv9]; exact bnew _ _
  rw [← hv9]
  clear hv9
  obtain ⟨t0, t1, t2, t3, _⟩ := R9.out.four
  exact bodyPost_ret (v := .tuple #[.agg #[.int .i64 0, .int .i64 0, .int .i64 0, .int .i64 0], .int .i64 2]) (by simp [results, Try.results12, go_sem, t0, t1, t2, t3]) rfl ⟨rfl, B9.out⟩
end Go.Proofs.Ytocfinhbocjbgaa.Jb
