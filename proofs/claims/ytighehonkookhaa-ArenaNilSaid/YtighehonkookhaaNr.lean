/- Proves what the methods return for nil and zero arenas, and that ArenaNil returns true at every argument. No condition. -/
import Derived.Test.YtighehonkookhaaNq
namespace Go.Proofs.Ytighehonkookhaa.Nr
open Go.RowKit Ap Mi Nm Nw Na Nb Rg Nc Nd Nx Nf Ng Nh Nj Nk Nl Np Nq

/-- A nil or zero arena. -/
def Nob (w : World) (p : Option Addr) : Prop := p = none ∨ ∃ g, p = some ⟨g, 0, none⟩ ∧ Blk w g #[.int .i64 0, .slice none 0 0, .slice none 0 0] 50
theorem Nob.below {w w' : World} {p : Option Addr} {B : Nat} (h : Nob w p) (hb : Below B w w') (hB : w.heap.size ≤ B) : Nob w' p := by
  rcases h with h | ⟨g, h, hg⟩
  · exact Or.inl h
  · exact Or.inr ⟨g, h, hg.below hb (by have := hg.lt; omega)⟩
set_option maxRecDepth 100000 in
set_option maxHeartbeats 1000000 in
theorem usable_nil {w : World} {p : Option Addr} (h : Nob w p) : Calls Try.prog 30 #[.pointer p] w fun e w' => e = .returned (.bool false) ∧ w = w' := by
  rcases h with rfl | ⟨g, rfl, hg⟩
  · go_enter Try.func30, Try.ntmps30
    go_wp2_with fail
    go_ret
    exact ⟨rfl, rfl⟩
  · obtain ⟨c0, c1, c2, _, _, _⟩ := hg.three
    have lg := hg.lt
    clear hg
    go_enter Try.func30, Try.ntmps30
    go_wp2_with fail
    go_ret
    exact ⟨rfl, rfl⟩
set_option maxRecDepth 100000 in
set_option maxHeartbeats 1000000 in
theorem made_nil {w : World} {p : Option Addr} (h : Nob w p) : Calls Try.prog 15 #[.pointer p] w fun e w' => e = .returned (.int .i64 0) ∧ w = w' := by
  rcases h with rfl | ⟨g, rfl, hg⟩
  · go_enter Try.func15, Try.ntmps15
    go_wp2_with fail
    go_ret
    exact ⟨rfl, rfl⟩
  · obtain ⟨c0, c1, c2, _, _, _⟩ := hg.three
    have lg := hg.lt
    clear hg
    go_enter Try.func15, Try.ntmps15
    go_wp2_with fail
    go_ret
    exact ⟨rfl, rfl⟩
set_option maxRecDepth 100000 in
set_option maxHeartbeats 1000000 in
theorem len_nil {w : World} {p : Option Addr} (h : Nob w p) : Calls Try.prog 14 #[.pointer p] w fun e w' => e = .returned (.int .i64 0) ∧ ∃ n, w' = w.drewN n := by
  rcases h with rfl | ⟨g, rfl, hg⟩
  · go_enter Try.func14, Try.ntmps14
    go_wp2_with fail
    go_ret
    exact ⟨rfl, 0, rfl⟩
  · obtain ⟨c0, c1, c2, _, _, _⟩ := hg.three
    clear hg
    go_enter Try.func14, Try.ntmps14
    go_wp2_with fail
    go_quiet (fail)
    go_wp2_with fail
    go_ret
    exact ⟨retI (by simp), _, rfl⟩
set_option maxRecDepth 100000 in
set_option maxHeartbeats 1000000 in
theorem take_nil {w : World} {p : Option Addr} (h : Nob w p) : Calls Try.prog 21 #[.pointer p] w fun e w' => e = .returned (.tuple #[.agg #[.int .i64 0, .int .i64 0], .int .i64 1]) ∧ Below w.heap.size w w' := by
  have HU := Lib.hid (usable_nil (h.below (bnew w (.cells #[.int .i64 0, .int .i64 0] 35)) (Nat.le_refl _)))
  clear h
  go_enter Try.func21, Try.ntmps21
  go_wp2_with fail
  refine HU.out.mono ?_
  rintro e w1 ⟨rfl, rfl⟩
  go_wp2_with fail
  exact bodyPost_ret (v := .tuple #[.agg #[.int .i64 0, .int .i64 0], .int .i64 1]) (by simp [results, Try.results21, go_sem]) rfl ⟨rfl, bnew _ _⟩
set_option maxRecDepth 100000 in
set_option maxHeartbeats 1000000 in
theorem at_nil {w : World} {p : Option Addr} (h : Nob w p) (n : Int) : Calls Try.prog 22 #[.pointer p, .int .i64 n] w fun e w' => e = .returned (.tuple #[.agg #[.int .i64 0, .int .i64 0], .int .i64 1]) ∧ Below w.heap.size w w' := by
  have HU := Lib.hid (usable_nil (h.below (bnew w (.cells #[.int .i64 0, .int .i64 0] 35)) (Nat.le_refl _)))
  clear h
  go_enter Try.func22, Try.ntmps22
  go_wp2_with fail
  refine HU.out.mono ?_
  rintro e w1 ⟨rfl, rfl⟩
  go_wp2_with fail
  exact bodyPost_ret (v := .tuple #[.agg #[.int .i64 0, .int .i64 0], .int .i64 1]) (by simp [results, Try.results22, go_sem]) rfl ⟨rfl, bnew _ _⟩
set_option maxRecDepth 100000 in
set_option maxHeartbeats 1000000 in
theorem free_nil {w : World} {p : Option Addr} (h : Nob w p) (n x : Int) : Calls Try.prog 16 #[.pointer p, .agg #[.int .i64 n, .int .i64 x]] w fun e w' => e = .returned (.int .i64 1) ∧ Below w.heap.size w w' := by
  have HU := Lib.hid (at_nil (h.below (bnew w (.cells #[.int .i64 n, .int .i64 x] 35)) (Nat.le_refl _)) n)
  clear h
  go_enter Try.func16, Try.ntmps16
  go_wp2_with fail
  refine HU.out.mono ?_
  rintro e w1 ⟨rfl, hb⟩
  have HB := Lib.hid hb
  clear hb
  go_wp2_with fail
  go_ret
  exact ⟨rfl, ((bnew w _).trans (HB.out.mono (by simp))).alloc (by have := HB.out.size; simp at this; omega) _⟩
set_option maxRecDepth 100000 in
set_option maxHeartbeats 1000000 in
theorem has_nil {w : World} {p : Option Addr} (h : Nob w p) (n x : Int) : Calls Try.prog 18 #[.pointer p, .agg #[.int .i64 n, .int .i64 x]] w fun e w' => e = .returned (.bool false) ∧ Below w.heap.size w w' := by
  have HU := Lib.hid (at_nil (h.below (bnew w (.cells #[.int .i64 n, .int .i64 x] 35)) (Nat.le_refl _)) n)
  clear h
  go_enter Try.func18, Try.ntmps18
  go_wp2_with fail
  refine HU.out.mono ?_
  rintro e w1 ⟨rfl, hb⟩
  have HB := Lib.hid hb
  clear hb
  go_wp2_with fail
  go_ret
  exact ⟨rfl, ((bnew w _).trans (HB.out.mono (by simp))).alloc (by have := HB.out.size; simp at this; omega) _⟩
set_option maxRecDepth 100000 in
set_option maxHeartbeats 1000000 in
theorem copy_nil {w : World} {p : Option Addr} (h : Nob w p) : Calls Try.prog 20 #[.pointer p] w fun e w' => e = .returned (.pointer none) ∧ w = w' := by
  have HU := Lib.hid (usable_nil h)
  clear h
  go_enter Try.func20, Try.ntmps20
  go_wp2_with fail
  refine HU.out.mono ?_
  rintro e w1 ⟨rfl, rfl⟩
  go_wp2_with fail
  go_ret
  exact ⟨rfl, rfl⟩
set_option maxRecDepth 100000 in
set_option maxHeartbeats 1000000 in
theorem refs_nil {w : World} {p : Option Addr} (h : Nob w p) : Calls Try.prog 19 #[.pointer p] w fun e w' => ∃ A c, e = .returned (.slice A 0 c) ∧ Below w.heap.size w w' := by
  have HL := Lib.hid (len_nil h)
  have HH := Lib.hid h
  obtain ⟨i0, hi1, hi2⟩ : ∃ i, Try.prog.info? 35 = some i ∧ (i.zero, i.size) = (some (.agg #[.int .i64 0, .int .i64 0]), 2) := by
    have := elR.info
    rw [Option.map_eq_some_iff] at this
    exact this
  simp only [Prod.mk.injEq] at hi2
  obtain ⟨hz, hsz⟩ := hi2
  have HI1 := Lib.hid hi1; have HZ := Lib.hid hz; have HSZ := Lib.hid hsz
  clear h hi1 hz hsz
  go_enter Try.func19, Try.ntmps19
  go_wp2_with fail
  refine HL.out.mono ?_
  rintro e w1 ⟨rfl, nd, rfl⟩
  go_wp2_with ((refine wpList_make_own _ rfl _ _ _ rfl w.heap.size 35 i0 _ 2 elR.sl HI1.out HZ.out HSZ.out .i64 .i64 _ 0 rfl rfl rfl (by omega) (by unfold maxLen; omega) (Nat.le_refl _) ?_))
  intro w2 o2 g2
  have b2 : Below w.heap.size w w2 := (Below.refl w.heap.size w).grown ((grown_drewN w nd none).trans g2) (Nat.le_refl _) (fun k e => by cases e)
  have HB2 := Lib.hid b2
  have HMD := Lib.hid (made_nil (HH.out.below b2 (Nat.le_refl _)))
  clear o2 g2 b2
  go_wp2_with fail
  refine HMD.out.mono ?_
  rintro e w3 ⟨rfl, rfl⟩
  go_wp2_with fail
  go_loopw [3, 10] (fun v i wr => i = .int .i64 0 ∧ v = .slice (some ⟨w.heap.size, 0, none⟩) 0 0 ∧ Below w.heap.size w wr) (fun _ _ _ => 0)
  case atStart => exact ⟨rfl, rfl, HB2.out⟩
  case round =>
    obtain ⟨rfl, rfl, hb⟩ := hrel
    have HB := Lib.hid hb
    clear hb
    go_wp2_with fail
    go_ret
    exact ⟨_, _, rfl, HB.out⟩
theorem klen_nil {w : World} {p : Option Addr} (h : Nob w p) : Calls Try.prog 14 #[.pointer p] w fun e w' => e = .returned (.int .i64 0) ∧ Below w.heap.size w w' := by
  refine (len_nil h).mono ?_
  rintro e w' ⟨rfl, k, rfl⟩
  exact ⟨rfl, below_drewN (Below.refl _ _) k⟩
theorem kmade_nil {w : World} {p : Option Addr} (h : Nob w p) : Calls Try.prog 15 #[.pointer p] w fun e w' => e = .returned (.int .i64 0) ∧ Below w.heap.size w w' := by
  refine (made_nil h).mono ?_
  rintro e w' ⟨rfl, rfl⟩
  exact ⟨rfl, Below.refl _ _⟩
theorem kcopy_nil {w : World} {p : Option Addr} (h : Nob w p) : Calls Try.prog 20 #[.pointer p] w fun e w' => e = .returned (.pointer none) ∧ Below w.heap.size w w' := by
  refine (copy_nil h).mono ?_
  rintro e w' ⟨rfl, rfl⟩
  exact ⟨rfl, Below.refl _ _⟩
set_option maxRecDepth 100000 in
set_option maxHeartbeats 1000000 in
theorem takes_nil {w : World} {p : Option Addr} (h : Nob w p) : Calls Try.prog 13 #[.pointer p, .agg #[.int .i64 0, .int .i64 0], .int .i64 1] w (boolTo true w) := by
  obtain ⟨w0, hw0⟩ : ∃ w0, w0 = w.alloc (.cells #[.int .i64 0, .int .i64 0] 35) := ⟨_, rfl⟩
  have b0 : Below w.heap.size w w0 := by rw [hw0]; exact bnew _ _
  have p0 : Blk w0 w.heap.size #[.int .i64 0, .int .i64 0] 35 := by rw [hw0]; exact Blk.new _ _ _
  have HT := Lib.hid (take_nil (h.below (bnew w (.cells #[.int .i64 0, .int .i64 0] 35)) (Nat.le_refl _)))
  rw [← hw0] at HT
  have HB0 := Lib.hid b0; have P0 := Lib.hid p0
  clear h b0 p0
  unfold boolTo
  go_enter Try.func13, Try.ntmps13
  go_wp2_with fail
  rw [← hw0]
  clear hw0
  refine HT.out.mono ?_
  rintro r w1 ⟨rfl, hb⟩
  have q0 := P0.out.below hb P0.out.lt
  have HB := Lib.hid (HB0.out.trans (hb.mono HB0.out.size))
  obtain ⟨d0, d1, d2, d3⟩ := q0.two
  have hz := q0.lt
  clear hb q0
  go_wp2_with fail
  go_ret
  exact ⟨retB (by simp), HB.out.alloc HB.out.size _⟩
set_option maxRecDepth 100000 in
set_option maxHeartbeats 1000000 in
theorem ats_nil {w : World} {p : Option Addr} (h : Nob w p) (n : Int) : Calls Try.prog 17 #[.pointer p, .int .i64 n, .agg #[.int .i64 0, .int .i64 0], .int .i64 1] w (boolTo true w) := by
  obtain ⟨w0, hw0⟩ : ∃ w0, w0 = w.alloc (.cells #[.int .i64 0, .int .i64 0] 35) := ⟨_, rfl⟩
  have b0 : Below w.heap.size w w0 := by rw [hw0]; exact bnew _ _
  have p0 : Blk w0 w.heap.size #[.int .i64 0, .int .i64 0] 35 := by rw [hw0]; exact Blk.new _ _ _
  have HT := Lib.hid (at_nil (h.below (bnew w (.cells #[.int .i64 0, .int .i64 0] 35)) (Nat.le_refl _)) n)
  rw [← hw0] at HT
  have HB0 := Lib.hid b0; have P0 := Lib.hid p0
  clear h b0 p0
  unfold boolTo
  go_enter Try.func17, Try.ntmps17
  go_wp2_with fail
  rw [← hw0]
  clear hw0
  refine HT.out.mono ?_
  rintro r w1 ⟨rfl, hb⟩
  have q0 := P0.out.below hb P0.out.lt
  have HB := Lib.hid (HB0.out.trans (hb.mono HB0.out.size))
  obtain ⟨d0, d1, d2, d3⟩ := q0.two
  have hz := q0.lt
  clear hb q0
  go_wp2_with fail
  go_ret
  exact ⟨retB (by simp), HB.out.alloc HB.out.size _⟩
set_option maxRecDepth 100000 in
set_option maxHeartbeats 4000000 in
theorem nil_walk (n x : Int) (W : World) : Calls Try.prog 6 #[.agg #[.int .i64 n, .int .i64 x]] W (boolTo true W) := by
  have HK := known_hid
  obtain ⟨w0, hw0⟩ : ∃ w0, w0 = ((W.alloc (.cells #[.int .i64 n, .int .i64 x] 35)).alloc (.cells #[.int .i64 0, .slice none 0 0, .slice none 0 0] 50)).alloc (.cells #[.pointer none, .pointer (some ⟨W.heap.size + 1, 0, none⟩)] 24) := ⟨_, rfl⟩
  have p0 : Blk w0 W.heap.size #[.int .i64 n, .int .i64 x] 35 := by rw [hw0]; exact ((Blk.new W _ _).below (bnew _ _) (by simp)).below (bnew _ _) (by simp <;> omega)
  have p1 : Blk w0 (W.heap.size + 1) #[.int .i64 0, .slice none 0 0, .slice none 0 0] 50 := by
    have h := (Blk.new (W.alloc (.cells #[.int .i64 n, .int .i64 x] 35)) #[.int .i64 0, .slice none 0 0, .slice none 0 0] 50).below (bnew _ (.cells #[.pointer none, .pointer (some ⟨W.heap.size + 1, 0, none⟩)] 24)) (by simp)
    rw [hw0]; simpa using h
  have p2 : Blk w0 (W.heap.size + 1 + 1) #[.pointer none, .pointer (some ⟨W.heap.size + 1, 0, none⟩)] 24 := by
    have h := Blk.new ((W.alloc (.cells #[.int .i64 n, .int .i64 x] 35)).alloc (.cells #[.int .i64 0, .slice none 0 0, .slice none 0 0] 50)) #[.pointer none, .pointer (some ⟨W.heap.size + 1, 0, none⟩)] 24
    rw [hw0]; simpa using h
  have b0 : Below W.heap.size W w0 := by rw [hw0]; exact ((bnew W _).alloc (by simp) _).alloc (by simp <;> omega) _
  have P0 := Lib.hid p0; have P1 := Lib.hid p1; have P2 := Lib.hid p2; have HB0 := Lib.hid b0
  have hz0 : W.heap.size + 1 + 1 < w0.heap.size := p2.lt
  clear p0 p1 p2 b0
  unfold boolTo
  go_enter Try.func6, Try.ntmps6
  go_wp2_with fail
  rw [← hw0]
  clear hw0
  go_loopw [11] (fun i wr => ∃ k : Nat, k ≤ 2 ∧ i = .int .i64 (k : Int) ∧ Below w0.heap.size w0 wr) (fun i _ => 2 - (intOf i).toNat)
  case atStart => exact ⟨0, by omega, rfl, Below.refl _ _⟩
  case round =>
    obtain ⟨k, hk, rfl, hb⟩ := hrel
    have HB := Lib.hid hb
    have hzr := hb.size
    have Q0 := Lib.hid (P0.out.below hb P0.out.lt); have Q1 := Lib.hid (P1.out.below hb P1.out.lt); have Q2 := Lib.hid (P2.out.below hb P2.out.lt)
    clear hb
    by_cases hlt : k < 2
    · obtain ⟨p, hp, hc⟩ : ∃ p, Nob wr p ∧ wr.cell? ⟨W.heap.size + 1 + 1, k, none⟩ = some (.pointer p) := by
        rcases (show k = 0 ∨ k = 1 from by omega) with rfl | rfl
        · exact ⟨none, Or.inl rfl, Q2.out.cell 0⟩
        · exact ⟨some ⟨W.heap.size + 1, 0, none⟩, Or.inr ⟨_, rfl, Q1.out⟩, Q2.out.cell 1⟩
      have i1 : (k : Int) < 2 := by omega
      have HP := Lib.hid hp
      obtain ⟨x0, x1, xf0, xf1⟩ := Q0.out.two
      have lx := Q0.out.lt
      clear hp Q1 Q2
      go_wp2_with fail
      refine (takes_nil HP.out).mono ?_
      rintro r v1 ⟨rfl, hbt⟩
      replace HB := Lib.hid (bstepN HB.out (by omega) hbt)
      have hz1 : w0.heap.size ≤ v1.heap.size := Nat.le_trans (by omega) hbt.size
      replace HP := Lib.hid (HP.out.below hbt (Nat.le_refl _))
      replace Q0 := Lib.hid (Q0.out.below hbt Q0.out.lt)
      clear x0 x1 xf0 xf1 lx hbt
      obtain ⟨x0, x1, xf0, xf1⟩ := Q0.out.two
      have lx := Q0.out.lt
      go_wp2_with fail
      refine (free_nil HP.out n x).mono ?_
      rintro r v2 ⟨rfl, hbt⟩
      replace HB := Lib.hid (bstepN HB.out (by omega) hbt)
      have hz2 : w0.heap.size ≤ v2.heap.size := Nat.le_trans (by omega) hbt.size
      replace HP := Lib.hid (HP.out.below hbt (Nat.le_refl _))
      replace Q0 := Lib.hid (Q0.out.below hbt Q0.out.lt)
      clear x0 x1 xf0 xf1 lx hbt
      obtain ⟨x0, x1, xf0, xf1⟩ := Q0.out.two
      have lx := Q0.out.lt
      go_wp2_with fail
      refine (has_nil HP.out n x).mono ?_
      rintro r v3 ⟨rfl, hbt⟩
      replace HB := Lib.hid (bstepN HB.out (by omega) hbt)
      have hz3 : w0.heap.size ≤ v3.heap.size := Nat.le_trans (by omega) hbt.size
      replace HP := Lib.hid (HP.out.below hbt (Nat.le_refl _))
      replace Q0 := Lib.hid (Q0.out.below hbt Q0.out.lt)
      clear x0 x1 xf0 xf1 lx hbt
      obtain ⟨x0, x1, xf0, xf1⟩ := Q0.out.two
      have lx := Q0.out.lt
      go_wp2_with fail
      refine (ats_nil HP.out n).mono ?_
      rintro r v4 ⟨rfl, hbt⟩
      replace HB := Lib.hid (bstepN HB.out (by omega) hbt)
      have hz4 : w0.heap.size ≤ v4.heap.size := Nat.le_trans (by omega) hbt.size
      replace HP := Lib.hid (HP.out.below hbt (Nat.le_refl _))
      replace Q0 := Lib.hid (Q0.out.below hbt Q0.out.lt)
      clear x0 x1 xf0 xf1 lx hbt
      obtain ⟨x0, x1, xf0, xf1⟩ := Q0.out.two
      have lx := Q0.out.lt
      go_wp2_with fail
      refine (klen_nil HP.out).mono ?_
      rintro r v5 ⟨rfl, hbt⟩
      replace HB := Lib.hid (bstepN HB.out (by omega) hbt)
      have hz5 : w0.heap.size ≤ v5.heap.size := Nat.le_trans (by omega) hbt.size
      replace HP := Lib.hid (HP.out.below hbt (Nat.le_refl _))
      replace Q0 := Lib.hid (Q0.out.below hbt Q0.out.lt)
      clear x0 x1 xf0 xf1 lx hbt
      obtain ⟨x0, x1, xf0, xf1⟩ := Q0.out.two
      have lx := Q0.out.lt
      go_wp2_with fail
      refine (kmade_nil HP.out).mono ?_
      rintro r v6 ⟨rfl, hbt⟩
      replace HB := Lib.hid (bstepN HB.out (by omega) hbt)
      have hz6 : w0.heap.size ≤ v6.heap.size := Nat.le_trans (by omega) hbt.size
      replace HP := Lib.hid (HP.out.below hbt (Nat.le_refl _))
      replace Q0 := Lib.hid (Q0.out.below hbt Q0.out.lt)
      clear x0 x1 xf0 xf1 lx hbt
      obtain ⟨x0, x1, xf0, xf1⟩ := Q0.out.two
      have lx := Q0.out.lt
      go_wp2_with fail
      refine (refs_nil HP.out).mono ?_
      rintro r v7 ⟨A, c, rfl, hbt⟩
      replace HB := Lib.hid (bstepN HB.out (by omega) hbt)
      have hz7 : w0.heap.size ≤ v7.heap.size := Nat.le_trans (by omega) hbt.size
      replace HP := Lib.hid (HP.out.below hbt (Nat.le_refl _))
      replace Q0 := Lib.hid (Q0.out.below hbt Q0.out.lt)
      clear x0 x1 xf0 xf1 lx hbt
      obtain ⟨x0, x1, xf0, xf1⟩ := Q0.out.two
      have lx := Q0.out.lt
      go_wp2_with fail
      refine (kcopy_nil HP.out).mono ?_
      rintro r v8 ⟨rfl, hbt⟩
      replace HB := Lib.hid (bstepN HB.out (by omega) hbt)
      have hz8 : w0.heap.size ≤ v8.heap.size := Nat.le_trans (by omega) hbt.size
      replace HP := Lib.hid (HP.out.below hbt (Nat.le_refl _))
      replace Q0 := Lib.hid (Q0.out.below hbt Q0.out.lt)
      clear x0 x1 xf0 xf1 lx hbt
      obtain ⟨x0, x1, xf0, xf1⟩ := Q0.out.two
      have lx := Q0.out.lt
      go_wp2_with fail
      go_roundw
      case rel => exact ⟨k + 1, by omega, by go_num, HB.out⟩
      case measure => simp [intOf]; omega
    · obtain rfl : k = 2 := by omega
      go_wp2_with fail
      refine (HK.out _).mono ?_
      unfold boolTo
      rintro r v ⟨rfl, hbk⟩
      have HBK := Lib.hid hbk
      clear hbk
      go_wp2_with fail
      go_ret
      exact ⟨rfl, (HB0.out.trans (HB.out.mono (by omega))).trans (HBK.out.mono (by omega))⟩
end Go.Proofs.Ytighehonkookhaa.Nr
