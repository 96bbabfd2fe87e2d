/- Proves that the law's check of the chapter's examples returns true. No condition. -/
import Derived.Test.YtighehonkookhaaNp
import Derived.Deep.Cut
namespace Go.Proofs.Ytighehonkookhaa.Nq
open Go.RowKit Ap Mi Nm Nw Na Nb Rg Nc Nd Nx Nf Ng Nh Nj Nk Nl Np

theorem new_no (n : Int) (w : World) (h : n < 1 ∨ 1048576 < n) : Calls Try.prog 9 #[.int .i64 n] w fun e w' => e = .returned (.tuple #[.pointer none, .int .i64 2]) ∧ w = w' := by
  refine (new_any n w).mono ?_
  rintro e w' (⟨m, h1, h2, h3, _⟩ | ⟨_, h2, h3⟩)
  · omega
  · exact ⟨h2, h3⟩
theorem new_yes (m : Nat) (w : World) (h1 : 1 ≤ m) (h2 : m ≤ 1048576) : Calls Try.prog 9 #[.int .i64 (m : Int)] w fun e w' => ∃ g, e = .returned (.tuple #[.pointer (some ⟨g, 0, none⟩), .int .i64 0]) ∧ Are (fun j => w.heap.size ≤ j) w' g m 1 ⟨[], [], []⟩ ∧ Below w.heap.size w w' := by
  refine (new_any (m : Int) w).mono ?_
  rintro e w' (⟨m', h1, _, _, g, h3, h4, h5⟩ | ⟨h, _, _⟩)
  · obtain rfl : m = m' := by omega
    exact ⟨g, h3, h4, h5⟩
  · omega
/-- All blocks from N on but some. -/
def Up (N : Nat) (bs : List Nat) : Nat → Prop := fun j => N ≤ j ∧ j ∉ bs
theorem up_more {N : Nat} {bs : List Nat} {w : World} (hN : N ≤ w.heap.size) (hb : ∀ b ∈ bs, b < w.heap.size) : ∀ j, More (Up N bs) w j → Up N bs j := fun j hj => by
  rcases hj with hj | hj
  · exact hj
  · exact ⟨by omega, fun hm => by have := hb j hm; omega⟩
/-- One more variable is laid. -/
theorem up_new {N g m G : Nat} {bs : List Nat} {w : World} {s : St} (h : Are (Up N bs) w g m G s) (o : Obj) : Are (Up N (w.heap.size :: bs)) (w.alloc o) g m G s :=
  (h.tight.below (bnew w o) (Nat.le_refl _)).mono fun j _ hj => ⟨hj.1.1, fun hm => by rcases List.mem_cons.1 hm with e | e; (have := hj.2; omega); exact hj.1.2 e⟩
theorem ktakes {N g m G : Nat} {bs : List Nat} {w : World} {s : St} (h : Are (Up N bs) w g m G s) (hG : 1 ≤ G) (hN : N ≤ w.heap.size) (hb : ∀ b ∈ bs, b < w.heap.size) (n x e : Int) (s' : St) (hn : tkN m s = n) (hx : tkG m s = x) (he : tkE m s = e) (hs : tkS m s = s') :
    Calls Try.prog 13 #[.pointer (some ⟨g, 0, none⟩), .agg #[.int .i64 n, .int .i64 x], .int .i64 e] w fun r w' => r = .returned (.bool true) ∧ Are (Up N bs) w' g m G s' ∧ Only (Up N bs) w w' := by
  refine (takes_true h hG n x e hn hx he).mono ?_
  rintro r w' ⟨rfl, h1, h2⟩
  rw [hs] at h1
  exact ⟨rfl, h1.mono (fun j _ hj => up_more hN hb j hj), h2⟩
theorem kfree {N g m G : Nat} {bs : List Nat} {w : World} {s : St} (h : Are (Up N bs) w g m G s) (hG : G ≤ 1000000000) (hN : N ≤ w.heap.size) (hb : ∀ b ∈ bs, b < w.heap.size) (n x e : Int) (s' : St) (he : frE s n x = e) (hs : frS s n x = s') :
    Calls Try.prog 16 #[.pointer (some ⟨g, 0, none⟩), .agg #[.int .i64 n, .int .i64 x]] w fun r w' => r = .returned (.int .i64 e) ∧ Are (Up N bs) w' g m (G + 1) s' ∧ Only (Up N bs) w w' := by
  refine (free_any h hG n x).mono ?_
  rintro r w' ⟨h0, h1, h2⟩
  rw [hs] at h1
  rw [he] at h0
  exact ⟨h0, h1.mono (fun j _ hj => up_more hN hb j hj), h2⟩
theorem same_n {w : World} {A B : Option Addr} {c d n k : Nat} {l : List (Nat × Nat)} (hn : l.length = n) (hk : l.length = k) (ha : Rs w 2 A l.length c (rfL l)) (hb : Rs w 2 B l.length d (rfL l)) :
    Calls Try.prog 23 #[.slice A n c, .slice B k d] w (boolTo true w) := by subst hn; subst hk; exact same_true ha hb
theorem khas {F : Nat → Prop} {w : World} {g m G : Nat} {s : St} (h : Are F w g m G s) (n x : Int) (b : Bool) (hb : hasB s n x = b) :
    Calls Try.prog 18 #[.pointer (some ⟨g, 0, none⟩), .agg #[.int .i64 n, .int .i64 x]] w (boolTo b w) := by subst hb; exact has_any h n x
theorem klen {F : Nat → Prop} {w : World} {g m G : Nat} {s : St} (h : Are F w g m G s) (n : Int) (hn : ((s.gens.length - s.fr.length : Nat) : Int) = n) :
    Calls Try.prog 14 #[.pointer (some ⟨g, 0, none⟩)] w fun e w' => e = .returned (.int .i64 n) ∧ Below w.heap.size w w' := by
  refine (len_any h).mono ?_
  rintro e w' ⟨rfl, k, rfl⟩
  exact ⟨by rw [hn], below_drewN (Below.refl _ _) k⟩
theorem kmade {F : Nat → Prop} {w : World} {g m G : Nat} {s : St} (h : Are F w g m G s) (n : Int) (hn : (s.gens.length : Int) = n) :
    Calls Try.prog 15 #[.pointer (some ⟨g, 0, none⟩)] w fun e w' => e = .returned (.int .i64 n) ∧ Below w.heap.size w w' := by
  refine (made_any h).mono ?_
  rintro e w' ⟨rfl, rfl⟩
  exact ⟨by rw [hn], Below.refl _ _⟩
set_option maxRecDepth 100000 in
set_option maxHeartbeats 8000000 in
theorem known_any (w : World) : Calls Try.prog 8 #[] w (boolTo true w) := by
  obtain ⟨N, hN⟩ : ∃ N, N = w.heap.size := ⟨_, rfl⟩
  have HN := Lib.hid hN
  have HNW := Lib.hid (new_yes 2 w (by omega) (by omega))
  rw [← hN] at HNW
  unfold boolTo
  rw [← hN]
  clear hN
  go_enter Try.func8, Try.ntmps8
  go_wp2_with fail
  refine HNW.out.mono ?_
  rintro e w0 ⟨g, rfl, ha, hb⟩
  have HA := Lib.hid (ha.mono (F' := Up N []) (fun j _ hj => ⟨hj, by simp⟩))
  have HB := Lib.hid hb
  have hz : N ≤ w0.heap.size := by rw [HN.out]; exact hb.size
  clear ha hb HNW
  go_upto_region 3 with (fail)
  obtain ⟨b1, hb1⟩ : ∃ b1, b1 = w0.heap.size := ⟨_, rfl⟩
  obtain ⟨w1, hw1⟩ : ∃ w1, w1 = w0.alloc (.cells #[.int .i64 0, .int .i64 0] 35) := ⟨_, rfl⟩
  have P1 : Hid (Blk w1 b1 #[.int .i64 0, .int .i64 0] 35) := by show Blk _ _ _ _; rw [hw1, hb1]; exact Blk.new _ _ _
  replace HA : Hid (Are (Up N [b1]) w1 g 2 1 ⟨[], [], []⟩) := by show Are _ _ _ _ _ _; rw [hw1, hb1]; exact up_new HA.out _
  replace HB : Hid (Below N w w1) := by show Below _ _ _; rw [hw1]; exact HB.out.alloc hz _
  have hz1 : N ≤ w1.heap.size := by rw [hw1]; simp; omega
  have lN : N ≤ b1 := by omega
  rw [← hw1, ← hb1]
  clear hw1 hb1 hz
  obtain ⟨x0, x1, xf0, xf1⟩ := P1.out.two
  have l1 := P1.out.lt
  go_wp2_with fail
  refine (ktakes HA.out (by omega) hz1 (by simp [l1]) 0 1 0 ⟨[1], [true], []⟩ (by decide +kernel) (by decide +kernel) (by decide +kernel) (st_eq (by decide +kernel) (by decide +kernel) (by decide +kernel))).mono ?_
  rintro r w2 ⟨rfl, ha, ho⟩
  replace HB := Lib.hid (HB.out.trans (ho.below (B := N) (fun j hj => hj.1) hz1))
  replace P1 := Lib.hid (P1.out.only ho (fun hf => hf.2 (by simp)))
  replace HA := Lib.hid ha
  have hz2 : N ≤ w2.heap.size := Nat.le_trans hz1 ho.size
  clear ha ho
  clear x0 x1 xf0 xf1 l1
  obtain ⟨x0, x1, xf0, xf1⟩ := P1.out.two
  have l1 := P1.out.lt
  go_wp2_with fail
  refine (ktakes HA.out (by omega) hz2 (by simp [l1]) 1 1 0 ⟨[1, 1], [true, true], []⟩ (by decide +kernel) (by decide +kernel) (by decide +kernel) (st_eq (by decide +kernel) (by decide +kernel) (by decide +kernel))).mono ?_
  rintro r w3 ⟨rfl, ha, ho⟩
  replace HB := Lib.hid (HB.out.trans (ho.below (B := N) (fun j hj => hj.1) hz2))
  replace P1 := Lib.hid (P1.out.only ho (fun hf => hf.2 (by simp)))
  replace HA := Lib.hid ha
  have hz3 : N ≤ w3.heap.size := Nat.le_trans hz2 ho.size
  clear ha ho
  clear x0 x1 xf0 xf1 l1
  obtain ⟨x0, x1, xf0, xf1⟩ := P1.out.two
  have l1 := P1.out.lt
  go_wp2_with fail
  refine (ktakes HA.out (by omega) hz3 (by simp [l1]) 0 0 7 ⟨[1, 1], [true, true], []⟩ (by decide +kernel) (by decide +kernel) (by decide +kernel) (st_eq (by decide +kernel) (by decide +kernel) (by decide +kernel))).mono ?_
  rintro r w4 ⟨rfl, ha, ho⟩
  replace HB := Lib.hid (HB.out.trans (ho.below (B := N) (fun j hj => hj.1) hz3))
  replace P1 := Lib.hid (P1.out.only ho (fun hf => hf.2 (by simp)))
  replace HA := Lib.hid ha
  have hz4 : N ≤ w4.heap.size := Nat.le_trans hz3 ho.size
  clear ha ho
  clear x0 x1 xf0 xf1 l1
  obtain ⟨x0, x1, xf0, xf1⟩ := P1.out.two
  have l1 := P1.out.lt
  go_wp2_with fail
  refine (klen HA.out 2 (by decide +kernel)).mono ?_
  rintro r w5 ⟨rfl, hbt⟩
  replace HB := Lib.hid (HB.out.trans (hbt.mono hz4))
  replace P1 := Lib.hid (P1.out.below hbt P1.out.lt)
  replace HA := Lib.hid (HA.out.below hbt (Nat.le_refl _))
  have hz5 : N ≤ w5.heap.size := Nat.le_trans hz4 hbt.size
  clear hbt
  clear x0 x1 xf0 xf1 l1
  obtain ⟨x0, x1, xf0, xf1⟩ := P1.out.two
  have l1 := P1.out.lt
  go_wp2_with fail
  refine (kmade HA.out 2 (by decide +kernel)).mono ?_
  rintro r w6 ⟨rfl, hbt⟩
  replace HB := Lib.hid (HB.out.trans (hbt.mono hz5))
  replace P1 := Lib.hid (P1.out.below hbt P1.out.lt)
  replace HA := Lib.hid (HA.out.below hbt (Nat.le_refl _))
  have hz6 : N ≤ w6.heap.size := Nat.le_trans hz5 hbt.size
  clear hbt
  clear x0 x1 xf0 xf1 l1
  obtain ⟨x0, x1, xf0, xf1⟩ := P1.out.two
  have l1 := P1.out.lt
  go_upto_region 6 with (fail)
  obtain ⟨b2, hb2⟩ : ∃ b2, b2 = w6.heap.size := ⟨_, rfl⟩
  obtain ⟨w7, hw1⟩ : ∃ v, v = w6.alloc (.cells #[.int .i64 0, .int .i64 1] 35) := ⟨_, rfl⟩
  have P2 : Hid (Blk w7 b2 #[.int .i64 0, .int .i64 1] 35) := by show Blk _ _ _ _; rw [hw1, hb2]; exact Blk.new _ _ _
  replace P1 : Hid (Blk w7 b1 #[.int .i64 0, .int .i64 0] 35) := by show Blk _ _ _ _; rw [hw1]; exact P1.out.below (bnew _ _) P1.out.lt
  replace HA : Hid (Are (Up N [b2, b1]) w7 g 2 1 ⟨[1, 1], [true, true], []⟩) := by show Are _ _ _ _ _ _; rw [hw1, hb2]; exact up_new HA.out _
  replace HB : Hid (Below N w w7) := by show Below _ _ _; rw [hw1]; exact HB.out.alloc hz6 _
  have hz7 : N ≤ w7.heap.size := by rw [hw1]; simp; omega
  have lN2 : N ≤ b2 := by omega
  have nb : ¬ b1 = b2 := by omega
  have nb' : ¬ b2 = b1 := by omega
  rw [← hw1, ← hb2]
  clear hw1 hb2 x0 x1 xf0 xf1 l1
  obtain ⟨x0, x1, xf0, xf1⟩ := P1.out.two
  have l1 := P1.out.lt
  obtain ⟨y0, y1, yf0, yf1⟩ := P2.out.two
  have l2 := P2.out.lt
  go_wp2_with fail
  refine (kfree HA.out (by omega) hz7 (by simp [l1, l2]) 0 1 0 ⟨[2, 1], [false, true], [0]⟩ (by decide +kernel) (st_eq (by decide +kernel) (by decide +kernel) (by decide +kernel))).mono ?_
  rintro r w8 ⟨rfl, ha, ho⟩
  replace HB := Lib.hid (HB.out.trans (ho.below (B := N) (fun j hj => hj.1) hz7))
  replace P1 := Lib.hid (P1.out.only ho (fun hf => hf.2 (by simp)))
  replace P2 := Lib.hid (P2.out.only ho (fun hf => hf.2 (by simp)))
  replace HA := Lib.hid ha
  have hz8 : N ≤ w8.heap.size := Nat.le_trans hz7 ho.size
  clear ha ho
  clear x0 x1 xf0 xf1 l1 y0 y1 yf0 yf1 l2
  obtain ⟨x0, x1, xf0, xf1⟩ := P1.out.two
  have l1 := P1.out.lt
  obtain ⟨y0, y1, yf0, yf1⟩ := P2.out.two
  have l2 := P2.out.lt
  go_wp2_with fail
  refine (kfree HA.out (by omega) hz8 (by simp [l1, l2]) 0 1 9 ⟨[2, 1], [false, true], [0]⟩ (by decide +kernel) (st_eq (by decide +kernel) (by decide +kernel) (by decide +kernel))).mono ?_
  rintro r w9 ⟨rfl, ha, ho⟩
  replace HB := Lib.hid (HB.out.trans (ho.below (B := N) (fun j hj => hj.1) hz8))
  replace P1 := Lib.hid (P1.out.only ho (fun hf => hf.2 (by simp)))
  replace P2 := Lib.hid (P2.out.only ho (fun hf => hf.2 (by simp)))
  replace HA := Lib.hid ha
  have hz9 : N ≤ w9.heap.size := Nat.le_trans hz8 ho.size
  clear ha ho
  clear x0 x1 xf0 xf1 l1 y0 y1 yf0 yf1 l2
  obtain ⟨x0, x1, xf0, xf1⟩ := P1.out.two
  have l1 := P1.out.lt
  obtain ⟨y0, y1, yf0, yf1⟩ := P2.out.two
  have l2 := P2.out.lt
  go_wp2_with fail
  refine (khas HA.out 0 1 false (by decide +kernel)).mono ?_
  rintro r w10 ⟨rfl, hbt⟩
  replace HB := Lib.hid (HB.out.trans (hbt.mono hz9))
  replace P1 := Lib.hid (P1.out.below hbt P1.out.lt)
  replace P2 := Lib.hid (P2.out.below hbt P2.out.lt)
  replace HA := Lib.hid (HA.out.below hbt (Nat.le_refl _))
  have hz10 : N ≤ w10.heap.size := Nat.le_trans hz9 hbt.size
  clear hbt
  clear x0 x1 xf0 xf1 l1 y0 y1 yf0 yf1 l2
  obtain ⟨x0, x1, xf0, xf1⟩ := P1.out.two
  have l1 := P1.out.lt
  obtain ⟨y0, y1, yf0, yf1⟩ := P2.out.two
  have l2 := P2.out.lt
  go_wp2_with fail
  refine (at_true HA.out 0 0 0 9 (by decide +kernel) (by decide +kernel) (by decide +kernel)).mono ?_
  rintro r w11 ⟨rfl, hbt⟩
  replace HB := Lib.hid (HB.out.trans (hbt.mono hz10))
  replace P1 := Lib.hid (P1.out.below hbt P1.out.lt)
  replace P2 := Lib.hid (P2.out.below hbt P2.out.lt)
  replace HA := Lib.hid (HA.out.below hbt (Nat.le_refl _))
  have hz11 : N ≤ w11.heap.size := Nat.le_trans hz10 hbt.size
  clear hbt
  clear x0 x1 xf0 xf1 l1 y0 y1 yf0 yf1 l2
  obtain ⟨x0, x1, xf0, xf1⟩ := P1.out.two
  have l1 := P1.out.lt
  obtain ⟨y0, y1, yf0, yf1⟩ := P2.out.two
  have l2 := P2.out.lt
  go_wp2_with fail
  refine (at_true HA.out 1 1 1 0 (by decide +kernel) (by decide +kernel) (by decide +kernel)).mono ?_
  rintro r w12 ⟨rfl, hbt⟩
  replace HB := Lib.hid (HB.out.trans (hbt.mono hz11))
  replace P1 := Lib.hid (P1.out.below hbt P1.out.lt)
  replace P2 := Lib.hid (P2.out.below hbt P2.out.lt)
  replace HA := Lib.hid (HA.out.below hbt (Nat.le_refl _))
  have hz12 : N ≤ w12.heap.size := Nat.le_trans hz11 hbt.size
  clear hbt
  clear x0 x1 xf0 xf1 l1 y0 y1 yf0 yf1 l2
  obtain ⟨x0, x1, xf0, xf1⟩ := P1.out.two
  have l1 := P1.out.lt
  obtain ⟨y0, y1, yf0, yf1⟩ := P2.out.two
  have l2 := P2.out.lt
  go_wp2_with fail
  have HRF := Lib.hid (refs_any HA.out)
  unfold refsPost at HRF
  rw [show refs ⟨[2, 1], [false, true], [0]⟩ = [(1, 1)] from by decide +kernel] at HRF
  refine (HRF.out).mono ?_
  rintro r w13 ⟨A, q, rfl, hm, hbt⟩
  have HMR := Lib.hid hm
  clear hm HRF
  replace HB := Lib.hid (HB.out.trans (hbt.mono hz12))
  replace P1 := Lib.hid (P1.out.below hbt P1.out.lt)
  replace P2 := Lib.hid (P2.out.below hbt P2.out.lt)
  replace HA := Lib.hid (HA.out.below hbt (Nat.le_refl _))
  have hz13 : N ≤ w13.heap.size := Nat.le_trans hz12 hbt.size
  clear hbt
  clear x0 x1 xf0 xf1 l1 y0 y1 yf0 yf1 l2
  obtain ⟨x0, x1, xf0, xf1⟩ := P1.out.two
  have l1 := P1.out.lt
  obtain ⟨y0, y1, yf0, yf1⟩ := P2.out.two
  have l2 := P2.out.lt
  go_wp2_with fail
  obtain ⟨wl, hwl⟩ : ∃ v, v = w13.alloc (.cells #[.int .i64 1, .int .i64 1] 35) := ⟨_, rfl⟩
  have HSM := Lib.hid (same_n (l := [(1, 1)]) (n := 1) (k := 1) rfl rfl (Rs.mine (HMR.out.below (bnew w13 (.cells #[.int .i64 1, .int .i64 1] 35)) (Nat.le_refl _))) (Rs.mine (mine_laid w13 #[.int .i64 1, .int .i64 1] (rfL [(1, 1)]) 35 1 rfl rfl (by omega))))
  have blt := bnew w13 (.cells #[.int .i64 1, .int .i64 1] 35)
  rw [← hwl] at HSM blt
  have hzl : N ≤ wl.heap.size := Nat.le_trans hz13 blt.size
  replace HB := Lib.hid (HB.out.trans (blt.mono hz13))
  replace P1 := Lib.hid (P1.out.below blt P1.out.lt)
  replace P2 := Lib.hid (P2.out.below blt P2.out.lt)
  replace HA := Lib.hid (HA.out.below blt (Nat.le_refl _))
  rw [← hwl]
  clear hwl blt
  refine (HSM.out).mono ?_
  rintro r w14 ⟨rfl, hbt⟩
  replace HB := Lib.hid (HB.out.trans (hbt.mono hzl))
  replace P1 := Lib.hid (P1.out.below hbt P1.out.lt)
  replace P2 := Lib.hid (P2.out.below hbt P2.out.lt)
  replace HA := Lib.hid (HA.out.below hbt (Nat.le_refl _))
  have hz14 : N ≤ w14.heap.size := Nat.le_trans hzl hbt.size
  clear hbt
  clear x0 x1 xf0 xf1 l1 y0 y1 yf0 yf1 l2
  obtain ⟨x0, x1, xf0, xf1⟩ := P1.out.two
  have l1 := P1.out.lt
  obtain ⟨y0, y1, yf0, yf1⟩ := P2.out.two
  have l2 := P2.out.lt
  clear HSM HMR
  go_wp2_with fail
  refine (ktakes HA.out (by omega) hz14 (by simp [l1, l2]) 0 2 0 ⟨[2, 1], [true, true], []⟩ (by decide +kernel) (by decide +kernel) (by decide +kernel) (st_eq (by decide +kernel) (by decide +kernel) (by decide +kernel))).mono ?_
  rintro r w15 ⟨rfl, ha, ho⟩
  replace HB := Lib.hid (HB.out.trans (ho.below (B := N) (fun j hj => hj.1) hz14))
  replace P1 := Lib.hid (P1.out.only ho (fun hf => hf.2 (by simp)))
  replace P2 := Lib.hid (P2.out.only ho (fun hf => hf.2 (by simp)))
  replace HA := Lib.hid ha
  have hz15 : N ≤ w15.heap.size := Nat.le_trans hz14 ho.size
  clear ha ho
  clear x0 x1 xf0 xf1 l1 y0 y1 yf0 yf1 l2
  obtain ⟨x0, x1, xf0, xf1⟩ := P1.out.two
  have l1 := P1.out.lt
  obtain ⟨y0, y1, yf0, yf1⟩ := P2.out.two
  have l2 := P2.out.lt
  go_wp2_with fail
  refine (khas HA.out 0 1 false (by decide +kernel)).mono ?_
  rintro r w16 ⟨rfl, hbt⟩
  replace HB := Lib.hid (HB.out.trans (hbt.mono hz15))
  replace P1 := Lib.hid (P1.out.below hbt P1.out.lt)
  replace P2 := Lib.hid (P2.out.below hbt P2.out.lt)
  replace HA := Lib.hid (HA.out.below hbt (Nat.le_refl _))
  have hz16 : N ≤ w16.heap.size := Nat.le_trans hz15 hbt.size
  clear hbt
  clear x0 x1 xf0 xf1 l1 y0 y1 yf0 yf1 l2
  obtain ⟨x0, x1, xf0, xf1⟩ := P1.out.two
  have l1 := P1.out.lt
  obtain ⟨y0, y1, yf0, yf1⟩ := P2.out.two
  have l2 := P2.out.lt
  go_wp2_with fail
  refine (khas HA.out 0 2 true (by decide +kernel)).mono ?_
  rintro r w17 ⟨rfl, hbt⟩
  replace HB := Lib.hid (HB.out.trans (hbt.mono hz16))
  replace P1 := Lib.hid (P1.out.below hbt P1.out.lt)
  replace P2 := Lib.hid (P2.out.below hbt P2.out.lt)
  replace HA := Lib.hid (HA.out.below hbt (Nat.le_refl _))
  have hz17 : N ≤ w17.heap.size := Nat.le_trans hz16 hbt.size
  clear hbt
  clear x0 x1 xf0 xf1 l1 y0 y1 yf0 yf1 l2
  obtain ⟨x0, x1, xf0, xf1⟩ := P1.out.two
  have l1 := P1.out.lt
  obtain ⟨y0, y1, yf0, yf1⟩ := P2.out.two
  have l2 := P2.out.lt
  go_wp2_with fail
  refine (kfree HA.out (by omega) hz17 (by simp [l1, l2]) 1 1 0 ⟨[2, 2], [true, false], [1]⟩ (by decide +kernel) (st_eq (by decide +kernel) (by decide +kernel) (by decide +kernel))).mono ?_
  rintro r w18 ⟨rfl, ha, ho⟩
  replace HB := Lib.hid (HB.out.trans (ho.below (B := N) (fun j hj => hj.1) hz17))
  replace P1 := Lib.hid (P1.out.only ho (fun hf => hf.2 (by simp)))
  replace P2 := Lib.hid (P2.out.only ho (fun hf => hf.2 (by simp)))
  replace HA := Lib.hid ha
  have hz18 : N ≤ w18.heap.size := Nat.le_trans hz17 ho.size
  clear ha ho
  clear x0 x1 xf0 xf1 l1 y0 y1 yf0 yf1 l2
  obtain ⟨x0, x1, xf0, xf1⟩ := P1.out.two
  have l1 := P1.out.lt
  obtain ⟨y0, y1, yf0, yf1⟩ := P2.out.two
  have l2 := P2.out.lt
  go_wp2_with fail
  refine (kfree HA.out (by omega) hz18 (by simp [l1, l2]) 0 2 0 ⟨[3, 2], [false, false], [1, 0]⟩ (by decide +kernel) (st_eq (by decide +kernel) (by decide +kernel) (by decide +kernel))).mono ?_
  rintro r w19 ⟨rfl, ha, ho⟩
  replace HB := Lib.hid (HB.out.trans (ho.below (B := N) (fun j hj => hj.1) hz18))
  replace P1 := Lib.hid (P1.out.only ho (fun hf => hf.2 (by simp)))
  replace P2 := Lib.hid (P2.out.only ho (fun hf => hf.2 (by simp)))
  replace HA := Lib.hid ha
  have hz19 : N ≤ w19.heap.size := Nat.le_trans hz18 ho.size
  clear ha ho
  clear x0 x1 xf0 xf1 l1 y0 y1 yf0 yf1 l2
  obtain ⟨x0, x1, xf0, xf1⟩ := P1.out.two
  have l1 := P1.out.lt
  obtain ⟨y0, y1, yf0, yf1⟩ := P2.out.two
  have l2 := P2.out.lt
  go_wp2_with fail
  refine (ktakes HA.out (by omega) hz19 (by simp [l1, l2]) 0 3 0 ⟨[3, 2], [true, false], [1]⟩ (by decide +kernel) (by decide +kernel) (by decide +kernel) (st_eq (by decide +kernel) (by decide +kernel) (by decide +kernel))).mono ?_
  rintro r w20 ⟨rfl, ha, ho⟩
  replace HB := Lib.hid (HB.out.trans (ho.below (B := N) (fun j hj => hj.1) hz19))
  replace P1 := Lib.hid (P1.out.only ho (fun hf => hf.2 (by simp)))
  replace P2 := Lib.hid (P2.out.only ho (fun hf => hf.2 (by simp)))
  replace HA := Lib.hid ha
  have hz20 : N ≤ w20.heap.size := Nat.le_trans hz19 ho.size
  clear ha ho
  clear x0 x1 xf0 xf1 l1 y0 y1 yf0 yf1 l2
  obtain ⟨x0, x1, xf0, xf1⟩ := P1.out.two
  have l1 := P1.out.lt
  obtain ⟨y0, y1, yf0, yf1⟩ := P2.out.two
  have l2 := P2.out.lt
  go_wp2_with fail
  refine (ktakes HA.out (by omega) hz20 (by simp [l1, l2]) 1 2 0 ⟨[3, 2], [true, true], []⟩ (by decide +kernel) (by decide +kernel) (by decide +kernel) (st_eq (by decide +kernel) (by decide +kernel) (by decide +kernel))).mono ?_
  rintro r w21 ⟨rfl, ha, ho⟩
  replace HB := Lib.hid (HB.out.trans (ho.below (B := N) (fun j hj => hj.1) hz20))
  replace P1 := Lib.hid (P1.out.only ho (fun hf => hf.2 (by simp)))
  replace P2 := Lib.hid (P2.out.only ho (fun hf => hf.2 (by simp)))
  replace HA := Lib.hid ha
  have hz21 : N ≤ w21.heap.size := Nat.le_trans hz20 ho.size
  clear ha ho
  clear x0 x1 xf0 xf1 l1 y0 y1 yf0 yf1 l2
  obtain ⟨x0, x1, xf0, xf1⟩ := P1.out.two
  have l1 := P1.out.lt
  obtain ⟨y0, y1, yf0, yf1⟩ := P2.out.two
  have l2 := P2.out.lt
  go_wp2_with fail
  refine (new_no 0 _ (by omega)).mono ?_
  rintro r _ ⟨rfl, rfl⟩
  go_wp2_with fail
  refine (new_no 1048577 _ (by omega)).mono ?_
  rintro r _ ⟨rfl, rfl⟩
  go_wp2_with fail
  refine (at_true HA.out (-1) 0 0 9 (by decide +kernel) (by decide +kernel) (by decide +kernel)).mono ?_
  rintro r w22 ⟨rfl, hbt⟩
  replace HB := Lib.hid (HB.out.trans (hbt.mono hz21))
  replace P1 := Lib.hid (P1.out.below hbt P1.out.lt)
  replace P2 := Lib.hid (P2.out.below hbt P2.out.lt)
  replace HA := Lib.hid (HA.out.below hbt (Nat.le_refl _))
  have hz22 : N ≤ w22.heap.size := Nat.le_trans hz21 hbt.size
  clear hbt
  clear x0 x1 xf0 xf1 l1 y0 y1 yf0 yf1 l2
  obtain ⟨x0, x1, xf0, xf1⟩ := P1.out.two
  have l1 := P1.out.lt
  obtain ⟨y0, y1, yf0, yf1⟩ := P2.out.two
  have l2 := P2.out.lt
  go_wp2_with fail
  go_ret
  exact ⟨retB (by simp), HB.out⟩
theorem known_hid : Hid (∀ w : World, Calls Try.prog 8 #[] w (boolTo true w)) := fun w => known_any w
end Go.Proofs.Ytighehonkookhaa.Nq
