/- Proves the contracts of the methods Get, First and Len of the program's heap of deadlines, and of its methods at nil and zero heaps. Conditions: as each theorem names them. -/
import Derived.Test.YtpalbccoiejmoaaYea
namespace Go.Proofs.Ytpalbccoiejmoaa.Ye
open Go.RowKit Go.Maps Ap Mi Nw Ya Yb Yc Yd Zk Zm Za Zl Zs Zt

section
variable {w : World} {g c B k : Nat} {A : Option Addr} {D : DataW Unit} {Q : List Td} {f : Int → Int}
set_option maxRecDepth 100000 in
theorem need_yes (h : Lo w g A c B D Q) (hm : Md D (fun m => m ∈ ns Q) k f) {n : Int} (hs : Sl n) (hn : n ∈ ns Q) :
    Calls Try.prog 38 #[.pointer (some ⟨g, 0, none⟩), .int .i64 n] w fun e w' => e = .returned (.tuple #[.int .i64 (f n), .int .i64 0]) ∧ w' = w := by
  have HK := Lib.hid (look_in h hm hs)
  have e1 : lkV f Q n = f n := by unfold lkV; rw [if_pos hn]
  have e2 : decide (n ∈ ns Q) = true := by simp [hn]
  rw [e1, e2] at HK
  obtain ⟨v, hv⟩ : ∃ v, v = f n := ⟨_, rfl⟩
  rw [← hv] at HK ⊢
  clear h hm hs hn e1 e2 hv
  go_enter Try.func38, Try.ntmps38
  go_wp2_with fail
  refine HK.out.mono ?_
  rintro e w1 ⟨rfl, rfl⟩
  go_wp2_with fail
  go_ret2
  exact ⟨rfl, rfl⟩
set_option maxRecDepth 100000 in
theorem need_none (h : Lo w g A c B D Q) (hm : Md D (fun m => m ∈ ns Q) k f) {n : Int} (hs : Sl n) (hn : n ∉ ns Q) :
    Calls Try.prog 38 #[.pointer (some ⟨g, 0, none⟩), .int .i64 n] w fun e w' => e = .returned (.tuple #[.int .i64 0, .int .i64 9]) ∧ w' = w := by
  have HK := Lib.hid (look_in h hm hs)
  have e1 : lkV f Q n = 0 := by unfold lkV; rw [if_neg hn]
  have e2 : decide (n ∈ ns Q) = false := by simp [hn]
  rw [e1, e2] at HK
  clear h hm hs hn e1 e2
  go_enter Try.func38, Try.ntmps38
  go_wp2_with fail
  refine HK.out.mono ?_
  rintro e w1 ⟨rfl, rfl⟩
  go_wp2_with fail
  go_ret2
  exact ⟨rfl, rfl⟩
set_option maxRecDepth 100000 in
theorem need_no (h : Lo w g A c B D Q) {n : Int} (hs : ¬ Sl n) :
    Calls Try.prog 38 #[.pointer (some ⟨g, 0, none⟩), .int .i64 n] w fun e w' => e = .returned (.tuple #[.int .i64 0, .int .i64 2]) ∧ w' = w := by
  have HK := Lib.hid (look_no h hs)
  clear h hs
  go_enter Try.func38, Try.ntmps38
  go_wp2_with fail
  refine HK.out.mono ?_
  rintro e w1 ⟨rfl, rfl⟩
  go_wp2_with fail
  go_ret2
  exact ⟨rfl, rfl⟩
/-- What need tells of a slot that is not there. -/
theorem need_bad {L : List Td} (h : Lo w g A c B D Q) (hm : Md D (fun m => m ∈ ns Q) k f) (hp : Q.Perm L) {n : Int} (hb : ¬ (Sl n ∧ n ∈ ns L)) :
    Calls Try.prog 38 #[.pointer (some ⟨g, 0, none⟩), .int .i64 n] w fun e w' => e = .returned (.tuple #[.int .i64 0, .int .i64 (remN L n)]) ∧ w' = w := by
  by_cases hs : Sl n
  · have hn : n ∉ ns Q := fun h => hb ⟨hs, (ns_mem hp n).1 h⟩
    have e : remN L n = 9 := by unfold remN; rw [if_neg (by simpa using hs), if_neg (fun h => hb ⟨hs, h⟩)]
    rw [e]; exact need_none h hm hs hn
  · have e : remN L n = 2 := by unfold remN; rw [if_pos hs]
    rw [e]; exact need_no h hs
end
theorem rem_cases (L : List Td) (n a : Int) (h : ¬ (Sl n ∧ n ∈ ns L)) : remT L n = L ∧ movT L n a = L ∧ remA L n = 0 ∧ (remN L n != 0) = true := by
  refine ⟨if_neg h, if_neg h, if_neg h, ?_⟩
  unfold remN
  by_cases hs : Sl n
  · rw [if_neg (by simpa using hs), if_neg (fun k => h ⟨hs, k⟩)]; rfl
  · rw [if_pos hs]; rfl
theorem tm_at {Q L : List Td} (hp : Q.Perm L) (hd : (ns L).Nodup) {k : Nat} (hk : k < Q.length) : tmOf L (Zm.A Q k).1 = (Zm.A Q k).2 := by
  obtain ⟨j, hj, e⟩ := List.getElem_of_mem (hp.mem_iff.1 (A_mem hk))
  rw [tmOf_at hd hj (by rw [e]), e]
theorem rem_good {L : List Td} {n : Int} (hs : Sl n) (hn : n ∈ ns L) : remN L n = 0 ∧ remA L n = tmOf L n ∧ remT L n = wo L n := by
  refine ⟨?_, if_pos ⟨hs, hn⟩, if_pos ⟨hs, hn⟩⟩
  unfold remN; rw [if_neg (by simpa using hs), if_pos hn]
section
variable {F : Nat → Prop} {w : World} {g : Nat} {L : List Td}
set_option maxRecDepth 100000 in
theorem get_any (h : Hp F w g L) (n : Int) : Calls Try.prog 39 #[.pointer (some ⟨g, 0, none⟩), .int .i64 n] w (lkPost w (.tuple #[.int .u64 (remA L n), .int .i64 (remN L n)])) := by
  refine lk_same ?_
  obtain ⟨⟨A, c, B, D, Q, f, hlo, hF, hm, hf, hh, hp⟩, hsrt⟩ := h
  by_cases hb : Sl n ∧ n ∈ ns L
  · obtain ⟨hs, hn⟩ := hb
    obtain ⟨k, hk, e⟩ := ns_A ((ns_mem hp n).2 hn)
    have HK := Lib.hid (need_yes hlo hm hs ((ns_mem hp n).2 hn))
    have e2 := hf k hk
    rw [e] at e2
    rw [e2] at HK
    obtain ⟨r1, r2, _⟩ := rem_good hs hn
    have e3 := tm_at hp hsrt.nd hk
    rw [e] at e3
    rw [r1, r2, e3]
    obtain ⟨x0, x1, _⟩ := hlo.bk.two
    have lg := hlo.bk.lt
    obtain ⟨b, o, rfl, lb, c0, c1⟩ := hlo.at_ hk
    have kI : (k : Int) < (Q.length : Int) := by omega
    clear hlo hF hm hf hh hp hsrt e e2 e3 hk r1 r2 hs hn c0
    go_enter Try.func39, Try.ntmps39
    go_wp2_with fail
    refine HK.out.mono ?_
    rintro e w1 ⟨rfl, rfl⟩
    go_wp2_with fail
    go_ret2
    exact ⟨rfl, rfl⟩
  · have HK := Lib.hid (need_bad hlo hm hp hb)
    obtain ⟨_, _, r3, r4⟩ := rem_cases L n 0 hb
    rw [r3]
    obtain ⟨e0, he0⟩ : ∃ e0, e0 = remN L n := ⟨_, rfl⟩
    rw [← he0] at HK r4 ⊢
    clear hlo hF hm hf hh hp hsrt hb he0 r3
    go_enter Try.func39, Try.ntmps39
    go_wp2_with fail
    refine HK.out.mono ?_
    rintro e w1 ⟨rfl, rfl⟩
    go_wp2_with fail
    go_ret2
    exact ⟨rfl, rfl⟩
set_option maxRecDepth 100000 in
theorem first_any (h : Hp F w g L) : Calls Try.prog 33 #[.pointer (some ⟨g, 0, none⟩)] w (lkPost w (.tuple #[tval (oldV L), .int .i64 (oldN L)])) := by
  obtain ⟨⟨A, c, B, D, Q, f, hlo, hF, hm, hf, hh, hp⟩, hsrt⟩ := h
  obtain ⟨v0, hv0⟩ : ∃ v0, v0 = w.alloc (.cells #[.int .i64 0, .int .u64 0] 41) := ⟨_, rfl⟩
  have b0 : Below w.heap.size w v0 := by rw [hv0]; exact bnew _ _
  have P0 : Hid (Blk v0 w.heap.size #[.int .i64 0, .int .u64 0] 41) := by show Blk _ _ _ _; rw [hv0]; exact Blk.new _ _ _
  have LO0 := Lib.hid (hlo.below b0 (Nat.le_refl _))
  have HU := Lib.hid (usable_any LO0.out.bk)
  have HB0 := Lib.hid b0
  obtain ⟨x0, x1, _⟩ := LO0.out.bk.two
  obtain ⟨p0, p1, pf0, pf1⟩ := P0.out.two
  have lg := LO0.out.bk.lt
  have lw := P0.out.lt
  unfold lkPost
  by_cases h0 : Q.length = 0
  · have hL : L = [] := List.eq_nil_of_length_eq_zero (by rw [← hp.length_eq]; exact h0)
    subst hL
    have e1 : oldV [] = (0, 0) := rfl
    have e2 : oldN [] = 9 := rfl
    rw [e1, e2]
    rw [h0] at x0
    clear hlo hF hm hf hh hp hsrt b0 e1 e2 h0
    go_enter Try.func33, Try.ntmps33
    go_wp2_with fail
    rw [← hv0]
    clear hv0
    refine HU.out.mono ?_
    rintro e w1 ⟨rfl, rfl⟩
    go_wp2_with fail
    obtain ⟨w6, hw6⟩ : ∃ w6, w6 = (w1.setCell ⟨w.heap.size, 0, none⟩ (.int .i64 0)).setCell ⟨w.heap.size, 1, none⟩ (.int .u64 0) := ⟨_, rfl⟩
    have R6 : Hid (Blk w6 w.heap.size #[.int .i64 0, .int .u64 0] 41) := by
      show Blk _ _ _ _; rw [hw6]; exact (P0.out.set 0 (.int .i64 0)).set 1 (.int .u64 0)
    have B6 : Hid (Below w.heap.size w w6) := by
      show Below _ _ _; rw [hw6]
      exact HB0.out.trans ((((Only.refl (fun j => j = w.heap.size) w1).put (ad := ⟨w.heap.size, 0, none⟩) rfl _).put (ad := ⟨w.heap.size, 1, none⟩) rfl _).below (fun j hj => by rw [hj]; exact Nat.le_refl _) HB0.out.size)
    rw [← hw6]
    clear hw6 p0 p1 pf0 pf1
    obtain ⟨t0, t1, _⟩ := R6.out.two
    exact bodyPost_ret (v := .tuple #[.agg #[.int .i64 0, .int .u64 0], .int .i64 9]) (by simp [results, Try.results33, go_sem, t0, t1]) rfl ⟨rfl, B6.out⟩
  · have h1 : 0 < Q.length := by omega
    obtain ⟨x, r, hL, hx⟩ := heap_head hh hp hsrt.pw h1
    have e1 : oldV L = x := by rw [hL]; rfl
    have e2 : oldN L = 0 := by rw [hL]; rfl
    rw [e1, e2]
    obtain ⟨b, o, rfl, lb, c0, c1⟩ := LO0.out.at_ h1
    rw [hx] at c0 c1
    rw [show o + 0 * 2 = o from by omega] at c0 c1
    have hq : ((Q.length : Int) == 0) = false := beq_eq_false_iff_ne.2 (by omega)
    have hqI : (0 : Int) < (Q.length : Int) := by omega
    obtain ⟨n, a⟩ := x
    simp only at c0 c1
    unfold tval
    simp only
    obtain ⟨ql, hql⟩ : ∃ ql, ql = Q.length := ⟨_, rfl⟩
    rw [← hql] at x0 hq hqI
    clear hlo hF hm hf hh hp hsrt b0 h0 h1 hL hx e1 e2 hql
    go_enter Try.func33, Try.ntmps33
    go_wp2_with fail
    rw [← hv0]
    clear hv0
    refine HU.out.mono ?_
    rintro e w1 ⟨rfl, rfl⟩
    go_wp2_with fail
    obtain ⟨w6, hw6⟩ : ∃ w6, w6 = (w1.setCell ⟨w.heap.size, 0, none⟩ (.int .i64 n)).setCell ⟨w.heap.size, 1, none⟩ (.int .u64 a) := ⟨_, rfl⟩
    have R6 : Hid (Blk w6 w.heap.size #[.int .i64 n, .int .u64 a] 41) := by
      show Blk _ _ _ _; rw [hw6]; exact (P0.out.set 0 (.int .i64 n)).set 1 (.int .u64 a)
    have B6 : Hid (Below w.heap.size w w6) := by
      show Below _ _ _; rw [hw6]
      exact HB0.out.trans ((((Only.refl (fun j => j = w.heap.size) w1).put (ad := ⟨w.heap.size, 0, none⟩) rfl _).put (ad := ⟨w.heap.size, 1, none⟩) rfl _).below (fun j hj => by rw [hj]; exact Nat.le_refl _) HB0.out.size)
    rw [← hw6]
    clear hw6 p0 p1 pf0 pf1
    obtain ⟨t0, t1, _⟩ := R6.out.two
    exact bodyPost_ret (v := .tuple #[.agg #[.int .i64 n, .int .u64 a], .int .i64 0]) (by simp [results, Try.results33, go_sem, t0, t1]) rfl ⟨rfl, B6.out⟩
theorem len_any (h : Hp F w g L) : Calls Try.prog 23 #[.pointer (some ⟨g, 0, none⟩)] w (lkPost w (.int .i64 (L.length : Int))) := by
  refine lk_same ?_
  obtain ⟨⟨A, c, B, D, Q, f, hlo, hF, hm, hf, hh, hp⟩, hsrt⟩ := h
  rw [← hp.length_eq]
  obtain ⟨x0, x1, _⟩ := hlo.bk.two
  have lg := hlo.bk.lt
  clear hlo hF hm hf hh hp hsrt
  go_enter Try.func23, Try.ntmps23
  go_wp2_with fail
  go_ret
  exact ⟨rfl, rfl⟩
end
end Go.Proofs.Ytpalbccoiejmoaa.Ye
