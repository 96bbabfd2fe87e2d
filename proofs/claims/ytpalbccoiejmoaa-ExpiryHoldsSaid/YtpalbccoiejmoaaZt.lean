/- Proves what settle and take make of the program's heap in memory. Conditions: as each theorem names them. -/
import Derived.Test.YtpalbccoiejmoaaZs
namespace Go.Proofs.Ytpalbccoiejmoaa.Zt
open Go.RowKit Go.Maps Ap Mi Nw Ya Yb Yc Zk Zm Za Zl Zs

section
variable {w : World} {g b o c B i k : Nat} {D : DataW Unit} {Q : List Td} {p : Int → Prop} {f : Int → Int}
set_option maxRecDepth 100000 in
theorem settle_any (h : Lo w g (some ⟨b, o, none⟩) c B D Q) (hi : i < Q.length) (hd : (ns Q).Nodup) (hs : ∀ x ∈ Q, Sl x.1)
    (hm : Md D p k f) (hp : ∀ m ∈ ns Q, m ≠ (Zm.A Q i).1 → p m) (hf : PlcX f Q i) (ho : Hole Q i) (hk : k ≤ 1999990) (hl : Q.length ≤ 1999990) :
    Calls Try.prog 32 #[.pointer (some ⟨g, 0, none⟩), .int .i64 (i : Int)] w (siftPost w g b o c B p k (Zm.A Q i) Q) := by
  have HF := Lib.hid (sift_any h hi hd hs hm hp hf ho hk hl)
  obtain ⟨x0, x1, _⟩ := h.bk.two
  have lg := h.bk.lt
  obtain ⟨P, hP⟩ : ∃ P, P = siftPost w g b o c B p k (Zm.A Q i) Q := ⟨_, rfl⟩
  have HR : Hid (∀ v w', P (.returned v) w' → v = .tuple #[]) := by
    show ∀ v w', _
    rw [hP]
    rintro v w' ⟨_, _, _, _, e, _⟩
    injection e
  have HO : Hid (∀ e w', P e w' → ∃ v, e = .returned v) := by
    show ∀ e w', _
    rw [hP]
    rintro e w' ⟨_, _, _, _, e, _⟩
    exact ⟨_, e⟩
  rw [← hP] at HF ⊢
  clear h hi hd hs hm hp hf ho hk hl hP
  go_enter Try.func32, Try.ntmps32
  go_wp2_with fail
  refine HF.out.mono ?_
  intro e w1 he
  have HE := Lib.hid he
  obtain ⟨v, rfl⟩ := HO.out _ _ he
  obtain rfl := HR.out _ _ he
  clear he
  go_wp2_with fail
  go_end0
  exact HE.out
/-- What take leaves. -/
def takePost (w : World) (g b o c B : Nat) (Q : List Td) (i : Nat) : Ending → World → Prop := fun e w' => ∃ D' Q' f', e = .returned (tA (Zm.A Q i)) ∧ Lo w' g (some ⟨b, o, none⟩) c B D' Q' ∧ Q'.Perm (wo Q (Zm.A Q i).1) ∧ HeapQ Q' ∧ Plc f' Q' ∧ Md D' (fun m => m ∈ ns Q') Q'.length f' ∧ Only (fun j => j = g ∨ j = B ∨ j = b) w w'
/-- What stands behind the slot has gone in its place. -/
structure Tk (w' : World) (g b o c B : Nat) (Q R : List Td) (n : Nat) (D : DataW Unit) (f : Int → Int) : Prop where
  lo : Lo w' g (some ⟨b, o, none⟩) c B D R
  heap : HeapQ R
  plc : Plc f R
  md : Md D (fun m => m ∈ ns Q) n f
set_option maxRecDepth 100000 in
set_option maxHeartbeats 2000000 in
theorem take_any (h : Lo w g (some ⟨b, o, none⟩) c B D Q) (hi : i < Q.length) (hd : (ns Q).Nodup) (hs : ∀ x ∈ Q, Sl x.1)
    (hm : Md D (fun m => m ∈ ns Q) Q.length f) (hf : Plc f Q) (hh : HeapQ Q) (hl : Q.length ≤ 1999990) :
    Calls Try.prog 42 #[.pointer (some ⟨g, 0, none⟩), .int .i64 (i : Int)] w (takePost w g b o c B Q i) := by
  have HLO := Lib.hid h; have HMD := Lib.hid hm; have HF := Lib.hid hf; have HH := Lib.hid hh; have HND := Lib.hid hd; have HS := Lib.hid hs; have HI := Lib.hid hi
  have HP1 := Lib.hid (cutQ_perm hd hi rfl)
  have HSX : Hid (Sl (Zm.A Q i).1) := hs _ (A_mem hi)
  have HXN : Hid ((Zm.A Q i).1 ∈ ns Q) := A_ns hi
  obtain ⟨x0, x1, xf0, xf1⟩ := h.bk.two
  have lg := h.bk.lt
  have lb := Lo_inb h
  have hcl := h.mi.le
  obtain ⟨k0c, k1c, k0f, k1f⟩ := Lo_cells h hi
  obtain ⟨n, hn⟩ : ∃ n, n = Q.length := ⟨_, rfl⟩
  obtain ⟨M, hM⟩ : ∃ M, M = n - 1 := ⟨_, rfl⟩
  have HM : Hid (M = Q.length - 1) := by show _ = _; rw [hM, hn]
  have HN := Lib.hid hn
  rw [← hn] at hl x0 hcl hi HMD
  have hML : ((n : Int) - 1) = (M : Int) := by omega
  have hiI : (i : Int) < (n : Int) := by omega
  have hlI : (n : Int) ≤ 1999990 := by omega
  have hMn : M < n := by omega
  have hMI : (M : Int) < (n : Int) := by omega
  have hMc : (M : Int) ≤ (c : Int) := by omega
  have hin : i < n := hi
  obtain ⟨x, hx⟩ : ∃ x, x = Zm.A Q i := ⟨_, rfl⟩
  have HX := Lib.hid hx
  rw [← hx] at k0c k1c HP1 HSX HXN
  clear h hm hf hh hd hs hn hM hi hx hcl
  go_enter Try.func42, Try.ntmps42
  go_wp2_with fail
  go_region
  obtain ⟨w1, hw1⟩ : ∃ w1, w1 = ((w.alloc (Obj.cells #[Value.int IntKind.i64 0, Value.int IntKind.u64 0] 41)).alloc (Obj.cells #[Value.int IntKind.i64 x.1, Value.int IntKind.u64 x.2] 41)).drew := ⟨_, rfl⟩
  have b1 : Below w.heap.size w w1 := by rw [hw1]; exact ((bnew w _).alloc (by simp) _).drew
  have R0 : Hid (Blk w1 w.heap.size #[.int .i64 0, .int .u64 0] 41) := by
    show Blk _ _ _ _; rw [hw1]
    exact (Blk.new w #[.int .i64 0, .int .u64 0] 41).below (bnew (w.alloc (.cells #[.int .i64 0, .int .u64 0] 41)) (.cells #[.int .i64 x.1, .int .u64 x.2] 41)).drew (by simp)
  have R1 : Hid (Blk w1 (w.heap.size + 1) #[.int .i64 x.1, .int .u64 x.2] 41) := by
    show Blk _ _ _ _; rw [hw1]
    have := Blk.new (w.alloc (.cells #[.int .i64 0, .int .u64 0] 41)) #[.int .i64 x.1, .int .u64 x.2] 41
    exact (show Blk ((w.alloc (.cells #[.int .i64 0, .int .u64 0] 41)).alloc (.cells #[.int .i64 x.1, .int .u64 x.2] 41)) (w.heap.size + 1) #[.int .i64 x.1, .int .u64 x.2] 41 by simpa using this)
  rw [← hw1]
  clear hw1 k0c k1c k0f k1f x0 x1 xf0 xf1
  have LO1 := Lib.hid (HLO.out.below b1 (Nat.le_refl _))
  have ON1 := Lib.hid (Only.of_below b1 (Nat.le_refl _) (fun j => j = g ∨ j = B ∨ j = b))
  have hz1 := R1.out.lt
  clear b1
  obtain ⟨x0, x1, xf0, xf1⟩ := LO1.out.bk.two
  rw [← HN.out] at x0
  obtain ⟨k0c, k1c, k0f, k1f⟩ := Lo_cells LO1.out (i := i) HI.out
  obtain ⟨m0c, m1c, m0f, m1f⟩ := Lo_cells LO1.out (i := M) (by rw [← HN.out]; omega)
  have PW := Lib.hid (put_lo LO1.out (i := i) HI.out (Zm.A Q M))
  unfold putW at PW
  clear lb
  have lb := Lo_inb LO1.out
  have lg1 := LO1.out.bk.lt
  go_wp2_with fail
  go_region
  obtain ⟨w2, hw2⟩ : ∃ w2, w2 = (w1.setCell ⟨b, o + i * 2, none⟩ (.int .i64 (Zm.A Q M).1)).setCell ⟨b, o + i * 2 + 1, none⟩ (.int .u64 (Zm.A Q M).2) := ⟨_, rfl⟩
  rw [← hw2] at PW ⊢
  obtain ⟨w2', hw2'⟩ : ∃ w2', w2' = w2.drew := ⟨_, rfl⟩
  have LO2 : Hid (Lo w2' g (some ⟨b, o, none⟩) c B D (Q.set i (Zm.A Q M))) := by show Lo _ _ _ _ _ _ _; rw [hw2']; exact PW.out.1.drewN 1
  have OB2 : Hid (Only (fun j => j = b) w1 w2') := by show Only _ _ _; rw [hw2']; exact PW.out.2.drewN 1
  have ON2 := Lib.hid (ON1.out.trans (OB2.out.mono fun _ _ e => Or.inl (Or.inr (Or.inr e))))
  have nb0 : w.heap.size ≠ b := by have := Lo_inb HLO.out; omega
  have nb1 : w.heap.size + 1 ≠ b := by have := Lo_inb HLO.out; omega
  have ng0 : w.heap.size ≠ g := by omega
  have ng1 : w.heap.size + 1 ≠ g := by omega
  have nB0 : w.heap.size ≠ B := by have := HLO.out.ob.lt; omega
  have nB1 : w.heap.size + 1 ≠ B := by have := HLO.out.ob.lt; omega
  have R02 := Lib.hid (R0.out.only OB2.out nb0)
  have R12 := Lib.hid (R1.out.only OB2.out nb1)
  rw [← hw2']
  clear hw2 hw2' PW k0c k1c k0f k1f m0c m1c m0f m1f x0 x1 xf0 xf1 lb
  obtain ⟨x0, x1, xf0, xf1⟩ := LO2.out.bk.two
  rw [List.length_set, ← HN.out] at x0
  have lg2 := LO2.out.bk.lt
  go_upto_region 4 with fail
  obtain ⟨w3, hw3⟩ : ∃ w3, w3 = w2'.setCell ⟨g, 0, none⟩ (.slice (some ⟨b, o, none⟩) M c) := ⟨_, rfl⟩
  have OG3 : Hid (Only (fun j => j = g) w2' w3) := by show Only _ _ _; rw [hw3]; exact (Only.refl (fun j => j = g) _).put (ad := ⟨g, 0, none⟩) rfl _
  have LO3 : Hid (Lo w3 g (some ⟨b, o, none⟩) c B D (cutQ Q i)) := by
    have hb3 := LO2.out.bk.set 0 (.slice (some ⟨b, o, none⟩) M c)
    rw [← hw3] at hb3
    refine ⟨?_, LO2.out.ob.kept OG3.out (fun e => LO2.out.gb e.symm), ?_, LO2.out.gb, LO2.out.ra⟩
    · rw [cutQ_len, ← HM.out]; exact hb3
    · rw [cutQ_len, ← HM.out]
      have := shrink (LO2.out.mi.only OG3.out (fun a ha => (LO2.out.ra a ha).1)) (k := M) (by rw [List.length_set, ← HN.out]; omega)
      rw [tv_take] at this
      rw [show cutQ Q i = (Q.set i (Zm.A Q M)).take M from by unfold cutQ; rw [← HM.out]]
      exact this
  have ON3 := Lib.hid (ON2.out.trans (OG3.out.mono fun _ _ e => Or.inl (Or.inl e)))
  have R03 := Lib.hid (R02.out.only OG3.out ng0)
  have R13 := Lib.hid (R12.out.only OG3.out ng1)
  rw [← hw3]
  clear hw3 x0 x1 xf0 xf1
  by_cases hiM : i < M
  case' pos =>
    have hiMI : (i : Int) < (M : Int) := by omega
    have HSE := Lib.hid (settle_any (p := fun m => m ∈ ns Q) (k := n) LO3.out (i := i) (by rw [cutQ_len, ← HM.out]; exact hiM) (ns_nd HP1.out ((ns_sub (wo_sub _ _)).nodup HND.out)) (fun y hy => HS.out y (mem_wo.1 (HP1.out.mem_iff.1 hy)).1) HMD.out
      (fun m hm _ => by obtain ⟨y, hy, e⟩ := mem_ns.1 hm; exact mem_ns.2 ⟨y, (mem_wo.1 (HP1.out.mem_iff.1 hy)).1, e⟩)
      (fun k hk hki => by rw [cutQ_len] at hk; rw [cutQ_at HI.out hk, if_neg hki]; exact HF.out k (by omega)) (HH.out.cut (by rw [← HM.out]; exact hiM)) (by omega) (by rw [cutQ_len, ← HM.out]; omega))
    unfold siftPost at HSE
    go_wp2_with fail
    refine HSE.out.mono ?_
    rintro e w4 ⟨D4, Q4, f4, k4, rfl, a1, a2, a3, a4, a5, a6, a7, a8⟩
    have HXQ : Hid ((Zm.A (cutQ Q i) i).1 ∈ ns Q) := by
      show _ ∈ _
      rw [cutQ_at HI.out (by rw [← HM.out]; exact hiM), if_pos rfl]
      exact A_ns (by rw [← HN.out]; omega)
    have T4 : Hid (Tk w4 g b o c B Q Q4 n D4 f4) := ⟨a1, a3, a4, by
      have e := a6 HXQ.out
      exact a5.ext (fun m => ⟨fun h => h.elim (fun e => e ▸ HXQ.out) id, Or.inr⟩) e (fun _ _ => rfl)⟩
    have HP4 := Lib.hid (a2.trans HP1.out)
    have O4 := Lib.hid a8
    clear a1 a2 a3 a4 a5 a6 a7 a8 HSE HXQ hiM hiMI
    go_wp2_with fail
  case' neg =>
    have hiMI : ¬ (i : Int) < (M : Int) := by omega
    have T4 : Hid (Tk w3 g b o c B Q (cutQ Q i) n D f) := by
      have e : cutQ Q i = Q.take M := by rw [cut_last (by rw [← HM.out]; omega)]; congr 1; omega
      refine ⟨LO3.out, by rw [e]; exact HH.out.take M, fun k hk => ?_, HMD.out⟩
      rw [e] at hk ⊢
      rw [List.length_take] at hk
      rw [A_take (by omega)]
      exact HF.out k (by omega)
    obtain ⟨Q4, hQ4⟩ : ∃ Q4, Q4 = cutQ Q i := ⟨_, rfl⟩
    obtain ⟨w4, hw4⟩ : ∃ w4, w4 = w3 := ⟨_, rfl⟩
    have HP4 : Hid (Q4.Perm (wo Q x.1)) := by show List.Perm _ _; rw [hQ4]; exact HP1.out
    have O4 : Hid (Only (fun j => j = B ∨ j = b) w3 w4) := by show Only _ _ _; rw [hw4]; exact Only.refl _ _
    obtain ⟨D4, hD4⟩ : ∃ D4, D4 = D := ⟨_, rfl⟩
    obtain ⟨f4, hf4⟩ : ∃ f4, f4 = f := ⟨_, rfl⟩
    rw [← hQ4, ← hD4, ← hf4, ← hw4] at T4
    rw [← hw4]
    clear hiM hQ4 hD4 hf4 hw4
    go_wp2_with fail
  all_goals
    have R04 := Lib.hid (R03.out.only O4.out (fun e => e.elim nB0 nb0))
    have R14 := Lib.hid (R13.out.only O4.out (fun e => e.elim nB1 nb1))
    have ON4 := Lib.hid (ON3.out.trans (O4.out.mono fun _ _ e => Or.inl (Or.inr e)))
    obtain ⟨x0, x1, _⟩ := T4.out.lo.bk.two
    obtain ⟨r0, r1, _⟩ := R14.out.two
    have lg4 := T4.out.lo.bk.lt
    have lr4 := R14.out.lt
    go_still_tail 6, (by kernel_rfl)
    change wpList _ _ _ _ _ w4.drew
    clear x0 x1 r0 r1
    go_upto_region 7 with (at_delete; refine to_del _ rfl _ _ rfl B D4 rfl (T4.out.lo.drewN 1).ob x.1 (in_sl HSX.out) rfl ?_; intro w5 hw5 ho5; have HO5 := Lib.hid ho5; have HW5 := Lib.hid hw5; clear ho5 hw5)
    have OD5 : Hid (Only (fun j => j = B) w4 w5) := ((Only.refl (fun _ => False) w4).drew.mono (fun _ _ h => h.elim)).trans (HO5.out.mono fun _ _ e => Or.inl e)
    have R05 := Lib.hid (R04.out.only OD5.out nB0)
    have R15 := Lib.hid (R14.out.only OD5.out nB1)
    have ON5 := Lib.hid (ON4.out.trans (OD5.out.mono fun _ _ e => Or.inl (Or.inr (Or.inl e))))
    have LO5 : Hid (Lo w5 g (some ⟨b, o, none⟩) c B (D4.del (kl x.1)) Q4) := ⟨T4.out.lo.bk.only OD5.out T4.out.lo.gb, HW5.out, T4.out.lo.mi.only OD5.out (fun a ha => (T4.out.lo.ra a ha).2), T4.out.lo.gb, T4.out.lo.ra⟩
    obtain ⟨r0, r1, _⟩ := R15.out.two
    obtain ⟨s0, s1, sf0, sf1⟩ := R05.out.two
    have lr5 := R15.out.lt
    have lr0 := R05.out.lt
    go_wp2_with fail
    obtain ⟨w6, hw6⟩ : ∃ w6, w6 = (w5.setCell ⟨w.heap.size, 0, none⟩ (.int .i64 x.1)).setCell ⟨w.heap.size, 1, none⟩ (.int .u64 x.2) := ⟨_, rfl⟩
    have R06 : Hid (Blk w6 w.heap.size #[.int .i64 x.1, .int .u64 x.2] 41) := by
      show Blk _ _ _ _; rw [hw6]
      exact (R05.out.set 0 (.int .i64 x.1)).set 1 (.int .u64 x.2)
    have O6 : Hid (Only (fun j => j = w.heap.size) w5 w6) := by
      show Only _ _ _; rw [hw6]
      exact ((Only.refl (fun j => j = w.heap.size) w5).put (ad := ⟨w.heap.size, 0, none⟩) rfl _).put (ad := ⟨w.heap.size, 1, none⟩) rfl _
    rw [← hw6]
    clear hw6 r0 r1 s0 s1 sf0 sf1
    obtain ⟨t0, t1, _⟩ := R06.out.two
    refine bodyPost_ret (v := .agg #[.int .i64 x.1, .int .u64 x.2]) (by simp [results, Try.results42, go_sem, t0, t1]) rfl ?_
    have hmem : ∀ m, (m ∈ ns Q ∧ m ≠ x.1) ↔ m ∈ ns Q4 := fun m => by
      rw [ns_mem HP4.out, mem_ns, mem_ns]
      exact ⟨fun ⟨⟨y, hy, e⟩, h⟩ => ⟨y, mem_wo.2 ⟨hy, fun h' => h (by rw [← e]; exact h')⟩, e⟩, fun ⟨y, hy, e⟩ => ⟨⟨y, (mem_wo.1 hy).1, e⟩, fun h => (mem_wo.1 hy).2 (by rw [e]; exact h)⟩⟩
    have hlen : M = Q4.length := by
      have h1 := wo_len HND.out HXN.out
      rw [HP4.out.length_eq]; have := HN.out; omega
    have hmd : Md (D4.del (kl x.1)) (fun m => m ∈ ns Q4) Q4.length f4 := by
      have hnM : n = M + 1 := by omega
      have h4 := T4.out.md
      rw [hnM] at h4
      exact (h4.del HXN.out).ext hmem hlen (fun _ _ => rfl)
    refine ⟨_, Q4, f4, by rw [← HX.out]; rfl, LO5.out.kept O6.out (fun e => ng0 e.symm) (fun e => nB0 e.symm) (fun a ha => ?_), by rw [← HX.out]; exact HP4.out, T4.out.heap, T4.out.plc, hmd, ON5.out.trans (O6.out.mono fun j hj e => Or.inr (by rw [e]; exact Nat.le_refl _))⟩
    injection ha with ha
    rw [← ha]
    exact fun e => nb0 e.symm
end
end Go.Proofs.Ytpalbccoiejmoaa.Zt
