/- Proves the contracts of the methods Put, Move and Remove of the program's heap of deadlines. Conditions: as each theorem names them. -/
import Derived.Test.YtpalbccoiejmoaaYeb
namespace Go.Proofs.Ytpalbccoiejmoaa.Ye
open Go.RowKit Go.Maps Ap Mi Nw Ya Yb Yc Yd Zk Zm Za Zl Zs Zt

/-- One more slot stands at the end of the row. -/
theorem push_lo {w1 w5 : World} {g c c5 B : Nat} {A A5 : Option Addr} {D : DataW Unit} {Q : List Td} {n a : Int} (h : Lo w1 g A c B D Q) (o5 : Only (fun j => ∃ d, A = some d ∧ j = d.block) w1 w5)
    (m5 : Mine 0 2 w5 A5 (Q.length + 1) c5 (tv Q ++ [.int .i64 n, .int .u64 a])) (n5 : A5 = A ∨ ∀ d, A5 = some d → w1.heap.size ≤ d.block) :
    ∃ b o, A5 = some ⟨b, o, none⟩ ∧ Lo (w5.setCell ⟨g, 0, none⟩ (.slice A5 (Q.length + 1) c5)) g (some ⟨b, o, none⟩) c5 B D (Q ++ [(n, a)]) ∧ (A = some ⟨b, o, none⟩ ∨ w1.heap.size ≤ b) ∧ Only (fun j => j = g ∨ ∃ d, A = some d ∧ j = d.block) w1 (w5.setCell ⟨g, 0, none⟩ (.slice A5 (Q.length + 1) c5)) := by
  obtain ⟨b, o, rfl, hb, _⟩ := mine_place m5 (by simp)
  have lg := h.bk.lt
  have lB := h.ob.lt
  have hne : b ≠ g ∧ b ≠ B := by
    rcases n5 with e | e
    · exact h.ra _ e.symm
    · have : w1.heap.size ≤ b := e _ rfl
      exact ⟨by show b ≠ g; omega, by show b ≠ B; omega⟩
  have hbk := h.bk.only o5 (fun ⟨d, hd, e⟩ => (h.ra d hd).1 e.symm)
  have hob := h.ob.kept o5 (fun ⟨d, hd, e⟩ => (h.ra d hd).2 e.symm)
  have o6 : Only (fun j => j = g) w5 (w5.setCell ⟨g, 0, none⟩ (.slice (some ⟨b, o, none⟩) (Q.length + 1) c5)) := (Only.refl (fun j => j = g) _).put (ad := ⟨g, 0, none⟩) rfl _
  have hl : (Q ++ [(n, a)]).length = Q.length + 1 := by simp
  refine ⟨b, o, rfl, ⟨?_, hob.kept o6 (fun e => h.gb e.symm), ?_, h.gb, fun d hd => ?_⟩, ?_, (o5.mono fun _ _ e => Or.inr e).trans (o6.mono fun _ _ e => Or.inl (Or.inl e))⟩
  · rw [hl]; exact hbk.set 0 (.slice (some ⟨b, o, none⟩) (Q.length + 1) c5)
  · rw [hl, tv_append]
    exact m5.only o6 (fun d hd => by injection hd with hd; rw [← hd]; exact hne.1)
  · injection hd with hd; rw [← hd]; exact hne
  · rcases n5 with e | e
    · exact Or.inl e.symm
    · exact Or.inr (e _ rfl)
section
variable {F : Nat → Prop} {w : World} {g : Nat} {L : List Td}
set_option maxRecDepth 100000 in
set_option maxHeartbeats 1000000 in
theorem put_any (h : Hp F w g L) (n a : Int) (ha : Tm a) : Calls Try.prog 13 #[.pointer (some ⟨g, 0, none⟩), .int .i64 n, .int .u64 a] w (wrPost F w g (putT L n a) (.int .i64 (putN L n))) := by
  have HH := Lib.hid h
  obtain ⟨⟨A, c, B, D, Q, f, hlo, hF, hm, hf, hh, hp⟩, hsrt⟩ := h
  unfold wrPost
  by_cases hs : Sl n
  case neg =>
    have HK := Lib.hid (look_no hlo hs)
    have e3 : putN L n = 2 := by unfold putN; rw [if_pos hs]
    have e4 : putT L n a = L := by unfold putT; rw [if_neg (fun h => hs h.1)]
    rw [e3, e4]
    clear hlo hF hm hf hh hp hsrt hs e3 e4 ha
    go_enter Try.func13, Try.ntmps13
    go_wp2_with fail
    refine HK.out.mono ?_
    rintro e w1 ⟨rfl, rfl⟩
    go_wp2_with fail
    go_ret
    exact ⟨rfl, HH.out.mono fun _ _ h => Or.inl h, Only.refl _ _⟩
  have HK := Lib.hid (look_in hlo hm hs)
  by_cases hl : n ∈ ns L
  case pos =>
    have e2 : decide (n ∈ ns Q) = true := by simp [(ns_mem hp n).2 hl]
    have e3 : putN L n = 11 := by unfold putN; rw [if_neg (by simpa using hs), if_pos hl]
    have e4 : putT L n a = L := by unfold putT; rw [if_neg (fun h => h.2 hl)]
    rw [e2] at HK
    rw [e3, e4]
    obtain ⟨v, hv⟩ : ∃ v, v = lkV f Q n := ⟨_, rfl⟩
    rw [← hv] at HK
    clear hlo hF hm hf hh hp hsrt hs hl e2 e3 e4 ha hv
    go_enter Try.func13, Try.ntmps13
    go_wp2_with fail
    refine HK.out.mono ?_
    rintro e w1 ⟨rfl, rfl⟩
    go_wp2_with fail
    go_ret
    exact ⟨rfl, HH.out.mono fun _ _ h => Or.inl h, Only.refl _ _⟩
  have hlq : n ∉ ns Q := fun h => hl ((ns_mem hp n).1 h)
  have e2 : decide (n ∈ ns Q) = false := by simp [hlq]
  have e3 : putN L n = 0 := by unfold putN; rw [if_neg (by simpa using hs), if_neg hl]
  have e4 : putT L n a = ins L (n, a) := by unfold putT; rw [if_pos ⟨hs, hl⟩]
  have HSR : Hid (Srt (ins L (n, a))) := hsrt.insd hl hs ha
  have HPM : Hid ((Q ++ [(n, a)]).Perm (ins L (n, a))) := (List.perm_append_singleton _ _).trans ((hp.cons _).trans (ins_perm _ _).symm)
  have HND : Hid (ns (Q ++ [(n, a)])).Nodup := ns_nd HPM.out HSR.out.nd
  have hlen : Q.length ≤ 1048576 := by rw [hp.length_eq]; exact hsrt.len
  have HLO := Lib.hid hlo; have HMD := Lib.hid hm; have HF := Lib.hid hf; have HHQ := Lib.hid hh; have HS := Lib.hid hs; have HNQ := Lib.hid hlq; have HB := Lib.hid hF
  have HSL : Hid (∀ x ∈ Q ++ [(n, a)], Sl x.1) := fun x hx => HSR.out.sl x (HPM.out.mem_iff.1 hx)
  rw [e2] at HK
  rw [e3, e4]
  obtain ⟨v, hv⟩ : ∃ v, v = lkV f Q n := ⟨_, rfl⟩
  rw [← hv] at HK
  obtain ⟨x0, x1, _⟩ := hlo.bk.two
  have lg := hlo.bk.lt
  obtain ⟨q, hq⟩ : ∃ q, q = Q.length := ⟨_, rfl⟩
  have HQ := Lib.hid hq
  have M0 : Hid (Mine 0 2 w A q c (tv Q)) := by show Mine _ _ _ _ _ _ _; rw [hq]; exact hlo.mi
  rw [← hq] at x0 hlen
  clear hlo hF hm hf hh hp hsrt hs hl hlq e2 e3 e4 ha hv hq
  go_enter Try.func13, Try.ntmps13
  go_wp2_with fail
  refine HK.out.mono ?_
  rintro e w1 ⟨rfl, rfl⟩
  have LB := Lib.hid (bnew w1 (.cells #[.int .i64 n, .int .u64 a] 41))
  go_upto_region 7 with (at_builtin; (refine wpList_mine rfl _ _ elT _ rfl rfl (M0.out.below LB.out (Nat.le_refl _)) _ rfl 1 _ (src_lit Try.underlying26 #[.int .i64 n, .int .u64 a] 1 2 rfl (by simp [Value.oneCell'])) (by omega) (by omega) (Nat.zero_le _) ?_); intro A5 c5 w5 m5 g5 n5; have O5 : Hid (Only (fun j => ∃ d, A = some d ∧ j = d.block) w1 w5) := ((Only.of_below LB.out (Nat.le_refl _) (fun _ => False)).mono (fun _ _ h => h.elim)).trans ((only_row (F := fun j => ∃ d, A = some d ∧ j = d.block) g5 (fun d hd => ⟨d, hd, rfl⟩)).mono (fun _ _ h => Or.inl h)); have K5 := Lib.hid (HLO.out.bk.only O5.out (fun ⟨d, hd, e⟩ => (HLO.out.ra d hd).1 e.symm)); have M5 := Lib.hid m5; have N5 := Lib.hid n5; obtain ⟨y0, y1, yf0, yf1⟩ := K5.out.two; have lg5 := K5.out.lt; clear m5 g5 n5)
  have O5' := Lib.hid O5
  obtain ⟨b, o, rfl, LO6, HNB, O6⟩ := push_lo (n := n) (a := a) HLO.out O5 (by rw [← HQ.out]; exact M5.out) (by
    rcases N5.out with e | e
    · exact Or.inl e
    · exact Or.inr (fun d hd => by have := e d hd; simp at this; omega))
  rw [← HQ.out] at LO6 O6
  obtain ⟨w6, hw6⟩ : ∃ w6, w6 = w5.setCell ⟨g, 0, none⟩ (.slice (some ⟨b, o, none⟩) (q + 1) c5) := ⟨_, rfl⟩
  rw [← hw6] at LO6 O6 ⊢
  have HLO6 := Lib.hid LO6; have HO6 := Lib.hid O6; have HNB' := Lib.hid HNB
  have HPL : Hid (PlcX f (Q ++ [(n, a)]) q) := fun k hk hkq => by
    rw [List.length_append, List.length_singleton] at hk
    have hkl : k < Q.length := by have := HQ.out; omega
    rw [A_app hkl]; exact HF.out k hkl
  have HSE := Lib.hid (settle_any (p := fun m => m ∈ ns Q) (k := q) LO6 (i := q) (by rw [HQ.out]; simp) HND.out HSL.out (by rw [HQ.out]; exact HMD.out)
    (fun m hm hne => by
      obtain ⟨y, hy, e⟩ := mem_ns.1 hm
      rcases List.mem_append.1 hy with h1 | h1
      · exact mem_ns.2 ⟨y, h1, e⟩
      · rw [List.mem_singleton.1 h1] at e
        refine absurd e.symm ?_
        rw [HQ.out, A_last] at hne
        exact hne)
    HPL.out (by rw [HQ.out]; exact HHQ.out.push _) (by omega) (by rw [List.length_append, List.length_singleton, ← HQ.out]; omega))
  have eA : Zm.A (Q ++ [(n, a)]) q = (n, a) := by rw [HQ.out, A_last]
  rw [eA] at HSE
  unfold siftPost at HSE
  obtain ⟨x0, x1, _⟩ := LO6.bk.two
  rw [List.length_append, List.length_singleton, ← HQ.out] at x0
  have lg6 := LO6.bk.lt
  clear LO6 O6 HNB O5 y0 y1 yf0 yf1 hw6 eA
  go_wp2_with fail
  refine HSE.out.mono ?_
  rintro e w7 ⟨D7, Q7, f7, k7, rfl, a1, a2, a3, a4, a5, a6, a7, a8⟩
  have HE := Lib.hid (And.intro a1 (And.intro a2 (And.intro a3 (And.intro a4 (And.intro a5 (And.intro a7 a8))))))
  clear a1 a2 a3 a4 a5 a6 a7 a8 HSE
  go_wp2_with fail
  go_ret
  obtain ⟨a1, a2, a3, a4, a5, a7, a8⟩ := HE.out
  have hk7 : k7 = q + 1 := a7 HNQ.out
  have hl7 : Q7.length = q + 1 := by rw [a2.length_eq, List.length_append, List.length_singleton, HQ.out]
  have hz := HO6.out.size
  refine ⟨rfl, ⟨⟨_, _, B, D7, Q7, f7, a1, ⟨Or.inl HB.out.1, Or.inl HB.out.2.1, fun d hd => ?_⟩, a5.ext (fun m => ?_) (by rw [hk7, hl7]) (fun _ _ => rfl), a4, a3, a2.trans HPM.out⟩, HSR.out⟩, HO6.out.mono (fun j hj e => ?_) |>.trans (a8.mono fun j hj e => ?_)⟩
  · injection hd with hd
    rw [← hd]
    rcases HNB'.out with e | e
    · exact Or.inl (HB.out.2.2 _ e)
    · exact Or.inr e
  · rw [ns_mem a2, mem_ns, mem_ns]
    constructor
    · rintro (e | ⟨y, hy, e⟩)
      · exact ⟨(n, a), by simp, e.symm⟩
      · exact ⟨y, List.mem_append_left _ hy, e⟩
    · rintro ⟨y, hy, e⟩
      rcases List.mem_append.1 hy with h1 | h1
      · exact Or.inr ⟨y, h1, e⟩
      · rw [List.mem_singleton.1 h1] at e; exact Or.inl e.symm
  · rcases e with e | ⟨d, hd, e⟩
    · rw [e]; exact HB.out.1
    · rw [e]; exact HB.out.2.2 d hd
  · rcases e with e | e
    · rw [e]; exact Or.inl HB.out.2.1
    · rw [e]
      rcases HNB'.out with e | e
      · exact Or.inl (HB.out.2.2 _ e)
      · exact Or.inr e
theorem tv_same {Q : List Td} {k : Nat} (hk : k < Q.length) (a : Int) : (tv Q).set (k * 2 + 1) (.int .u64 a) = tv (Q.set k ((Zm.A Q k).1, a)) := by
  have e := tv_set Q k ((Zm.A Q k).1, a)
  rw [← e]
  congr 1
  obtain ⟨h0, _⟩ := tv_get Q k hk
  obtain ⟨h1, h2⟩ := List.getElem?_eq_some_iff.1 h0
  rw [A_get hk]
  simp only
  rw [← h2, List.set_getElem_self]
/-- A slot gets another deadline. -/
theorem at_lo {w : World} {g c b o B : Nat} {D : DataW Unit} {Q : List Td} (h : Lo w g (some ⟨b, o, none⟩) c B D Q) {k : Nat} (hk : k < Q.length) (a : Int) :
    Lo (w.setCell ⟨b, o + k * 2 + 1, none⟩ (.int .u64 a)) g (some ⟨b, o, none⟩) c B D (Q.set k ((Zm.A Q k).1, a)) ∧ Only (fun j => j = b) w (w.setCell ⟨b, o + k * 2 + 1, none⟩ (.int .u64 a)) := by
  have ho : Only (fun j => j = b) w (w.setCell ⟨b, o + k * 2 + 1, none⟩ (.int .u64 a)) := (Only.refl (fun j => j = b) w).put (ad := ⟨b, o + k * 2 + 1, none⟩) rfl _
  obtain ⟨r1, r2⟩ := h.ra _ rfl
  have hl := tv_len Q
  have hm := h.mi.store (k * 2 + 1) (by omega) (.int .u64 a)
  rw [tv_same hk] at hm
  refine ⟨⟨?_, h.ob.kept ho (fun e => r2 e.symm), ?_, h.gb, h.ra⟩, ho⟩
  · rw [List.length_set]; exact h.bk.only ho (fun e => r1 e.symm)
  · rw [List.length_set]; exact hm
set_option maxRecDepth 100000 in
set_option maxHeartbeats 1000000 in
theorem move_any (h : Hp F w g L) (n a : Int) (ha : Tm a) : Calls Try.prog 21 #[.pointer (some ⟨g, 0, none⟩), .int .i64 n, .int .u64 a] w (wrPost F w g (movT L n a) (.int .i64 (remN L n))) := by
  have HH := Lib.hid h
  obtain ⟨⟨A, c, B, D, Q, f, hlo, hF, hm, hf, hh, hp⟩, hsrt⟩ := h
  unfold wrPost
  by_cases hb : Sl n ∧ n ∈ ns L
  case neg =>
    have HK := Lib.hid (need_bad hlo hm hp hb)
    obtain ⟨_, r2, _, r4⟩ := rem_cases L n a hb
    rw [r2]
    obtain ⟨e0, he0⟩ : ∃ e0, e0 = remN L n := ⟨_, rfl⟩
    rw [← he0] at HK r4 ⊢
    clear hlo hF hm hf hh hp hsrt hb he0 r2 ha
    go_enter Try.func21, Try.ntmps21
    go_wp2_with fail
    refine HK.out.mono ?_
    rintro e w1 ⟨rfl, rfl⟩
    go_wp2_with fail
    go_ret
    exact ⟨rfl, HH.out.mono fun _ _ h => Or.inl h, Only.refl _ _⟩
  obtain ⟨hs, hn⟩ := hb
  obtain ⟨k, hk, e⟩ := ns_A ((ns_mem hp n).2 hn)
  have HK := Lib.hid (need_yes hlo hm hs ((ns_mem hp n).2 hn))
  have e2 := hf k hk
  rw [e] at e2
  rw [e2] at HK
  obtain ⟨r1, _, _⟩ := rem_good hs hn
  have e4 : movT L n a = ins (wo L n) (n, a) := by unfold movT; rw [if_pos ⟨hs, hn⟩]
  rw [r1, e4]
  have HSR : Hid (Srt (ins (wo L n) (n, a))) := (hsrt.out n).insd (not_wo L n) hs ha
  have HPM : Hid ((Q.set k (n, a)).Perm (ins (wo L n) (n, a))) := (set_perm (ns_nd hp hsrt.nd) hk e (n, a)).trans (((wo_perm hp n).cons _).trans (ins_perm _ _).symm)
  have HND : Hid (ns (Q.set k (n, a))).Nodup := ns_nd HPM.out HSR.out.nd
  have HSL : Hid (∀ x ∈ Q.set k (n, a), Sl x.1) := fun x hx => HSR.out.sl x (HPM.out.mem_iff.1 hx)
  have HMM : Hid (∀ m, m ∈ ns (Q.set k (n, a)) ↔ m ∈ ns Q) := fun m => by
    rw [ns_mem HPM.out, mem_ns, ns_mem hp, mem_ns]
    constructor
    · rintro ⟨y, hy, ey⟩
      rcases mem_ins.1 hy with h1 | h1
      · subst h1
        obtain ⟨z, hz, ez⟩ := mem_ns.1 hn
        exact ⟨z, hz, ez.trans ey⟩
      · exact ⟨y, (mem_wo.1 h1).1, ey⟩
    · rintro ⟨y, hy, ey⟩
      by_cases hyn : y.1 = n
      · exact ⟨(n, a), mem_ins.2 (Or.inl rfl), hyn.symm.trans ey⟩
      · exact ⟨y, mem_ins.2 (Or.inr (mem_wo.2 ⟨hy, hyn⟩)), ey⟩
  have hlen : Q.length ≤ 1048576 := by rw [hp.length_eq]; exact hsrt.len
  obtain ⟨x0, x1, _⟩ := hlo.bk.two
  have lg := hlo.bk.lt
  obtain ⟨b, o, rfl, lb, c0, c1⟩ := hlo.at_ hk
  obtain ⟨_, _, _, cf1⟩ := Lo_cells hlo hk
  have kI : (k : Int) < (Q.length : Int) := by omega
  have LA := Lib.hid (at_lo hlo hk a)
  rw [e] at LA
  have HLO := Lib.hid hlo; have HMD := Lib.hid hm; have HF := Lib.hid hf; have HHQ := Lib.hid hh; have HB := Lib.hid hF; have HKL := Lib.hid hk
  have HNQ : Hid (n ∈ ns Q) := (ns_mem hp n).2 hn
  have hx : Zm.A (Q.set k (n, a)) k = (n, a) := by rw [A_set hk, if_pos rfl]
  have HPL : Hid (PlcX f (Q.set k (n, a)) k) := fun j hj hjk => by
    rw [List.length_set] at hj
    rw [A_set hk, if_neg hjk]
    exact hf j hj
  have HSE := Lib.hid (settle_any (p := fun m => m ∈ ns Q) (k := Q.length) LA.out.1 (i := k) (by rw [List.length_set]; exact hk) HND.out HSL.out hm
    (fun m hm _ => (HMM.out m).1 hm) HPL.out (hh.hole hk _) (by omega) (by rw [List.length_set]; omega))
  rw [hx] at HSE
  unfold siftPost at HSE
  clear hlo hF hm hf hh hp hsrt e e2 e4 r1 hs hn hx hk ha
  go_enter Try.func21, Try.ntmps21
  go_wp2_with fail
  refine HK.out.mono ?_
  rintro e w1 ⟨rfl, rfl⟩
  go_upto_region 5 with fail
  obtain ⟨w2, hw2⟩ : ∃ w2, w2 = w1.setCell ⟨b, o + k * 2 + 1, none⟩ (.int .u64 a) := ⟨_, rfl⟩
  rw [← hw2] at LA HSE ⊢
  clear hw2 x0 x1 c0 c1 cf1
  go_wp2_with fail
  refine HSE.out.mono ?_
  rintro e w7 ⟨D7, Q7, f7, k7, rfl, a1, a2, a3, a4, a5, a6, a7, a8⟩
  have HE := Lib.hid (And.intro a1 (And.intro a2 (And.intro a3 (And.intro a4 (And.intro a5 (And.intro a6 a8))))))
  clear a1 a2 a3 a4 a5 a6 a7 a8 HSE
  go_wp2_with fail
  go_ret
  obtain ⟨a1, a2, a3, a4, a5, a6, a8⟩ := HE.out
  have hk7 : k7 = Q.length := a6 HNQ.out
  have hl7 : Q7.length = Q.length := by rw [a2.length_eq, List.length_set]
  refine ⟨rfl, ⟨⟨_, _, B, D7, Q7, f7, a1, ⟨Or.inl HB.out.1, Or.inl HB.out.2.1, fun d hd => Or.inl (HB.out.2.2 d hd)⟩, a5.ext (fun m => ?_) (by rw [hk7, hl7]) (fun _ _ => rfl), a4, a3, a2.trans HPM.out⟩, HSR.out⟩, LA.out.2.mono (fun j hj e => ?_) |>.trans (a8.mono fun j hj e => ?_)⟩
  · rw [ns_mem a2, HMM.out]
    exact ⟨fun h => h.elim (fun e => by rw [e]; exact HNQ.out) id, Or.inr⟩
  · rw [e]; exact HB.out.2.2 _ rfl
  · rcases e with e | e
    · rw [e]; exact Or.inl HB.out.2.1
    · rw [e]; exact Or.inl (HB.out.2.2 _ rfl)
theorem fld1 (x y : Value) (W : World) : (Instr.field 41 (.agg #[x, y]) 1).run Try.prog W = .ok y W := by kernel_rfl
set_option maxRecDepth 100000 in
theorem remove_any (h : Hp F w g L) (n : Int) : Calls Try.prog 25 #[.pointer (some ⟨g, 0, none⟩), .int .i64 n] w (wrPost F w g (remT L n) (.tuple #[.int .u64 (remA L n), .int .i64 (remN L n)])) := by
  have HH := Lib.hid h
  obtain ⟨⟨A, c, B, D, Q, f, hlo, hF, hm, hf, hh, hp⟩, hsrt⟩ := h
  unfold wrPost
  by_cases hb : Sl n ∧ n ∈ ns L
  case neg =>
    have HK := Lib.hid (need_bad hlo hm hp hb)
    obtain ⟨r1, _, r3, r4⟩ := rem_cases L n 0 hb
    rw [r1, r3]
    obtain ⟨e0, he0⟩ : ∃ e0, e0 = remN L n := ⟨_, rfl⟩
    rw [← he0] at HK r4 ⊢
    clear hlo hF hm hf hh hp hsrt hb he0 r1 r3
    go_enter Try.func25, Try.ntmps25
    go_wp2_with fail
    refine HK.out.mono ?_
    rintro e w1 ⟨rfl, rfl⟩
    go_wp2_with fail
    go_ret2
    exact ⟨rfl, HH.out.mono fun _ _ h => Or.inl h, Only.refl _ _⟩
  obtain ⟨hs, hn⟩ := hb
  obtain ⟨k, hk, e⟩ := ns_A ((ns_mem hp n).2 hn)
  have HK := Lib.hid (need_yes hlo hm hs ((ns_mem hp n).2 hn))
  have e2 := hf k hk
  rw [e] at e2
  rw [e2] at HK
  obtain ⟨r1, r2, r3⟩ := rem_good hs hn
  have e3 := tm_at hp hsrt.nd hk
  rw [e] at e3
  rw [r1, r2, r3, e3]
  have hlen : Q.length ≤ 1048576 := by rw [hp.length_eq]; exact hsrt.len
  obtain ⟨b, o, rfl, _⟩ := hlo.at_ hk
  have HT := Lib.hid (take_any hlo hk (ns_nd hp hsrt.nd) (fun x hx => hsrt.sl x (hp.mem_iff.1 hx)) hm hf hh (by omega))
  unfold takePost tA at HT
  rw [e] at HT
  have HP : Hid ((wo Q n).Perm (wo L n)) := wo_perm hp n
  have HS : Hid (Srt (wo L n)) := hsrt.out n
  have HB := Lib.hid hF
  have hfld := fld1
  obtain ⟨t, ht⟩ : ∃ t, t = (Zm.A Q k).2 := ⟨_, rfl⟩
  rw [← ht] at HT ⊢
  clear hlo hF hm hf hh hp hsrt e e2 e3 r1 r2 r3 hs hn hk hlen ht
  go_enter Try.func25, Try.ntmps25
  go_wp2_with fail
  refine HK.out.mono ?_
  rintro e w1 ⟨rfl, rfl⟩
  go_wp2_with fail
  refine HT.out.mono ?_
  rintro e w2 ⟨D', Q', f', rfl, a1, a2, a3, a4, a5, a6⟩
  have HE := Lib.hid (And.intro a1 (And.intro a2 (And.intro a3 (And.intro a4 (And.intro a5 a6)))))
  clear a1 a2 a3 a4 a5 a6 HT
  go_wp2_with fail
  go_ret2
  obtain ⟨a1, a2, a3, a4, a5, a6⟩ := HE.out
  refine ⟨rfl, ⟨⟨_, _, B, D', Q', f', a1, ⟨Or.inl HB.out.1, Or.inl HB.out.2.1, fun d hd => Or.inl (HB.out.2.2 d hd)⟩, a5, a4, a3, a2.trans HP.out⟩, HS.out⟩, a6.mono fun j hj e => ?_⟩
  rcases e with e | e | e
  · rw [e]; exact HB.out.1
  · rw [e]; exact HB.out.2.1
  · rw [e]; exact HB.out.2.2 _ rfl
end
end Go.Proofs.Ytpalbccoiejmoaa.Ye
