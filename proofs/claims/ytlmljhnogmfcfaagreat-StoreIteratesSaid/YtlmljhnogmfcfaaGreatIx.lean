/- Proves what the store's Expire returns: the entries that are due, in order; and that the rest stays. Conditions: as each theorem names them. -/
import Derived.Test.YtlmljhnogmfcfaaGreatIw
namespace Go.Proofs.YtlmljhnogmfcfaaGreat.Ep
open Go.RowKit Ap Mi Nw Rg Ea Eb Ec Ed Ee El Ia Ib Ic Ik Ie If Ig Is Iw

structure Exi (pd : Nat → Nat) (vd : World) (g : Nat) (s : Sx) (ns : List Nat) (q : Ptr) (E : List Em) (now : Int) (M : List Ya.Td) (A0 : Option Addr) (c0 J : Nat) (p1 : Nat → Nat) (v : World) (c1 : Ct) (A : Option Addr) (n : Nat) (l : List Em) : Prop where
 le : J ≤ M.length
 m : l.map Em.e = (M.take J).map fun x => en E x.1.toNat
 d : Evd p1 vd v A n l
 st : Step pd vd p1 v
 b : Bt (fun n => dueE (en E n).d now = false) 0 0 p1 v g { s with l := (left ns M J).map (en E) } (left ns M J) q c1
 lt : Ya.Lt v A0 M c0
 lp : ∀ a, A0 = some a → a.block < vd.heap.size ∧ pd a.block = 0
section
variable {p pd p1 : Nat → Nat} {w vd v : World} {g : Nat} {s : Sx} {ns : List Nat} {q : Ptr} {c c1 : Ct} {now : Int} {M : List Ya.Td} {A0 A : Option Addr} {c0 J n : Nat} {l : List Em} {F : Nat → Prop}
theorem Exi.len (h : Exi pd vd g s ns q c.E now M A0 c0 J p1 v c1 A n l) : l.length = J := by
 have := congrArg List.length h.m
 rw [List.length_map, List.length_map, List.length_take, Nat.min_eq_left h.le] at this
 exact this
theorem Exi.below (h : Exi pd vd g s ns q c.E now M A0 c0 J p1 v c1 A n l) {v' : World} (hb : Below v.heap.size v v') : Exi pd vd g s ns q c.E now M A0 c0 J (col p1 0 v.heap.size) v' c1 A n l :=
 ⟨h.le, h.m, h.d.step (Step.below hb 0), h.st.trans (Step.below hb 0), ⟨h.b.lo.below hb 0, h.b.rel, h.b.r, h.b.m⟩, h.lt.below hb (Nat.le_refl _), h.lp⟩
theorem Exi.take (h : Exi pd vd g s ns q c.E now M A0 c0 J p1 v c1 A n l) (hJ : J < M.length) {m : Nat} (hm : m ∈ left ns M J) (hx : M[J].1 = (m : Int)) :
  Calls Tryz.prog 64 #[.pointer (some ⟨g, 0, none⟩), .int .i64 (m : Int)] v (takePost (fun n => dueE (en c.E n).d now = false) 0 0 p1 v g { s with l := (left ns M (J + 1)).map (en c.E) } (left ns M (J + 1)) q (en c.E m)) := by
 obtain ⟨i, hi, rfl⟩ := List.getElem_of_mem hm
 have h1 := take_any h.b hi
 have h2 := wn_at h.b.rel.nd hi
 have h3 := left_succ (ns := ns) hJ hx
 have h4 : wo ((left ns M J).map (en c.E)) i = (left ns M (J + 1)).map (en c.E) := by
  rw [← wo_map, ← h2, h3]
 have h5 : en c1.E (left ns M J)[i] = en c.E (left ns M J)[i] := by
  have h6 := h.b.rel.l
  simp only at h6
  exact (List.map_inj_left.1 h6 _ hm).symm
 rw [h3, h5] at h1
 simp only at h1
 rw [h4] at h1
 exact h1
theorem Exi.next {p3 : Nat → Nat} {v2 w5 : World} {y : Em} {c3 : Ct} {A5 : Option Addr} {n5 : Nat} {o : Obj} (h : Exi pd vd g s ns q c.E now M A0 c0 J p1 v c1 A n l) (hJ : J < M.length) {m : Nat} (hx : M[J].1 = (m : Int)) (hye : y.e = en c.E m) (gy : Gv p3 v v2 y) (S3 : Step p1 v p3 v2)
  (B3 : Bt (fun n => dueE (en c.E n).d now = false) 0 0 p3 v2 g { s with l := (left ns M (J + 1)).map (en c.E) } (left ns M (J + 1)) q c3)
  (m5 : Mine vd.heap.size 6 w5 A5 (l.length + 1) n5 (emL l ++ emC y)) (g5 : (v2.alloc o).grownBy w5 (A.map (·.block))) (q5 : A5 = A ∨ ∀ a, A5 = some a → v2.heap.size + 1 ≤ a.block) :
  Exi pd vd g s ns q c.E now M A0 c0 (J + 1) (col p3 0 v2.heap.size) w5 c3 A5 n5 (l ++ [y]) := by
 have hz1 := h.st.on.size
 have hz2 := S3.on.size
 have HYA : ∀ a, A = some a → ¬ El.Rows y a.block := fun a ha hr => by
  have h1 := (h.d.mi.base ha).2.1
  have h2 := (gy.rows hr).1
  omega
 obtain ⟨hd5, ho5⟩ := (h.d.step S3).push (gy.back hz1) HYA m5 g5 q5
 have hA : ∀ a, A = some a → p3 a.block = 0 ∧ vd.heap.size ≤ a.block := fun a ha => ⟨(h.d.step S3).pz a ha, (h.d.mi.base ha).1⟩
 refine ⟨hJ, ?_, hd5, ?_, ?_, ?_, h.lp⟩
 ·rw [List.map_append, h.m, List.take_succ_eq_append_getElem hJ, List.map_append, List.map_cons, List.map_nil, List.map_cons, List.map_nil, hye, hx, Int.toNat_natCast]
 ·refine ⟨fun j hj => ?_, (h.st.trans S3).on.trans (ho5.mono fun j _ hj => ?_)⟩
  ·rw [col_lt (by omega)]; exact (h.st.trans S3).eq j hj
  ·obtain ⟨a, ha, rfl⟩ := hj; exact Or.inr (hA a ha).2
 ·exact ⟨B3.lo.keep ho5 (fun j _ hj hf => by obtain ⟨a, ha, rfl⟩ := hf; exact hj (hA a ha).1) (fun _ hj => col_lt hj), B3.rel, B3.r, B3.m⟩
 ·refine (h.lt.only S3.on (fun a ha hf => ?_)).only ho5 (fun a ha hf => ?_)
  ·obtain ⟨h1, h2⟩ := h.lp a ha
   have h3 := h.st.eq _ h1
   exact hf.1 (by rw [h3]; exact h2)
  ·obtain ⟨b, hb, e⟩ := hf
   have h1 := (hA b hb).2
   have h2 := (h.lp a ha).1
   omega
theorem Exi.all (r : Rel (fun _ => True) 0 0 s ns c.E c.a c.t c.h c.k) (hd : Due ns c.E now M) (h : Exi pd vd g s ns q c.E now M A0 c0 M.length p1 v c1 A n l) {l' : List Em} {v' : World} (hp : l'.Perm l) (hs : Sorted (l'.map Em.e)) (hm : Mine vd.heap.size 6 v' A l.length n (emL l')) (ho : Only (fun j => ∃ a, A = some a ∧ a.block = j) v v')
  (hF : ∀ j, j < w.heap.size → p j ≠ 0 → F j) (hS : Step p w pd vd) : expPost F w g (expT s now) (expG id now s.l) (.returned (.slice A l.length n)) v' := by
 obtain ⟨e1, e2⟩ := exp_is r hd
 have hz := hS.on.size
 have hz2 := h.st.on.size
 have hl : l'.length = l.length := hp.length_eq
 have hlm : l'.map Em.e = expG id now s.l := by
  refine e2 _ hs ?_
  have h1 := hp.map Em.e
  rw [h.m, List.take_length] at h1
  exact h1
 obtain ⟨p2, hp2⟩ : ∃ p2, p2 = col p1 0 v.heap.size := ⟨_, rfl⟩
 have hq : ∀ j, j < v.heap.size → p2 j = p1 j := fun j hj => by rw [hp2]; exact col_lt hj
 have hsame : ∀ a, A = some a → a.block < v.heap.size ∧ vd.heap.size ≤ a.block ∧ p2 a.block = 0 := fun a ha => by
  have h1 := h.d.mi.base ha
  exact ⟨h1.2.1, h1.1, by rw [hq _ h1.2.1]; exact h.d.pz a ha⟩
 have hgv : ∀ y ∈ l', Gv p2 vd v' y := fun y hy => (h.d.gv y (hp.mem_iff.1 hy)).only ho (fun j hj hf => by
  obtain ⟨a, ha, rfl⟩ := hf
  exact h.d.ap a ha ⟨y, hp.mem_iff.1 hy, hj⟩) hq
 have hlo := h.b.lo.keep ho (fun j hj hp hf => by obtain ⟨a, ha, rfl⟩ := hf; exact hp (h.d.pz a ha)) hq
 have S : Step p w p2 v' := by
  refine hS.trans ⟨fun j hj => ?_, h.st.on.trans (ho.mono fun j _ hj => ?_)⟩
  ·rw [hq j (by omega)]; exact h.st.eq j hj
  ·obtain ⟨a, ha, rfl⟩ := hj; exact Or.inr (h.d.mi.base ha).1
 have hB : Bt (fun _ => True) 0 0 p2 v' g (expT s now) (left ns M M.length) q c1 := by
  refine ⟨hlo, ?_, h.b.r, h.b.m⟩
  have r1 := h.b.rel
  rw [e1] at r1
  refine ⟨r1.ok, r1.l, r1.nd, r1.lt, r1.le, r1.al, r1.am, r1.tm, r1.tc, fun x => ?_, r1.k, r1.kx⟩
  rw [r1.hm]
  constructor
  ·rintro ⟨m, k1, _, k3⟩; exact ⟨m, k1, trivial, k3⟩
  ·rintro ⟨m, k1, _, k3⟩
   refine ⟨m, k1, ?_, k3⟩
   rw [hd.rest] at k1
   have := (List.mem_filter.1 k1).2
   simpa using this
 refine ⟨nF p2 v', nP p2 w, A, n, l', by rw [hl], hlm, ?_, gave hF S hB⟩
 refine ⟨⟨?_, fun a ha => ⟨(hsame a ha).2.2, by have := (hsame a ha).2.1; omega⟩, fun y hy => ((hgv y hy).back hz).re⟩, fun y hy => El.OwE.wr (hgv y hy).ow, fun a ha hr => ?_⟩
 ·rw [hl]; exact Rs.mine hm
 ·obtain ⟨y, hy, hj⟩ := hr
  exact h.d.ap a ha ⟨y, hp.mem_iff.1 hy, hj⟩
theorem col_of (p : Nat → Nat) (N : Nat) (F : Nat → Prop) : ∃ pd : Nat → Nat, (∀ j, j < N → pd j = p j) ∧ (∀ j, N ≤ j → F j → pd j = 5) ∧ (∀ j, N ≤ j → ¬ F j → pd j = 0) := by
 classical
 exact ⟨fun j => if j < N then p j else if F j then 5 else 0, fun j h => if_pos h, fun j h k => by simp only; rw [if_neg (by omega), if_pos k], fun j h k => by simp only; rw [if_neg (by omega), if_neg k]⟩
theorem exp_start (hB : Bt (fun _ => True) 0 0 p w g s ns q c) {F' : Nat → Prop} (hhp : Ye.Hp F' vd q.gh (c.h.drop (Yc.dueK c.h now))) (hF' : ∀ j, F' j → p j = 5 ∨ w.heap.size ≤ j) (hlt : Ya.Lt vd A0 (c.h.take (Yc.dueK c.h now)) c0)
  (hA0 : ∀ a, A0 = some a → w.heap.size ≤ a.block ∧ a.block < vd.heap.size ∧ ¬ F' a.block) (ho : Only (fun j => p j = 5) w vd) :
  ∃ pd, Step p w pd vd ∧ Exi pd vd g s ns q c.E now (c.h.take (Yc.dueK c.h now)) A0 c0 0 pd vd { c with h := c.h.drop (Yc.dueK c.h now) } none 0 [] := by
 obtain ⟨pd, h1, h2, h3⟩ := col_of p w.heap.size F'
 have hS : Step p w pd vd := ⟨h1, ho.mono fun j _ e => by rw [e]; decide⟩
 have hL := hB.lo.setH h1 hhp ho (fun j hj hf => by
  rcases Nat.lt_or_ge j w.heap.size with h | h
  ·rw [h1 j h]; exact (hF' j hf).resolve_right (by omega)
  ·exact h2 j h hf)
 have hr := (due_of hB.rel hB.lo.hp.srt now).2
 have e : ({ s with l := ns.map (en c.E) } : Sx) = s := by rw [← hB.rel.l]
 refine ⟨pd, hS, Nat.zero_le _, rfl, Evd.nil _ _ _, Step.refl _ _, ?_, hlt, fun a ha => ⟨(hA0 a ha).2.1, h3 _ (hA0 a ha).1 (hA0 a ha).2.2⟩⟩
 rw [left_zero, e]
 exact ⟨hL, hr, hB.r, hB.m⟩
set_option maxRecDepth 100000 in
set_option maxHeartbeats 4000000 in
theorem exp_any (h : St F w g s) (now : Int) (_ : 0 ≤ now ∧ now < 18446744073709551616) : Calls Tryz.prog 31 #[.pointer (some ⟨g, 0, none⟩), .int .u64 now] w (expPost F w g (expT s now) (expG id now s.l)) := by
 obtain ⟨p, ns, q, c, hB, hF⟩ := h.has
 have HU := Lib.hid (Ik.usable_any hB.lo)
 have HDU := Lib.hid (Ye.due_any hB.lo.hp now)
 obtain ⟨hdue, _⟩ := due_of hB.rel hB.lo.hp.srt now
 have HST := Lib.hid (fun vd A0 c0 F' => exp_start (vd := vd) (A0 := A0) (c0 := c0) (now := now) (F' := F') hB)
 obtain ⟨M, hM⟩ : ∃ M, M = c.h.take (Yc.dueK c.h now) := ⟨_, rfl⟩
 rw [← hM] at HDU hdue
 have hml : M.length ≤ 1048576 := by rw [hM, List.length_take]; have := hB.lo.hp.srt.len; omega
 have HFN : Hid (∀ pd vd p1 v c1 A0 c0 A n l (l' : List Em) v', Step p w pd vd → Exi pd vd g s ns q c.E now M A0 c0 M.length p1 v c1 A n l → l'.Perm l → Sorted (l'.map Em.e) → Mine vd.heap.size 6 v' A l.length n (emL l') → Only (fun j => ∃ a, A = some a ∧ a.block = j) v v' → expPost F w g (expT s now) (expG id now s.l) (.returned (.slice A l.length n)) v') :=
  fun pd vd p1 v c1 A0 c0 A n l l' v' h1 h2 h3 h4 h5 h6 => Exi.all hB.rel hdue h2 h3 h4 h5 h6 hF h1
 have HKY : Hid (∀ l : List Em, (l.map Em.e = M.map fun x => en c.E x.1.toNat) → (l.map (·.e.k)).Nodup) := fun l hl => due_keys hB.rel hdue hl
 obtain ⟨P, hP⟩ : ∃ P, P = expPost F w g (expT s now) (expG id now s.l) := ⟨_, rfl⟩
 rw [← hP] at HFN ⊢
 have HDE := Lib.hid hdue
 obtain ⟨_, _, _, _, g4, _⟩ := Ik.Lo.six hB.lo
 have lg := hB.lo.lt
 have HMM := Lib.hid hM
 clear h hB hF hdue hP hM
 go_enter Tryz.func31, Tryz.ntmps31
 go_wp2_with fail
 refine HU.out.mono ?_
 rintro _ w1 ⟨rfl, hw1⟩
 rw [hw1]
 clear hw1
 go_wp2_with fail
 refine HDU.out.mono ?_
 rintro _ vd ⟨F', A0, c0, rfl, hhp, hF', hlt, hA0, ho⟩
 obtain ⟨pd, hS, hX⟩ := HST.out vd A0 c0 F' hhp hF' (by rw [← HMM.out]; exact hlt) hA0 ho
 rw [← HMM.out] at hX
 have HX := Lib.hid hX; have HS := Lib.hid hS
 clear hhp hF' hlt hA0 ho hS hX g4 lg
 go_wp2_with fail
 go_loopw [7, 24] (fun u i wr => ∃ J A' n' p1 c1 l, u = .slice A' J n' ∧ i = .int .i64 (J : Int) ∧ Hid (Exi pd vd g s ns q c.E now M A0 c0 J p1 wr c1 A' n' l)) (fun _ i _ => M.length - (intOf i).toNat)
 case atStart => exact ⟨0, none, 0, pd, _, [], rfl, rfl, HX⟩
 case round =>
  obtain ⟨J, A', n', p1, c1, l, rfl, rfl, EV⟩ := hrel
  have hle := EV.out.le
  by_cases hJ : J < M.length
  ·obtain ⟨m, hmem, hMJ⟩ := HDE.out.at_ hJ
   have i1 : (J : Int) < (M.length : Int) := by omega
   obtain ⟨b, o, hA1, lb, e0, e1⟩ := EV.out.lt.at_ hJ
   rw [hMJ] at e0 e1
   simp only at e0 e1
   obtain ⟨d, hd⟩ : ∃ d, d = (en c.E m).d := ⟨_, rfl⟩
   rw [← hd] at e1 hMJ
   have HMJ := Lib.hid (show M[J].1 = (m : Int) by rw [hMJ])
   subst hA1
   obtain ⟨v1, hv1⟩ : ∃ v1, v1 = wr.alloc (.cells #[.int .i64 (m : Int), .int .u64 d] 116) := ⟨_, rfl⟩
   have HB1 : Hid (Below wr.heap.size wr v1) := by show Below _ _ _; rw [hv1]; exact bnew _ _
   have HX1 := Lib.hid (EV.out.below HB1.out)
   have HTK := Lib.hid (HX1.out.take hJ hmem HMJ.out)
   have HME := Lib.hid hmem
   clear hMJ hd hmem
   go_wp2_with fail
   rw [← hv1]
   clear hv1 e0 e1 lb
   refine HTK.out.mono ?_
   rintro _ v2 ⟨p3, y, c3, rfl, hye, gy, S3, B3⟩
   have HM3 := Lib.hid (((HX1.out.d.step S3).mi).below (bnew v2 (.cells (emA y) 42)) (Nat.le_refl _))
   have HSR := Lib.hid (src_one v2 y)
   unfold emA at HM3 HSR
   have hlJ := HX1.out.len
   have hsz : vd.heap.size ≤ v2.heap.size := Nat.le_trans HX1.out.st.on.size S3.on.size
   rw [hlJ] at HM3
   have HLJ := Lib.hid hlJ
   have HYE := Lib.hid hye; have HGY := Lib.hid gy; have HS3 := Lib.hid S3; have HB3 := Lib.hid B3
   clear hye gy S3 B3 HTK hlJ
   unfold emV
   go_wp2_with (at_builtin; (refine wpList_mine rfl _ _ elE _ rfl rfl HM3.out _ rfl 1 _ HSR.out (by omega) (by omega) (by simp; omega) ?_))
   intro A5 n5 w5 m5 g5' q5
   have HX5 := Lib.hid (HX1.out.next hJ HMJ.out HYE.out HGY.out HS3.out HB3.out (by rw [HLJ.out]; exact m5) g5' q5)
   clear m5 g5' q5
   go_wp2_with fail
   go_roundw
   case rel => exact ⟨J + 1, A5, n5, _, c3, _, rfl, by go_num, HX5⟩
   case measure => simp [intOf]; omega
  ·obtain rfl : J = M.length := by omega
   have hnn : ¬ (M.length : Int) < M.length := by omega
   clear hJ
   have hlJ := EV.out.len
   have HSO := Lib.hid (sort_all (n := M.length) (by rw [← hlJ]; exact EV.out.d.mi) hlJ (by omega) (HKY.out l (by rw [EV.out.m, List.take_length])))
   have HLJ := Lib.hid hlJ
   clear hlJ
   go_wp2_with fail
   refine HSO.out.mono ?_
   rintro _ w2 ⟨rfl, l', h2, h3, h4, h5⟩
   have HF := Lib.hid (HFN.out pd vd p1 wr c1 A0 c0 A' n' l l' w2 HS.out EV.out h2 h3 (by rw [HLJ.out]; exact h4) h5)
   rw [HLJ.out] at HF
   clear h2 h3 h4 h5
   go_wp2_with fail
   exact HF.out
end
end Go.Proofs.YtlmljhnogmfcfaaGreat.Ep
