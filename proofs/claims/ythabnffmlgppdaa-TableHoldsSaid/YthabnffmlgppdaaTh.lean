/- Proves what the method Del of the specification's table returns. Conditions: as the theorem names them. -/
import Derived.Test.YthabnffmlgppdaaTg
import Derived.BigRegion
namespace Go.Proofs.Ythabnffmlgppdaa.Th
open Go.RowKit Ap Mi Nw Rg Hm Tm Tn Ta Tb Tc Td Te Tf
open To (delT)

theorem hole_go {h : Key → Nat} {d : List (Cell Key)} {hx ix z f : Nat} (t : Hole h d hx ix z) (hf : way d.length ix z < f) {k : Key} {x : Nat} (hi : d[ix]? = some (some (k, x))) :
    ∃ f', f = f' + 1 ∧ way d.length (pos d.length ix 1) z < f' ∧ way d.length (pos d.length ix 1) z + 1 = way d.length ix z ∧ (way d.length (h k) hx < way d.length (h k) ix → holeC h f d hx ix = holeC h f' (d.set hx (some (k, x))) ix (pos d.length ix 1)) ∧
      (¬ way d.length (h k) hx < way d.length (h k) ix → holeC h f d hx ix = holeC h f' d hx (pos d.length ix 1)) := by
  have hiz : ix ≠ z := fun e => by rw [e, t.free] at hi; cases hi
  have hl := way_less t.i_lt (lt_of_some t.free) hiz
  have hg : d.getD ix none = some (k, x) := by rw [List.getD_eq_getElem?_getD, hi]; rfl
  refine ⟨f - 1, by omega, by omega, hl, fun hw => ?_, fun hw => ?_⟩
  · obtain ⟨f', rfl⟩ : ∃ f', f = f' + 1 := ⟨f - 1, by omega⟩
    conv => lhs; unfold holeC; rw [hg]
    simp only [if_pos hw, Nat.add_sub_cancel]
  · obtain ⟨f', rfl⟩ : ∃ f', f = f' + 1 := ⟨f - 1, by omega⟩
    conv => lhs; unfold holeC; rw [hg]
    simp only [if_neg hw, Nat.add_sub_cancel]
theorem hole_stop {h : Key → Nat} {d : List (Cell Key)} {hx ix f w : Nat} (hf : w < f) (hi : d[ix]? = some none) : holeC h f d hx ix = d.set hx none := by
  obtain ⟨f', rfl⟩ : ∃ f', f = f' + 1 := ⟨f - 1, by omega⟩
  have hg : d.getD ix none = none := by rw [List.getD_eq_getElem?_getD, hi]; rfl
  unfold holeC
  rw [hg]
/-- The copy while a key is taken out. -/
structure Mid (w1 w : World) (seed : Int) (d : List (Cell Key)) (gX oX gY oY p q b n : Nat) : Prop where
  own : Own w1.heap.size w d (some ⟨gX, oX, none⟩) p (some ⟨gY, oY, none⟩) q
  blk : Blk w b #[.int .u64 seed, .slice (some ⟨gX, oX, none⟩) n p, .slice (some ⟨gY, oY, none⟩) n q] 31
  bel : Below w1.heap.size w1 w
theorem Mid.below {w1 w w' : World} {seed : Int} {d : List (Cell Key)} {gX oX gY oY p q b n B : Nat} (h : Mid w1 w seed d gX oX gY oY p q b n) (hb : Below B w w') (hB : w.heap.size ≤ B) : Mid w1 w' seed d gX oX gY oY p q b n :=
  ⟨h.own.below hb hB, h.blk.below hb (Nat.lt_of_lt_of_le h.blk.lt hB), h.bel.trans (hb.mono (Nat.le_trans h.bel.size hB))⟩
/-- What Del answers, and the cells behind it. -/
def Dels (seed : Int) (c : List (Cell Key)) (k : Key) (c' : List (Cell Key)) (m e : Int) : Prop :=
  (c' = c ∧ m = 0 ∧ Gets c k 0 e ∧ e ≠ 0) ∨ (okK k = true ∧ (∃ i x : Nat, c[i]? = some (some (k, x)) ∧ m = (x : Int) ∧ c' = delT (hom seed) c i) ∧ e = 0)
set_option maxRecDepth 100000 in
set_option maxHeartbeats 4000000 in
theorem rdel_any {w : World} {c : List (Cell Key)} {X Y : Option Addr} {p q : Nat} {seed : Int} (t : Tb w c X p Y q) (g : To.Good (hom seed) c) (hy : Kys c) (hs : U64 seed) (k : Key) (hk : k.length ≤ 1000000) (hn : c.length ≤ 100000) {m e : Int} {c' : List (Cell Key)} (h : Dels seed c k c' m e) :
    Calls Try.prog 18 #[.agg #[.int .u64 seed, .slice X c.length p, .slice Y c.length q], .string ⟨k.toArray⟩] w (tabPost w seed X Y c' fun v => .tuple #[v, .int .i64 m, .int .i64 e]) := by
  unfold tabPost
  obtain ⟨w0, hw0⟩ : ∃ w0, w0 = (w.alloc (.cells #[.int .u64 seed, .slice X c.length p, .slice Y c.length q] 31)).alloc (.cells #[.int .u64 0, .slice none 0 0, .slice none 0 0] 31) := ⟨_, rfl⟩
  have b0 : Below w.heap.size w w0 := by rw [hw0]; exact ((bnew w _).alloc (by simp) _)
  have p1 : Blk w0 w.heap.size #[.int .u64 seed, .slice X c.length p, .slice Y c.length q] 31 := by rw [hw0]; exact (Blk.new w _ _).below (bnew _ _) (by simp)
  have p2 : Blk w0 (w.heap.size + 1) #[.int .u64 0, .slice none 0 0, .slice none 0 0] 31 := by
    have := Blk.new (w.alloc (.cells #[.int .u64 seed, .slice X c.length p, .slice Y c.length q] 31)) #[.int .u64 0, .slice none 0 0, .slice none 0 0] 31
    rw [hw0]; simpa using this
  have h0 := t.below b0 (Nat.le_refl _)
  have hz0 : w.heap.size + 1 < w0.heap.size := p2.lt
  have l0 : w.heap.size < w0.heap.size := by omega
  have HB0 := Lib.hid b0; have P1 := Lib.hid p1; have P2 := Lib.hid p2; have H0 := Lib.hid h0; have HT := Lib.hid t
  have g1 : (c.length : Int) ≤ 100000 := by omega
  obtain ⟨c0, c1, c2, _⟩ := p1.three
  obtain ⟨r0, r1, r2, rf0, rf1, rf2⟩ := p2.three
  clear t b0 p1 p2 h0
  rcases h with ⟨rfl, rfl, hg, he⟩ | ⟨hv, ⟨i, x, hi, rfl, rfl⟩, rfl⟩
  · have GT := Lib.hid (rget_any (seed := seed) H0.out g k hk (by omega) hg)
    have he' : (e != 0) = true := by simpa using he
    clear hg he
    go_enter Try.func18, Try.ntmps18
    go_upto_region 1 with (fail)
    rw [← hw0]
    clear hw0
    go_wp2_with fail
    refine GT.out.mono ?_
    rintro r w1 ⟨rfl, hb⟩
    have P3 := Lib.hid (P1.out.below hb l0); have P4 := Lib.hid (P2.out.below hb hz0)
    have HB1 := Lib.hid (HB0.out.trans (hb.mono (by omega)))
    have H1 := Lib.hid (H0.out.below hb (Nat.le_refl _))
    have hz1 : w.heap.size + 1 < w1.heap.size := P4.out.lt
    have l1 : w.heap.size < w1.heap.size := by omega
    clear hb c0 c1 c2 r0 r1 r2 rf0 rf1 rf2
    obtain ⟨c0, c1, c2, _⟩ := P3.out.three
    obtain ⟨r0, r1, r2, rf0, rf1, rf2⟩ := P4.out.three
    go_wp2_with fail
    obtain ⟨v6, hv6⟩ : ∃ v6, v6 = ((w1.setCell ⟨w.heap.size + 1, 0, none⟩ (.int .u64 seed)).setCell ⟨w.heap.size + 1, 1, none⟩ (.slice X c'.length p)).setCell ⟨w.heap.size + 1, 2, none⟩ (.slice Y c'.length q) := ⟨_, rfl⟩
    have O6 : Only (fun j => j = w.heap.size + 1) w1 v6 := by rw [hv6]; exact (((Only.refl (fun j => j = w.heap.size + 1) w1).put (ad := ⟨w.heap.size + 1, 0, none⟩) rfl _).put (ad := ⟨w.heap.size + 1, 1, none⟩) rfl _).put (ad := ⟨w.heap.size + 1, 2, none⟩) rfl _
    have R6 : Blk v6 (w.heap.size + 1) #[.int .u64 seed, .slice X c'.length p, .slice Y c'.length q] 31 := by
      have h1 := ((P4.out.set 0 (.int .u64 seed)).set 1 (.slice X c'.length p)).set 2 (.slice Y c'.length q)
      rw [hv6]; exact h1
    have E1 : Below w.heap.size w v6 := HB1.out.trans (O6.below (fun j e => by omega) (by omega))
    rw [← hv6]
    clear hv6 O6 r0 r1 r2 rf0 rf1 rf2
    obtain ⟨r0, r1, r2, _⟩ := R6.three
    exact bodyPost_ret (v := .tuple #[.agg #[.int .u64 seed, .slice X c'.length p, .slice Y c'.length q], .int .i64 0, .int .i64 e]) (by simp [results, Try.results18, go_sem, r0, r1, r2]) rfl ⟨_, _, _, _, rfl, HT.out.below E1 (Nat.le_refl _), E1, fun _ h => Or.inl h, fun _ h => Or.inl h⟩
  · have GT := Lib.hid (rget_any (seed := seed) H0.out g k hk (by omega) (Or.inr (Or.inl ⟨hv, ⟨i, x, hi, rfl⟩, rfl⟩)))
    have hl := lt_of_some hi
    go_enter Try.func18, Try.ntmps18
    go_upto_region 1 with (fail)
    rw [← hw0]
    clear hw0
    go_wp2_with fail
    refine GT.out.mono ?_
    rintro r w1 ⟨rfl, hb⟩
    have P3 := Lib.hid (P1.out.below hb l0); have P4 := Lib.hid (P2.out.below hb hz0)
    have HB1 := Lib.hid (HB0.out.trans (hb.mono (by omega)))
    have H1 := Lib.hid (H0.out.below hb (Nat.le_refl _))
    have hz1 : w.heap.size + 1 < w1.heap.size := P4.out.lt
    have l1 : w.heap.size < w1.heap.size := by omega
    clear hb c0 c1 c2 r0 r1 r2 rf0 rf1 rf2
    obtain ⟨c0, c1, c2, _⟩ := P3.out.three
    obtain ⟨r0, r1, r2, rf0, rf1, rf2⟩ := P4.out.three
    go_wp2_with fail
    have CP := Lib.hid (copy_any (seed := seed) H1.out (by omega))
    unfold copyPost at CP
    refine CP.out.mono ?_
    rintro r w2 ⟨X2, p2, Y2, q2, rfl, ho, hb⟩
    have HO := Lib.hid ho; have BB2 := Lib.hid hb
    have P5 := Lib.hid (P3.out.below hb l1); have P6 := Lib.hid (P4.out.below hb hz1)
    have H2 := Lib.hid (H1.out.below hb (Nat.le_refl _))
    have HB2 := Lib.hid (HB1.out.trans (hb.mono (by omega)))
    have hz2 : w1.heap.size ≤ w2.heap.size := hb.size
    clear ho hb CP c0 c1 c2 r0 r1 r2 rf0 rf1 rf2
    obtain ⟨gX, oX, rfl, lX0, lX⟩ := mine_place HO.out.ks (by rw [kc_len]; omega)
    obtain ⟨gY, oY, rfl, lY0, lY⟩ := mine_place HO.out.ns (by rw [nc_len]; omega)
    have hXY : gX ≠ gY := HO.out.ne _ _ rfl rfl
    go_upto_region 5 with (fail)
    obtain ⟨b8, hb8⟩ : ∃ b8, b8 = w2.heap.size := ⟨_, rfl⟩
    obtain ⟨w3, hw3⟩ : ∃ w3, w3 = w2.alloc (.cells #[.int .u64 seed, .slice (some ⟨gX, oX, none⟩) c.length p2, .slice (some ⟨gY, oY, none⟩) c.length q2] 31) := ⟨_, rfl⟩
    have b3 : Below w2.heap.size w2 w3 := by rw [hw3]; exact bnew _ _
    have P8 : Hid (Blk w3 b8 #[.int .u64 seed, .slice (some ⟨gX, oX, none⟩) c.length p2, .slice (some ⟨gY, oY, none⟩) c.length q2] 31) := by show Blk _ _ _ _; rw [hw3, hb8]; exact Blk.new _ _ _
    have HO3 := Lib.hid (HO.out.below b3 (Nat.le_refl _))
    have H3 := Lib.hid (H2.out.below b3 (Nat.le_refl _)); have BB3 := Lib.hid (BB2.out.trans (b3.mono hz2))
    have HB3 := Lib.hid (HB2.out.trans (b3.mono (by omega)))
    have Q5 := Lib.hid (P5.out.below b3 (by have := P5.out.lt; omega)); have Q6 := Lib.hid (P6.out.below b3 (by have := P6.out.lt; omega))
    have hz3 : w2.heap.size ≤ w3.heap.size := b3.size
    have l8 : b8 < w3.heap.size := P8.out.lt
    have e8 : Hid (w2.heap.size ≤ b8) := by show _ ≤ _; omega
    have nX8 : gX ≠ b8 := by omega
    have nY8 : gY ≠ b8 := by omega
    rw [← hw3, ← hb8]
    clear hw3 hb8 b3
    obtain ⟨c0, c1, c2, _⟩ := Q5.out.three
    have l93 : w.heap.size < w3.heap.size := Q5.out.lt
    have FA := Lib.hid (find_any (seed := seed) H3.out k (okK_spec hv).1 (by omega) (fd_there g hi))
    go_wp2_with fail
    refine FA.out.mono ?_
    rintro r w4 ⟨rfl, hb⟩
    have P8a := Lib.hid (P8.out.below hb l8); have Q5a := Lib.hid (Q5.out.below hb (by have := Q5.out.lt; omega)); have Q6a := Lib.hid (Q6.out.below hb (by have := Q6.out.lt; omega))
    have HO4 := Lib.hid (HO3.out.below hb (Nat.le_refl _))
    have H4 := Lib.hid (H3.out.below hb (Nat.le_refl _)); have BB4 := Lib.hid (BB3.out.trans (hb.mono (by omega)))
    have HB4 := Lib.hid (HB3.out.trans (hb.mono (by have := Q6.out.lt; omega)))
    have hz4 : w3.heap.size ≤ w4.heap.size := hb.size
    have l84 : b8 < w4.heap.size := P8a.out.lt
    have l94 : w.heap.size < w4.heap.size := Q5a.out.lt
    clear hb FA c0 c1 c2
    obtain ⟨c0, c1, c2, _⟩ := Q5a.out.three
    have hi1 : (i : Int) < (c.length : Int) := by omega
    have hc0 : 0 < (c.length : Int) := by omega
    have HM : Hid (((i : Int) + 1) % (c.length : Int) = (pos c.length i 1 : Int)) := by show _ = _; rw [← pos_one_mod hl]; exact (Int.natCast_emod _ _).symm
    obtain ⟨z, hz⟩ := List.mem_iff_getElem?.1 g.free
    have HZ := Lib.hid hz
    have hzl := lt_of_some hz
    have hne : i ≠ z := fun e => by rw [e, hz] at hi; cases hi
    have hol := hole_start g.tab hi hz (by have := g.lo; omega)
    have HOL := Lib.hid hol
    have HW0 : Hid (way c.length (pos c.length i 1) z < c.length) := way_lt hol.i_lt hzl
    have HI0 := Lib.hid hi
    have MD0 : Hid (Mid w1 w4 seed c gX oX gY oY p2 q2 b8 c.length) := ⟨HO4.out, P8a.out, BB4.out⟩
    clear hol
    go_wp2_with fail
    go_loopw [10, 11] (fun hq ii wr => ∃ (f hx ix : Nat) (d : List (Cell Key)), hq = .int .i64 (hx : Int) ∧ ii = .int .i64 (ix : Int) ∧ Hid (Hole (hom seed c.length) d hx ix z) ∧ Hid (way c.length ix z < f) ∧ Hid (delC (hom seed c.length) c i = holeC (hom seed c.length) f d hx ix) ∧ Hid (d.length = c.length) ∧ Hid (Kys d) ∧ Mid w1 wr seed d gX oX gY oY p2 q2 b8 c.length) (fun _ ii _ => way c.length (intOf ii).toNat z)
    case atStart => exact ⟨c.length, i, pos c.length i 1, c, rfl, by rw [HM.out], HOL, HW0, rfl, rfl, hy, MD0.out⟩
    case round =>
      obtain ⟨f, hx, ix, d, rfl, rfl, HL, HW, HD, HLen, HKy, hmid⟩ := hrel
      have MD := Lib.hid hmid
      have hixd : ix < d.length := HL.out.i_lt
      have hix : ix < c.length := by rw [← HLen.out]; exact hixd
      have hhx : hx < c.length := by rw [← HLen.out]; exact HL.out.q_lt
      have QT := Lib.hid (P3.out.below hmid.bel l1)
      have hzr : w1.heap.size ≤ wr.heap.size := hmid.bel.size
      have l8r : b8 < wr.heap.size := hmid.blk.lt
      have l9r : w.heap.size < wr.heap.size := QT.out.lt
      clear hmid c0 c1 c2
      obtain ⟨c0, c1, c2, _⟩ := QT.out.three
      obtain ⟨d0, d1, d2, _⟩ := MD.out.blk.three
      obtain ⟨a0, af0⟩ := mine_cell MD.out.own.ks (kc_get hixd)
      have hix1 : (ix : Int) < (c.length : Int) := by omega
      cases e : d[ix] with
      | none =>
        rw [e] at a0
        have a0' : wr.cell? ⟨gX, oX + ix, none⟩ = some (.string ⟨#[]⟩) := a0
        have HE : Hid (d[ix]? = some none) := by show _ = _; rw [List.getElem?_eq_getElem hixd, e]
        have HS := Lib.hid (hole_stop (h := hom seed c.length) (hx := hx) HW.out HE.out)
        have HDD : Hid (delC (hom seed c.length) c i = d.set hx none) := by show _ = _; rw [HD.out, HS.out]
        obtain ⟨x1, x2, x3, x4⟩ := del_tab g.tab HI0.out g.free
        have HT1 := Lib.hid x1; have HT2 := Lib.hid x2; have HT3 := Lib.hid x3; have HT4 := Lib.hid x4
        have hhd : hx < d.length := HL.out.q_lt
        obtain ⟨v0, vf0⟩ := mine_cell MD.out.own.ks (kc_get hhd)
        have lX2 : gX < wr.heap.size := by have := (MD.out.own.ks.base rfl).2.1; simpa using this
        clear a0 af0 e x1 x2 x3 x4
        go_upto_region 15 with (fail)
        obtain ⟨u3, hu3⟩ : ∃ u3, u3 = wr.setCell ⟨gX, oX + hx, none⟩ (.string ⟨#[]⟩) := ⟨_, rfl⟩
        have O3 : Only (fun j => j = gX) wr u3 := by rw [hu3]; exact only_own (F := fun j => j = gX) (g := gX) (i := oX + hx) rfl _
        have N1 : Hid (Mine w1.heap.size 1 u3 (some ⟨gX, oX, none⟩) d.length p2 (kc (d.set hx none))) := by
          show Mine _ _ _ _ _ _ _
          rw [hu3]
          exact mine_put MD.out.own.ks hx (.string ⟨#[]⟩) (by rw [kc_len]; exact hhd) (by unfold kc; rw [List.map_set]; rfl)
        have N2 := Lib.hid (MD.out.own.ns.only O3 (fun a ha e => by injection ha with ha; subst ha; exact hXY e.symm))
        have B8 := Lib.hid (MD.out.blk.only O3 (fun e => nX8 e.symm))
        have BL := Lib.hid (MD.out.bel.trans (O3.below (B := w1.heap.size) (fun j e => by omega) MD.out.bel.size))
        have hz3u : wr.heap.size ≤ u3.heap.size := O3.size
        rw [← hu3]
        clear hu3 O3 d0 d1 d2 v0 vf0 c0 c1 c2 a0'
        obtain ⟨d0, d1, d2, _⟩ := B8.out.three
        obtain ⟨v0, vf0⟩ := mine_cell N2.out (nc_get hhd)
        have lY2 : gY < u3.heap.size := by have := (N2.out.base rfl).2.1; simpa using this
        go_upto_region 16 with (fail)
        obtain ⟨u4, hu4⟩ : ∃ u4, u4 = u3.setCell ⟨gY, oY + hx, none⟩ (.int .i64 0) := ⟨_, rfl⟩
        have O4 : Only (fun j => j = gY) u3 u4 := by rw [hu4]; exact only_own (F := fun j => j = gY) (g := gY) (i := oY + hx) rfl _
        have N4 : Hid (Mine w1.heap.size 1 u4 (some ⟨gY, oY, none⟩) d.length q2 (nc (d.set hx none))) := by
          show Mine _ _ _ _ _ _ _
          rw [hu4]
          exact mine_put N2.out hx (.int .i64 0) (by rw [nc_len]; exact hhd) (by unfold nc; rw [List.map_set]; rfl)
        have M6 : Hid (Mid w1 u4 seed (d.set hx none) gX oX gY oY p2 q2 b8 c.length) := by
          refine ⟨⟨?_, ?_, fun a b ha hb => by injection ha with ha; injection hb with hb; subst ha; subst hb; exact hXY⟩, B8.out.only O4 (fun e => nY8 e.symm), BL.out.trans (O4.below (B := w1.heap.size) (fun j e => by omega) (by omega))⟩
          · rw [List.length_set]; exact N1.out.only O4 (fun a ha e => by injection ha with ha; subst ha; exact hXY e)
          · rw [List.length_set]; exact N4.out
        rw [← hu4]
        clear hu4 O4 d0 d1 d2 v0 vf0
        obtain ⟨dd, hdd⟩ : ∃ dd, dd = d.set hx none := ⟨_, rfl⟩
        rw [← hdd] at M6 HDD
        clear hdd
        rw [HDD.out] at HT1 HT2 HT3 HT4
        have HKD : Hid (Kys dd) := fun kk y hm => hy kk y ((HT4.out kk y).1 hm).2
        have hdl : dd.length = c.length := HT2.out
        have HLD := Lib.hid hdl
        have Q6 := Lib.hid (P3.out.below M6.out.bel l1); have Q7 := Lib.hid (P4.out.below M6.out.bel hz1)
        obtain ⟨d0, d1, d2, _⟩ := M6.out.blk.three
        clear hdl
        by_cases h8 : 8 < c.length
        · have j8 : (8 : Int) < (c.length : Int) := by omega
          have M6d := Lib.hid (M6.out.below ((Below.refl u4.heap.size u4).drew) (Nat.le_refl _))
          have hz4d : u4.heap.size ≤ u4.drew.heap.size := Nat.le_refl _
          have hcl := cnt_le dd
          have hw1 : IntKind.i64.wrap (8 * (cnt dd : Int)) = 8 * (cnt dd : Int) := IntWalk.i64_in _ (by have := HLD.out; omega)
          have TL : Hid (∀ W : World, Tb W dd (some ⟨gX, oX, none⟩) p2 (some ⟨gY, oY, none⟩) q2 → Calls Try.prog 32 #[.agg #[.int .u64 seed, .slice (some ⟨gX, oX, none⟩) c.length p2, .slice (some ⟨gY, oY, none⟩) c.length q2]] W fun e w' => e = .returned (.int .i64 (cnt dd : Int)) ∧ Below W.heap.size W w') := fun W hW => by
            have h1 := tlen_any (seed := seed) hW HKD.out (by have := HLD.out; omega)
            rw [HLD.out] at h1
            exact h1
          refine wp_region_noPanic ?_
          refine wp_region_held_drew (S := fun v => v.cell? ⟨b8, 0, none⟩ = some (.int .u64 seed) ∧ v.cell? ⟨b8, 1, none⟩ = some (.slice (some ⟨gX, oX, none⟩) c.length p2) ∧ v.cell? ⟨b8, 2, none⟩ = some (.slice (some ⟨gY, oY, none⟩) c.length q2)) (by kernel_rfl) (⟨d0, d1, d2⟩) (fun hHeld => ?_)
          generalize u4.drew = u at M6d hz4d hHeld ⊢
          refine wpAnyH_take (i := 0) (oi := ⟨some 89, _, _, _, _, _⟩) (v := ?_) rfl (by kernel_rfl) (by kernel_rfl) (by kernel_rfl) (fun _ _ _ h => h) (Or.inl ⟨by rfl, ?_⟩) (by assumption) ?_
          rotate_left
          · intro w hSw; go_simp; first | done | with_reducible rfl
          try simp only [Act.put, List.setIfInBounds_toArray, List.set_cons_zero, List.set_cons_succ]
          refine wpAnyH_take (i := 1) (oi := ⟨some 90, _, _, _, _, _⟩) (v := ?_) rfl (by kernel_rfl) (by kernel_rfl) (by kernel_rfl) (fun _ _ _ h => h) (Or.inl ⟨by rfl, ?_⟩) (by assumption) ?_
          rotate_left
          · intro w hSw; go_simp; first | done | with_reducible rfl
          try simp only [Act.put, List.setIfInBounds_toArray, List.set_cons_zero, List.set_cons_succ]
          refine wpAnyH_take (i := 2) (oi := ⟨some 91, _, _, _, _, _⟩) (v := ?_) rfl (by kernel_rfl) (by kernel_rfl) (by kernel_rfl) (fun _ _ _ h => h) (Or.inl ⟨by rfl, ?_⟩) (by assumption) ?_
          rotate_left
          · intro w hSw; go_simp; first | done | with_reducible rfl
          try simp only [Act.put, List.setIfInBounds_toArray, List.set_cons_zero, List.set_cons_succ]
          refine wpAnyH_take (i := 3) (oi := ⟨some 92, _, _, _, _, _⟩) (v := ?_) rfl (by kernel_rfl) (by kernel_rfl) (by kernel_rfl) (fun _ _ _ h => h) (Or.inl ⟨by rfl, ?_⟩) (by assumption) ?_
          rotate_left
          · intro w hSw; go_simp; first | done | with_reducible rfl
          try simp only [Act.put, List.setIfInBounds_toArray, List.set_cons_zero, List.set_cons_succ]
          refine wpAnyH_take (i := 4) (oi := ⟨some 93, _, _, _, _, _⟩) (v := ?_) rfl (by kernel_rfl) (by kernel_rfl) (by kernel_rfl) (fun _ _ _ h => h) (Or.inl ⟨by rfl, ?_⟩) (by assumption) ?_
          rotate_left
          · intro w hSw; go_simp; first | done | with_reducible rfl
          try simp only [Act.put, List.setIfInBounds_toArray, List.set_cons_zero, List.set_cons_succ]
          refine wpAnyH_take (i := 5) (oi := ⟨some 94, _, _, _, _, _⟩) (v := ?_) rfl (by kernel_rfl) (by kernel_rfl) (by kernel_rfl) (fun _ _ _ h => h) (Or.inl ⟨by rfl, ?_⟩) (by assumption) ?_
          rotate_left
          · intro w hSw; go_simp; first | done | with_reducible rfl
          try simp only [Act.put, List.setIfInBounds_toArray, List.set_cons_zero, List.set_cons_succ]
          refine wpAnyH_take (i := 8) (oi := ⟨some 97, _, _, _, _, _⟩) (v := ?_) rfl (by kernel_rfl) (by kernel_rfl) (by kernel_rfl) (fun _ _ _ h => h) (Or.inl ⟨by rfl, ?_⟩) (by assumption) ?_
          rotate_left
          · intro w hSw; go_simp; first | done | with_reducible rfl
          try simp only [Act.put, List.setIfInBounds_toArray, List.set_cons_zero, List.set_cons_succ]
          refine wpAnyH_take (i := 9) (oi := ⟨some 98, _, _, _, _, _⟩) (v := ?_) rfl (by kernel_rfl) (by kernel_rfl) (by kernel_rfl) (fun _ _ _ h => h) (Or.inl ⟨by rfl, ?_⟩) (by assumption) ?_
          rotate_left
          · intro w hSw; go_simp; first | done | with_reducible rfl
          try simp only [Act.put, List.setIfInBounds_toArray, List.set_cons_zero, List.set_cons_succ]
          refine wpAnyH_take (i := 10) (oi := ⟨some 99, _, _, _, _, _⟩) (v := ?_) rfl (by kernel_rfl) (by kernel_rfl) (by kernel_rfl) (fun _ _ _ h => h) (Or.inl ⟨by rfl, ?_⟩) (by assumption) ?_
          rotate_left
          · intro w hSw; go_simp; first | done | with_reducible rfl
          try simp only [Act.put, List.setIfInBounds_toArray, List.set_cons_zero, List.set_cons_succ]
          refine wpAnyH_ready (rs := [6]) (by kernel_rfl) (by simp) ?_
          refine AllReadyH.cons (o := ⟨some 95, _, _, _, _, _⟩) rfl (fun K hK => ?_) AllReadyH.nil
          go_simp
          refine (TL.out _ M6d.out.own.tb).mono ?_
          rintro r u6 ⟨rfl, hb⟩
          have M7 := Lib.hid (M6d.out.below hb (Nat.le_refl _))
          have hz6 : u.heap.size ≤ u6.heap.size := hb.size
          clear hb
          go_simp
          refine hK.out _ _ (⟨M7.out.blk.cell 0, M7.out.blk.cell 1, M7.out.blk.cell 2⟩) (fun hHeld => ?_)
          clear hK K
          try simp only [Act.put, List.setIfInBounds_toArray, List.set_cons_zero, List.set_cons_succ]
          refine wpAnyH_take (i := 7) (oi := ⟨some 96, _, _, _, _, _⟩) (v := ?_) rfl (by kernel_rfl) (by kernel_rfl) (by kernel_rfl) (fun _ _ _ h => h) (Or.inl ⟨by rfl, ?_⟩) (by assumption) ?_
          rotate_left
          · intro w hSw; go_simp; first | done | with_reducible rfl
          try simp only [Act.put, List.setIfInBounds_toArray, List.set_cons_zero, List.set_cons_succ]
          refine wpAnyH_take (i := 11) (oi := ⟨some 100, _, _, _, _, _⟩) (v := ?_) rfl (by kernel_rfl) (by kernel_rfl) (by kernel_rfl) (fun _ _ _ h => h) (Or.inl ⟨by rfl, ?_⟩) (by assumption) ?_
          rotate_left
          · intro w hSw; go_simp; first | done | with_reducible rfl
          try simp only [Act.put, List.setIfInBounds_toArray, List.set_cons_zero, List.set_cons_succ]
          refine wpAnyH_take (i := 12) (oi := ⟨some 101, _, _, _, _, _⟩) (v := ?_) rfl (by kernel_rfl) (by kernel_rfl) (by kernel_rfl) (fun _ _ _ h => h) (Or.inl ⟨by rfl, ?_⟩) (by assumption) ?_
          rotate_left
          · intro w hSw; go_simp; first | done | with_reducible rfl
          try simp only [Act.put, List.setIfInBounds_toArray, List.set_cons_zero, List.set_cons_succ]
          refine wpAnyH_done (by kernel_rfl) ?_ _
          refine NoPanic.normal ?_
          clear hHeld d0 d1 d2 hw1
          obtain ⟨d0, d1, d2, df0, df1, df2⟩ := M7.out.blk.three
          have l8u : b8 < u6.heap.size := M7.out.blk.lt
          by_cases h9 : 8 * cnt dd < c.length
          · have j9 : 8 * (cnt dd : Int) < (c.length : Int) := by omega
            have HDT : Hid (delT (hom seed) c i = sizeC (hom seed (c.length / 2)) (c.length / 2) dd) := by
              show _ = _
              unfold delT
              rw [HDD.out, if_pos ⟨h8, h9⟩]
            have RS := Lib.hid (resize_any (seed := seed) M7.out.own.tb HKD.out HT1.out (c.length / 2) (by omega) (by omega) (by omega) hs (by have := HLD.out; omega))
            rw [HLD.out, show ((c.length / 2 : Nat) : Int) = (c.length : Int) / 2 by omega] at RS
            unfold resPost at RS
            obtain ⟨_, a2, _, _⟩ := size_tab HT1.out (hom_lt seed (c.length / 2) (by omega)) (show cnt dd ≤ c.length / 2 by omega)
            have HA2 := Lib.hid a2
            clear h8 h9 a2
            go_wp2_with fail
            refine RS.out.mono ?_
            rintro r u7 ⟨X3, p3, Y3, q3, rfl, ho, hb⟩
            have HO7 := Lib.hid ho
            have B7 := Lib.hid (M7.out.blk.below hb l8u)
            have BL7 := Lib.hid (M7.out.bel.trans (hb.mono M7.out.bel.size))
            have hz7 : u6.heap.size ≤ u7.heap.size := hb.size
            have l87 : b8 < u7.heap.size := B7.out.lt
            have hz16 : w1.heap.size ≤ u6.heap.size := M7.out.bel.size
            clear ho hb RS d0 d1 d2 df0 df1 df2
            obtain ⟨d0, d1, d2, df0, df1, df2⟩ := B7.out.three
            go_upto_region 18 with (fail)
            obtain ⟨u8, hu8⟩ : ∃ u8, u8 = ((u7.setCell ⟨b8, 0, none⟩ (.int .u64 seed)).setCell ⟨b8, 1, none⟩ (.slice X3 (c.length / 2) p3)).setCell ⟨b8, 2, none⟩ (.slice Y3 (c.length / 2) q3) := ⟨_, rfl⟩
            have O8 : Only (fun j => j = b8) u7 u8 := by rw [hu8]; exact (((Only.refl (fun j => j = b8) u7).put (ad := ⟨b8, 0, none⟩) rfl _).put (ad := ⟨b8, 1, none⟩) rfl _).put (ad := ⟨b8, 2, none⟩) rfl _
            have R8 : Hid (Blk u8 b8 #[.int .u64 seed, .slice X3 (c.length / 2) p3, .slice Y3 (c.length / 2) q3] 31) := by
              have h1 := ((B7.out.set 0 (.int .u64 seed)).set 1 (.slice X3 (c.length / 2) p3)).set 2 (.slice Y3 (c.length / 2) q3)
              show Blk _ _ _ _
              rw [hu8]; exact h1
            have HO8 := Lib.hid (HO7.out.only O8 (fun j e => Or.inl (by omega)))
            have e8' : w1.heap.size ≤ b8 := by have := e8.out; omega
            have BL8 : Hid (Below w1.heap.size w1 u8) := BL7.out.trans (O8.below (fun j e => by omega) (by omega))
            have hz8 : u7.heap.size ≤ u8.heap.size := O8.size
            have Q8 := Lib.hid (P4.out.below BL8.out hz1)
            have l88 : b8 < u8.heap.size := R8.out.lt
            have lRu : w.heap.size + 1 < u8.heap.size := Q8.out.lt
            rw [← hu8]
            clear hu8 O8 d0 d1 d2 df0 df1 df2
            obtain ⟨d0, d1, d2, _⟩ := R8.out.three
            obtain ⟨r0, r1, r2, rf0, rf1, rf2⟩ := Q8.out.three
            go_wp2_with fail
            obtain ⟨v6, hv6⟩ : ∃ v6, v6 = ((u8.setCell ⟨w.heap.size + 1, 0, none⟩ (.int .u64 seed)).setCell ⟨w.heap.size + 1, 1, none⟩ (.slice X3 (c.length / 2) p3)).setCell ⟨w.heap.size + 1, 2, none⟩ (.slice Y3 (c.length / 2) q3) := ⟨_, rfl⟩
            have O6 : Only (fun j => j = w.heap.size + 1) u8 v6 := by rw [hv6]; exact (((Only.refl (fun j => j = w.heap.size + 1) u8).put (ad := ⟨w.heap.size + 1, 0, none⟩) rfl _).put (ad := ⟨w.heap.size + 1, 1, none⟩) rfl _).put (ad := ⟨w.heap.size + 1, 2, none⟩) rfl _
            have R6 : Blk v6 (w.heap.size + 1) #[.int .u64 seed, .slice X3 (c.length / 2) p3, .slice Y3 (c.length / 2) q3] 31 := by
              have h1 := ((Q8.out.set 0 (.int .u64 seed)).set 1 (.slice X3 (c.length / 2) p3)).set 2 (.slice Y3 (c.length / 2) q3)
              rw [hv6]; exact h1
            have E1 : Below w.heap.size w v6 := (HB1.out.trans (BL8.out.mono (by omega))).trans (O6.below (fun j e => by omega) (by omega))
            have E2 : Tb v6 (sizeC (hom seed (c.length / 2)) (c.length / 2) dd) X3 p3 Y3 q3 := (HO8.out.only O6 (fun j e => Or.inl (by omega))).tb
            have hlen : (delT (hom seed) c i).length = c.length / 2 := by rw [HDT.out]; exact HA2.out
            have EX : ∀ a, X3 = some a → X = some a ∨ w.heap.size ≤ a.block := fun a ha => Or.inr (by have := (HO8.out.ks.base ha).1; omega)
            have EY : ∀ a, Y3 = some a → Y = some a ∨ w.heap.size ≤ a.block := fun a ha => Or.inr (by have := (HO8.out.ns.base ha).1; omega)
            rw [← hv6]
            clear hv6 O6 r0 r1 r2 rf0 rf1 rf2
            obtain ⟨r0, r1, r2, _⟩ := R6.three
            exact bodyPost_ret (v := .tuple #[.agg #[.int .u64 seed, .slice X3 (c.length / 2) p3, .slice Y3 (c.length / 2) q3], .int .i64 (x : Int), .int .i64 0]) (by simp [results, Try.results18, go_sem, r0, r1, r2]) rfl ⟨X3, p3, Y3, q3, by rw [hlen], by rw [HDT.out]; exact E2, E1, EX, EY⟩
          · have j9 : (c.length : Int) ≤ 8 * (cnt dd : Int) := by omega
            have HDT : Hid (delT (hom seed) c i = dd) := by
              show _ = _
              unfold delT
              rw [HDD.out, if_neg (fun h => h9 h.2)]
            have Q8 := Lib.hid (P4.out.below M7.out.bel hz1)
            have lRu : w.heap.size + 1 < u6.heap.size := Q8.out.lt
            obtain ⟨r0, r1, r2, rf0, rf1, rf2⟩ := Q8.out.three
            clear h8 h9
            go_wp2_with fail
            obtain ⟨v6, hv6⟩ : ∃ v6, v6 = ((u6.setCell ⟨w.heap.size + 1, 0, none⟩ (.int .u64 seed)).setCell ⟨w.heap.size + 1, 1, none⟩ (.slice (some ⟨gX, oX, none⟩) c.length p2)).setCell ⟨w.heap.size + 1, 2, none⟩ (.slice (some ⟨gY, oY, none⟩) c.length q2) := ⟨_, rfl⟩
            have O6 : Only (fun j => j = w.heap.size + 1) u6 v6 := by rw [hv6]; exact (((Only.refl (fun j => j = w.heap.size + 1) u6).put (ad := ⟨w.heap.size + 1, 0, none⟩) rfl _).put (ad := ⟨w.heap.size + 1, 1, none⟩) rfl _).put (ad := ⟨w.heap.size + 1, 2, none⟩) rfl _
            have R6 : Blk v6 (w.heap.size + 1) #[.int .u64 seed, .slice (some ⟨gX, oX, none⟩) c.length p2, .slice (some ⟨gY, oY, none⟩) c.length q2] 31 := by
              have h1 := ((Q8.out.set 0 (.int .u64 seed)).set 1 (.slice (some ⟨gX, oX, none⟩) c.length p2)).set 2 (.slice (some ⟨gY, oY, none⟩) c.length q2)
              rw [hv6]; exact h1
            have E1 : Below w.heap.size w v6 := (HB1.out.trans (M7.out.bel.mono (by omega))).trans (O6.below (fun j e => by omega) (by omega))
            have E2 : Tb v6 dd (some ⟨gX, oX, none⟩) p2 (some ⟨gY, oY, none⟩) q2 := (M7.out.own.only O6 (fun j e => Or.inl (by omega))).tb
            have hlen : (delT (hom seed) c i).length = c.length := by rw [HDT.out]; exact HLD.out
            rw [← hv6]
            clear hv6 O6 r0 r1 r2 rf0 rf1 rf2
            obtain ⟨r0, r1, r2, _⟩ := R6.three
            exact bodyPost_ret (v := .tuple #[.agg #[.int .u64 seed, .slice (some ⟨gX, oX, none⟩) c.length p2, .slice (some ⟨gY, oY, none⟩) c.length q2], .int .i64 (x : Int), .int .i64 0]) (by simp [results, Try.results18, go_sem, r0, r1, r2]) rfl ⟨_, _, _, _, by rw [hlen], by rw [HDT.out]; exact E2, E1, fun a ha => Or.inr (by injection ha with ha; subst ha; simp only; omega), fun a ha => Or.inr (by injection ha with ha; subst ha; simp only; omega)⟩
        · have j8 : decide ((8 : Int) < (c.length : Int)) = false := by rw [decide_eq_false_iff_not]; omega
          have HDT : Hid (delT (hom seed) c i = dd) := by show _ = _; unfold delT; rw [if_neg (fun h => h8 h.1), HDD.out]
          clear h8
          go_quiet (fail)
          have M7 := Lib.hid (M6.out.below (((Only.refl (fun _ => False) u4).drewN nq).below (B := u4.heap.size) (fun _ hf => hf.elim) (Nat.le_refl _)) (Nat.le_refl _))
          have Q8 := Lib.hid (P4.out.below M7.out.bel hz1)
          obtain ⟨u5, hu5⟩ : ∃ u5, u5 = u4.drewN nq := ⟨_, rfl⟩
          rw [← hu5] at M7 Q8
          rw [← hu5]
          clear hu5 d0 d1 d2
          obtain ⟨d0, d1, d2, _⟩ := M7.out.blk.three
          obtain ⟨r0, r1, r2, rf0, rf1, rf2⟩ := Q8.out.three
          have l8u : b8 < u5.heap.size := M7.out.blk.lt
          have lRu : w.heap.size + 1 < u5.heap.size := Q8.out.lt
          go_wp2_with fail
          obtain ⟨v6, hv6⟩ : ∃ v6, v6 = ((u5.setCell ⟨w.heap.size + 1, 0, none⟩ (.int .u64 seed)).setCell ⟨w.heap.size + 1, 1, none⟩ (.slice (some ⟨gX, oX, none⟩) c.length p2)).setCell ⟨w.heap.size + 1, 2, none⟩ (.slice (some ⟨gY, oY, none⟩) c.length q2) := ⟨_, rfl⟩
          have O6 : Only (fun j => j = w.heap.size + 1) u5 v6 := by rw [hv6]; exact (((Only.refl (fun j => j = w.heap.size + 1) u5).put (ad := ⟨w.heap.size + 1, 0, none⟩) rfl _).put (ad := ⟨w.heap.size + 1, 1, none⟩) rfl _).put (ad := ⟨w.heap.size + 1, 2, none⟩) rfl _
          have R6 : Blk v6 (w.heap.size + 1) #[.int .u64 seed, .slice (some ⟨gX, oX, none⟩) c.length p2, .slice (some ⟨gY, oY, none⟩) c.length q2] 31 := by
            have h1 := ((Q8.out.set 0 (.int .u64 seed)).set 1 (.slice (some ⟨gX, oX, none⟩) c.length p2)).set 2 (.slice (some ⟨gY, oY, none⟩) c.length q2)
            rw [hv6]; exact h1
          have E1 : Below w.heap.size w v6 := (HB1.out.trans (M7.out.bel.mono (by omega))).trans (O6.below (fun j e => by omega) (by omega))
          have E2 : Tb v6 dd (some ⟨gX, oX, none⟩) p2 (some ⟨gY, oY, none⟩) q2 := (M7.out.own.only O6 (fun j e => Or.inl (by omega))).tb
          have hlen : (delT (hom seed) c i).length = c.length := by rw [HDT.out]; exact HLD.out
          rw [← hv6]
          clear hv6 O6 r0 r1 r2 rf0 rf1 rf2
          obtain ⟨r0, r1, r2, _⟩ := R6.three
          exact bodyPost_ret (v := .tuple #[.agg #[.int .u64 seed, .slice (some ⟨gX, oX, none⟩) c.length p2, .slice (some ⟨gY, oY, none⟩) c.length q2], .int .i64 (x : Int), .int .i64 0]) (by simp [results, Try.results18, go_sem, r0, r1, r2]) rfl ⟨_, _, _, _, by rw [hlen], by rw [HDT.out]; exact E2, E1, fun a ha => Or.inr (by injection ha with ha; subst ha; simp only; omega), fun a ha => Or.inr (by injection ha with ha; subst ha; simp only; omega)⟩
      | some ky =>
        obtain ⟨k', x'⟩ := ky
        have HE : Hid (d[ix]? = some (some (k', x'))) := by show _ = _; rw [List.getElem?_eq_getElem hixd, e]
        rw [e] at a0
        obtain ⟨hk1, hk2, _⟩ := HKy.out k' x' (by rw [← e]; exact List.getElem_mem hixd)
        have hbe : List.isEmpty k' = false := by cases k' with
          | nil => simp at hk1
          | cons _ _ => rfl
        have a0' : wr.cell? ⟨gX, oX + ix, none⟩ = some (.string ⟨k'.toArray⟩) := a0
        obtain ⟨hm, hhm⟩ : ∃ hm, hm = hom seed c.length k' := ⟨_, rfl⟩
        have hml : hm < c.length := by rw [hhm]; exact hom_lt seed _ (by omega) k'
        have HHM := Lib.hid hhm
        clear a0 af0 e hhm
        go_upto_region 9 with (fail)
        have Md := Lib.hid (MD.out.below ((Below.refl wr.heap.size wr).drew) (Nat.le_refl _))
        have Qd := Lib.hid (show Blk wr.drew w.heap.size _ _ from QT.out)
        have hzd : wr.heap.size ≤ wr.drew.heap.size := Nat.le_refl _
        have hdk : Hid ((kc d)[ix]? = some (.string ⟨k'.toArray⟩)) := by show _ = _; unfold kc; rw [List.getElem?_map, HE.out]; rfl
        refine wp_region_noPanic ?_
        refine wp_region_held_drew (S := fun v => v.cell? ⟨w.heap.size, 0, none⟩ = some (.int .u64 seed) ∧ v.cell? ⟨w.heap.size, 1, none⟩ = some (.slice X c.length p) ∧ v.cell? ⟨w.heap.size, 2, none⟩ = some (.slice Y c.length q) ∧ v.cell? ⟨b8, 1, none⟩ = some (.slice (some ⟨gX, oX, none⟩) c.length p2) ∧ v.cell? ⟨gX, oX + ix, none⟩ = some (.string ⟨k'.toArray⟩)) (by kernel_rfl) (⟨c0, c1, c2, d1, a0'⟩) (fun hHeld => ?_)
        generalize wr.drew = u at Md Qd hzd hHeld ⊢
        refine wpAnyH_take (i := 0) (oi := ⟨some 46, _, _, _, _, _⟩) (v := ?_) rfl (by kernel_rfl) (by kernel_rfl) (by kernel_rfl) (fun _ _ _ h => h) (Or.inl ⟨by rfl, ?_⟩) (by assumption) ?_
        rotate_left
        · intro w hSw; go_simp; first | done | with_reducible rfl
        try simp only [Act.put, List.setIfInBounds_toArray, List.set_cons_zero, List.set_cons_succ]
        refine wpAnyH_take (i := 1) (oi := ⟨some 47, _, _, _, _, _⟩) (v := ?_) rfl (by kernel_rfl) (by kernel_rfl) (by kernel_rfl) (fun _ _ _ h => h) (Or.inl ⟨by rfl, ?_⟩) (by assumption) ?_
        rotate_left
        · intro w hSw; go_simp; first | done | with_reducible rfl
        try simp only [Act.put, List.setIfInBounds_toArray, List.set_cons_zero, List.set_cons_succ]
        refine wpAnyH_take (i := 2) (oi := ⟨some 48, _, _, _, _, _⟩) (v := ?_) rfl (by kernel_rfl) (by kernel_rfl) (by kernel_rfl) (fun _ _ _ h => h) (Or.inl ⟨by rfl, ?_⟩) (by assumption) ?_
        rotate_left
        · intro w hSw; go_simp; first | done | with_reducible rfl
        try simp only [Act.put, List.setIfInBounds_toArray, List.set_cons_zero, List.set_cons_succ]
        refine wpAnyH_take (i := 3) (oi := ⟨some 49, _, _, _, _, _⟩) (v := ?_) rfl (by kernel_rfl) (by kernel_rfl) (by kernel_rfl) (fun _ _ _ h => h) (Or.inl ⟨by rfl, ?_⟩) (by assumption) ?_
        rotate_left
        · intro w hSw; go_simp; first | done | with_reducible rfl
        try simp only [Act.put, List.setIfInBounds_toArray, List.set_cons_zero, List.set_cons_succ]
        refine wpAnyH_take (i := 4) (oi := ⟨some 50, _, _, _, _, _⟩) (v := ?_) rfl (by kernel_rfl) (by kernel_rfl) (by kernel_rfl) (fun _ _ _ h => h) (Or.inl ⟨by rfl, ?_⟩) (by assumption) ?_
        rotate_left
        · intro w hSw; go_simp; first | done | with_reducible rfl
        try simp only [Act.put, List.setIfInBounds_toArray, List.set_cons_zero, List.set_cons_succ]
        refine wpAnyH_take (i := 5) (oi := ⟨some 51, _, _, _, _, _⟩) (v := ?_) rfl (by kernel_rfl) (by kernel_rfl) (by kernel_rfl) (fun _ _ _ h => h) (Or.inl ⟨by rfl, ?_⟩) (by assumption) ?_
        rotate_left
        · intro w hSw; go_simp; first | done | with_reducible rfl
        try simp only [Act.put, List.setIfInBounds_toArray, List.set_cons_zero, List.set_cons_succ]
        refine wpAnyH_ready (rs := [6]) (by kernel_rfl) (by simp) ?_
        refine AllReadyH.cons (o := ⟨some 52, _, _, _, _, _⟩) rfl (fun K hK => ?_) AllReadyH.nil
        go_simp
        refine (home_any (w := u) (seed := seed) (X := X) (Y := Y) (p := p) (q := q) (n := c.length) k' (by omega) hs (by omega) (by omega)).mono ?_
        rw [← HHM.out]
        rintro r u2 ⟨rfl, hb⟩
        have M2 := Lib.hid (Md.out.below hb (Nat.le_refl _)); have Q2 := Lib.hid (Qd.out.below hb Qd.out.lt)
        have hzu : u.heap.size ≤ u2.heap.size := hb.size
        clear hb
        go_simp
        refine hK.out _ _ (⟨Q2.out.cell 0, Q2.out.cell 1, Q2.out.cell 2, M2.out.blk.cell 1, (mine_cell M2.out.own.ks hdk.out).1⟩) (fun hHeld => ?_)
        clear hK K
        try simp only [Act.put, List.setIfInBounds_toArray, List.set_cons_zero, List.set_cons_succ]
        refine wpAnyH_take (i := 7) (oi := ⟨some 12, _, _, _, _, _⟩) (v := ?_) rfl (by kernel_rfl) (by kernel_rfl) (by kernel_rfl) (fun _ _ _ h => h) (Or.inl ⟨by rfl, ?_⟩) (by assumption) ?_
        rotate_left
        · intro w hSw; go_simp; first | done | with_reducible rfl
        try simp only [Act.put, List.setIfInBounds_toArray, List.set_cons_zero, List.set_cons_succ]
        refine wpAnyH_done (by kernel_rfl) ?_ _
        refine NoPanic.normal ?_
        clear c0 c1 c2 d0 d1 d2 a0' hHeld
        obtain ⟨c0, c1, c2, _⟩ := Q2.out.three
        go_upto_region 10 with (fail)
        have Me := Lib.hid (M2.out.below ((Below.refl u2.heap.size u2).drew) (Nat.le_refl _))
        have Qe := Lib.hid (show Blk u2.drew w.heap.size _ _ from Q2.out)
        have hze : u2.heap.size ≤ u2.drew.heap.size := Nat.le_refl _
        refine wp_region_noPanic ?_
        refine wp_region_held_drew (S := fun v => v.cell? ⟨w.heap.size, 0, none⟩ = some (.int .u64 seed) ∧ v.cell? ⟨w.heap.size, 1, none⟩ = some (.slice X c.length p) ∧ v.cell? ⟨w.heap.size, 2, none⟩ = some (.slice Y c.length q)) (by kernel_rfl) (⟨c0, c1, c2⟩) (fun hHeld => ?_)
        generalize u2.drew = t0 at Me Qe hze hHeld ⊢
        refine wpAnyH_take (i := 0) (oi := ⟨some 53, _, _, _, _, _⟩) (v := ?_) rfl (by kernel_rfl) (by kernel_rfl) (by kernel_rfl) (fun _ _ _ h => h) (Or.inl ⟨by rfl, ?_⟩) (by assumption) ?_
        rotate_left
        · intro w hSw; go_simp; first | done | with_reducible rfl
        try simp only [Act.put, List.setIfInBounds_toArray, List.set_cons_zero, List.set_cons_succ]
        refine wpAnyH_take (i := 1) (oi := ⟨some 54, _, _, _, _, _⟩) (v := ?_) rfl (by kernel_rfl) (by kernel_rfl) (by kernel_rfl) (fun _ _ _ h => h) (Or.inl ⟨by rfl, ?_⟩) (by assumption) ?_
        rotate_left
        · intro w hSw; go_simp; first | done | with_reducible rfl
        try simp only [Act.put, List.setIfInBounds_toArray, List.set_cons_zero, List.set_cons_succ]
        refine wpAnyH_take (i := 2) (oi := ⟨some 55, _, _, _, _, _⟩) (v := ?_) rfl (by kernel_rfl) (by kernel_rfl) (by kernel_rfl) (fun _ _ _ h => h) (Or.inl ⟨by rfl, ?_⟩) (by assumption) ?_
        rotate_left
        · intro w hSw; go_simp; first | done | with_reducible rfl
        try simp only [Act.put, List.setIfInBounds_toArray, List.set_cons_zero, List.set_cons_succ]
        refine wpAnyH_take (i := 4) (oi := ⟨some 57, _, _, _, _, _⟩) (v := ?_) rfl (by kernel_rfl) (by kernel_rfl) (by kernel_rfl) (fun _ _ _ h => h) (Or.inl ⟨by rfl, ?_⟩) (by assumption) ?_
        rotate_left
        · intro w hSw; go_simp; first | done | with_reducible rfl
        try simp only [Act.put, List.setIfInBounds_toArray, List.set_cons_zero, List.set_cons_succ]
        refine wpAnyH_take (i := 5) (oi := ⟨some 58, _, _, _, _, _⟩) (v := ?_) rfl (by kernel_rfl) (by kernel_rfl) (by kernel_rfl) (fun _ _ _ h => h) (Or.inl ⟨by rfl, ?_⟩) (by assumption) ?_
        rotate_left
        · intro w hSw; go_simp; first | done | with_reducible rfl
        try simp only [Act.put, List.setIfInBounds_toArray, List.set_cons_zero, List.set_cons_succ]
        refine wpAnyH_take (i := 6) (oi := ⟨some 59, _, _, _, _, _⟩) (v := ?_) rfl (by kernel_rfl) (by kernel_rfl) (by kernel_rfl) (fun _ _ _ h => h) (Or.inl ⟨by rfl, ?_⟩) (by assumption) ?_
        rotate_left
        · intro w hSw; go_simp; first | done | with_reducible rfl
        try simp only [Act.put, List.setIfInBounds_toArray, List.set_cons_zero, List.set_cons_succ]
        refine wpAnyH_ready (rs := [3]) (by kernel_rfl) (by simp) ?_
        refine AllReadyH.cons (o := ⟨some 56, _, _, _, _, _⟩) rfl (fun K hK => ?_) AllReadyH.nil
        go_simp
        refine (way_any (w := t0) (seed := seed) (X := X) (Y := Y) (p := p) (q := q) (n := c.length) hm hx hml hhx (by omega)).mono ?_
        rintro r t1 ⟨rfl, hb⟩
        have M3 := Lib.hid (Me.out.below hb (Nat.le_refl _)); have Q3 := Lib.hid (Qe.out.below hb Qe.out.lt)
        have hzt : t0.heap.size ≤ t1.heap.size := hb.size
        clear hb
        go_simp
        refine hK.out _ _ (⟨Q3.out.cell 0, Q3.out.cell 1, Q3.out.cell 2⟩) (fun hHeld => ?_)
        clear hK K
        try simp only [Act.put, List.setIfInBounds_toArray, List.set_cons_zero, List.set_cons_succ]
        refine wpAnyH_ready (rs := [7]) (by kernel_rfl) (by simp) ?_
        refine AllReadyH.cons (o := ⟨some 60, _, _, _, _, _⟩) rfl (fun K hK => ?_) AllReadyH.nil
        go_simp
        refine (way_any (w := t1) (seed := seed) (X := X) (Y := Y) (p := p) (q := q) (n := c.length) hm ix hml hix (by omega)).mono ?_
        rintro r t2 ⟨rfl, hb⟩
        have M4 := Lib.hid (M3.out.below hb (Nat.le_refl _)); have Q4 := Lib.hid (Q3.out.below hb Q3.out.lt)
        have hzt2 : t1.heap.size ≤ t2.heap.size := hb.size
        clear hb
        go_simp
        refine hK.out _ _ (⟨Q4.out.cell 0, Q4.out.cell 1, Q4.out.cell 2⟩) (fun hHeld => ?_)
        clear hK K
        try simp only [Act.put, List.setIfInBounds_toArray, List.set_cons_zero, List.set_cons_succ]
        refine wpAnyH_take (i := 8) (oi := ⟨some 61, _, _, _, _, _⟩) (v := ?_) rfl (by kernel_rfl) (by kernel_rfl) (by kernel_rfl) (fun _ _ _ h => h) (Or.inl ⟨by rfl, ?_⟩) (by assumption) ?_
        rotate_left
        · intro w hSw; go_simp; first | done | with_reducible rfl
        try simp only [Act.put, List.setIfInBounds_toArray, List.set_cons_zero, List.set_cons_succ]
        refine wpAnyH_done (by kernel_rfl) ?_ _
        refine NoPanic.normal ?_
        clear c0 c1 c2 hHeld
        by_cases hw : way c.length hm hx < way c.length hm ix
        · have j2 : (way c.length hm hx : Int) < (way c.length hm ix : Int) := by omega
          obtain ⟨d0, d1, d2, _⟩ := M4.out.blk.three
          obtain ⟨a0, af0⟩ := mine_cell M4.out.own.ks hdk.out
          obtain ⟨v0, vf0⟩ := mine_cell M4.out.own.ks (kc_get HL.out.q_lt)
          go_upto_region 11 with (fail)
          have lX2 : gX < t2.heap.size := by have := (M4.out.own.ks.base rfl).2.1; simpa using this
          go_region
          go_upto_region 12 with (fail)
          obtain ⟨u3, hu3⟩ : ∃ u3, u3 = (t2.setCell ⟨gX, oX + hx, none⟩ (.string ⟨k'.toArray⟩)).drew := ⟨_, rfl⟩
          have hhd : hx < d.length := HL.out.q_lt
          have O3 : Only (fun j => j = gX) t2 u3 := by rw [hu3]; exact (only_own (F := fun j => j = gX) (g := gX) (i := oX + hx) rfl _).drew
          have N1 : Hid (Mine w1.heap.size 1 u3 (some ⟨gX, oX, none⟩) d.length p2 (kc (d.set hx (some (k', x'))))) := by
            show Mine _ _ _ _ _ _ _
            rw [hu3]
            exact mine_drew (mine_put M4.out.own.ks hx (sV k') (by rw [kc_len]; exact hhd) (kc_set d hx k' x'))
          have N2 := Lib.hid (M4.out.own.ns.only O3 (fun a ha e => by injection ha with ha; subst ha; exact hXY e.symm))
          have B8 := Lib.hid (M4.out.blk.only O3 (fun e => nX8 e.symm))
          have BL := Lib.hid (M4.out.bel.trans (O3.below (B := w1.heap.size) (fun j e => by omega) M4.out.bel.size))
          have hz3u : t2.heap.size ≤ u3.heap.size := O3.size
          rw [← hu3]
          clear hu3 O3 d0 d1 d2 a0 af0 v0 vf0
          have hdn : Hid ((nc d)[ix]? = some (.int .i64 (x' : Int))) := by show _ = _; unfold nc; rw [List.getElem?_map, HE.out]; rfl
          obtain ⟨d0, d1, d2, _⟩ := B8.out.three
          obtain ⟨a0, af0⟩ := mine_cell N2.out hdn.out
          obtain ⟨v0, vf0⟩ := mine_cell N2.out (nc_get hhd)
          have lY2 : gY < u3.heap.size := by have := (N2.out.base rfl).2.1; simpa using this
          go_region
          go_upto_region 13 with (fail)
          obtain ⟨u4, hu4⟩ : ∃ u4, u4 = (u3.setCell ⟨gY, oY + hx, none⟩ (.int .i64 (x' : Int))).drew := ⟨_, rfl⟩
          have O4 : Only (fun j => j = gY) u3 u4 := by rw [hu4]; exact (only_own (F := fun j => j = gY) (g := gY) (i := oY + hx) rfl _).drew
          have N4 : Hid (Mine w1.heap.size 1 u4 (some ⟨gY, oY, none⟩) d.length q2 (nc (d.set hx (some (k', x'))))) := by
            show Mine _ _ _ _ _ _ _
            rw [hu4]
            exact mine_drew (mine_put N2.out hx (.int .i64 (x' : Int)) (by rw [nc_len]; exact hhd) (nc_set d hx k' x'))
          have M6 : Hid (Mid w1 u4 seed (d.set hx (some (k', x'))) gX oX gY oY p2 q2 b8 c.length) := by
            refine ⟨⟨?_, ?_, fun a b ha hb => by injection ha with ha; injection hb with hb; subst ha; subst hb; exact hXY⟩, B8.out.only O4 (fun e => nY8 e.symm), BL.out.trans (O4.below (B := w1.heap.size) (fun j e => by omega) (by omega))⟩
            · rw [List.length_set]; exact N1.out.only O4 (fun a ha e => by injection ha with ha; subst ha; exact hXY e)
            · rw [List.length_set]; exact N4.out
          rw [← hu4]
          clear hu4 O4 d0 d1 d2 a0 af0 v0 vf0
          obtain ⟨f', rfl, s1, s2, s3, _⟩ := hole_go HL.out (by rw [HLen.out]; exact HW.out) HE.out
          obtain ⟨m1, _, _⟩ := hole_move HL.out HE.out (by rw [HLen.out, ← HHM.out]; exact hw)
          have s5 := s3 (by rw [HLen.out, ← HHM.out]; exact hw)
          rw [HLen.out] at s1 s2 s5 m1
          have S1 := Lib.hid s1; have S2 := Lib.hid s2; have S5 := Lib.hid s5; have SM := Lib.hid m1
          have HS : Hid (((ix : Int) + 1) % (c.length : Int) = (pos c.length ix 1 : Int)) := by show _ = _; rw [← pos_one_mod hix]; exact (Int.natCast_emod _ _).symm
          have Q6 := Lib.hid (P3.out.below M6.out.bel l1)
          have l9t : w.heap.size < u4.heap.size := Q6.out.lt
          obtain ⟨c0, c1, c2, _⟩ := Q6.out.three
          have HK2 : Hid (Kys (d.set hx (some (k', x')))) := fun kk y hm => by
            rcases List.mem_or_eq_of_mem_set hm with h1 | h1
            · exact HKy.out kk y h1
            · simp only [Option.some.injEq, Prod.mk.injEq] at h1
              rw [h1.1, h1.2]
              exact HKy.out k' x' (List.mem_of_getElem? HE.out)
          clear hw s1 s2 s3 s5 m1
          go_wp2_with fail
          rw [HS.out]
          go_roundw
          case rel => exact ⟨f', ix, pos c.length ix 1, d.set hx (some (k', x')), rfl, rfl, SM, S1, by show _ = _; rw [HD.out, S5.out], by show _ = _; rw [List.length_set]; exact HLen.out, HK2, M6.out⟩
          case measure =>
            have h2 := S2.out
            simp only [intOf, Int.toNat_natCast]; omega
        · have j2 : (way c.length hm ix : Int) ≤ (way c.length hm hx : Int) := by omega
          obtain ⟨c0, c1, c2, _⟩ := Q4.out.three
          have l9t : w.heap.size < t2.heap.size := Q4.out.lt
          have HS : Hid (((ix : Int) + 1) % (c.length : Int) = (pos c.length ix 1 : Int)) := by show _ = _; rw [← pos_one_mod hix]; exact (Int.natCast_emod _ _).symm
          obtain ⟨f', rfl, s1, s2, _, s4⟩ := hole_go HL.out (by rw [HLen.out]; exact HW.out) HE.out
          have hsk := hole_skip HL.out HE.out (by rw [HLen.out, ← HHM.out]; exact hw)
          have s5 := s4 (by rw [HLen.out, ← HHM.out]; exact hw)
          rw [HLen.out] at s1 s2 s5 hsk
          have S1 := Lib.hid s1; have S2 := Lib.hid s2; have S5 := Lib.hid s5; have SK := Lib.hid hsk
          clear hw s1 s2 s4 s5 hsk
          go_wp2_with fail
          rw [HS.out]
          go_roundw
          case rel => exact ⟨f', hx, pos c.length ix 1, d, rfl, rfl, SK, S1, by show _ = _; rw [HD.out, S5.out], HLen, HKy, M4.out⟩
          case measure =>
            have h2 := S2.out
            simp only [intOf, Int.toNat_natCast]; omega
end Go.Proofs.Ythabnffmlgppdaa.Th
