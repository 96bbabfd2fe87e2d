/- Proves what the method Set of the specification's table returns. Conditions: as the theorem names them. -/
import Derived.Test.YthabnffmlgppdaaTf
namespace Go.Proofs.Ythabnffmlgppdaa.Tg
open Go.RowKit Ap Mi Nw Rg Hm Tm Tn Ta Tb Tc Td Te Tf

/-- What Set answers, and the cells behind it. -/
def Sets (c : List (Cell Key)) (k : Key) (n : Int) (c' : List (Cell Key)) (m e : Int) : Prop :=
  ((okK k = false ∨ n < 0) ∧ c' = c ∧ m = 0 ∧ e = 2) ∨ (okK k = true ∧ 0 ≤ n ∧ (∀ y, some (k, y) ∉ c) ∧ c' = c ∧ m = 0 ∧ e = 9) ∨ (okK k = true ∧ (∃ (i x y : Nat), c[i]? = some (some (k, y)) ∧ n = (x : Int) ∧ m = (y : Int) ∧ c' = c.set i (some (k, x))) ∧ e = 0)
set_option maxRecDepth 100000 in
set_option maxHeartbeats 2000000 in
theorem rset_any {w : World} {c : List (Cell Key)} {X Y : Option Addr} {p q : Nat} {seed : Int} {H : Nat → Key → Nat} (t : Tb w c X p Y q) (g : To.Good H c) (k : Key) (hk : k.length ≤ 1000000) (hn : c.length ≤ 1000000) {n m e : Int} {c' : List (Cell Key)} (h : Sets c k n c' m e) :
    Calls Try.prog 30 #[.agg #[.int .u64 seed, .slice X c.length p, .slice Y c.length q], .string ⟨k.toArray⟩, .int .i64 n] w (tabPost w seed X Y c' fun v => .tuple #[v, .int .i64 m, .int .i64 e]) := by
  unfold tabPost
  obtain ⟨w0, hw0⟩ : ∃ w0, w0 = (w.alloc (.cells #[.int .u64 seed, .slice X c.length p, .slice Y c.length q] 31)).alloc (.cells #[.int .u64 0, .slice none 0 0, .slice none 0 0] 31) := ⟨_, rfl⟩
  have b0 : Below w.heap.size w w0 := by rw [hw0]; exact ((bnew w _).alloc (by simp) _)
  have p1 : Blk w0 w.heap.size #[.int .u64 seed, .slice X c.length p, .slice Y c.length q] 31 := by rw [hw0]; exact (Blk.new w _ _).below (bnew _ _) (by simp)
  have p2 : Blk w0 (w.heap.size + 1) #[.int .u64 0, .slice none 0 0, .slice none 0 0] 31 := by
    have := Blk.new (w.alloc (.cells #[.int .u64 seed, .slice X c.length p, .slice Y c.length q] 31)) #[.int .u64 0, .slice none 0 0, .slice none 0 0] 31
    rw [hw0]; simpa using this
  have h0 := t.below b0 (Nat.le_refl _)
  have hz0 : w.heap.size + 1 < w0.heap.size := p2.lt
  have l0 : w.heap.size < w0.heap.size := by omega
  have HB0 := Lib.hid b0; have P1 := Lib.hid p1; have P2 := Lib.hid p2; have H0 := Lib.hid h0; have HT := Lib.hid t
  have HV := Lib.hid (rok_any k w0 (by omega))
  have g1 : (c.length : Int) ≤ 1000000 := by omega
  obtain ⟨c0, c1, c2, _⟩ := p1.three
  obtain ⟨r0, r1, r2, rf0, rf1, rf2⟩ := p2.three
  clear t b0 p1 p2 h0
  rcases h with ⟨hv, rfl, rfl, rfl⟩ | ⟨hv, hn0, hno, rfl, rfl, rfl⟩ | ⟨hv, ⟨i, x, y, hi, rfl, rfl, rfl⟩, rfl⟩
  · cases hv1 : okK k with
    | false =>
      rw [hv1] at HV
      clear hv hv1
      go_enter Try.func30, Try.ntmps30
      go_upto_region 1 with (fail)
      rw [← hw0]
      clear hw0
      go_wp2_with fail
      refine HV.out.mono ?_
      rintro r w1 ⟨rfl, rfl⟩
      go_wp2_with fail
      obtain ⟨v6, hv6⟩ : ∃ v6, v6 = ((w0.setCell ⟨w.heap.size + 1, 0, none⟩ (.int .u64 seed)).setCell ⟨w.heap.size + 1, 1, none⟩ (.slice X c'.length p)).setCell ⟨w.heap.size + 1, 2, none⟩ (.slice Y c'.length q) := ⟨_, rfl⟩
      have O6 : Only (fun j => j = w.heap.size + 1) w0 v6 := by rw [hv6]; exact (((Only.refl (fun j => j = w.heap.size + 1) w0).put (ad := ⟨w.heap.size + 1, 0, none⟩) rfl _).put (ad := ⟨w.heap.size + 1, 1, none⟩) rfl _).put (ad := ⟨w.heap.size + 1, 2, none⟩) rfl _
      have R6 : Blk v6 (w.heap.size + 1) #[.int .u64 seed, .slice X c'.length p, .slice Y c'.length q] 31 := by
        have h1 := ((P2.out.set 0 (.int .u64 seed)).set 1 (.slice X c'.length p)).set 2 (.slice Y c'.length q)
        rw [hv6]; exact h1
      have E1 : Below w.heap.size w v6 := HB0.out.trans (O6.below (fun j e => by omega) (by omega))
      rw [← hv6]
      clear hv6 O6 r0 r1 r2 rf0 rf1 rf2
      obtain ⟨r0, r1, r2, _⟩ := R6.three
      exact bodyPost_ret (v := .tuple #[.agg #[.int .u64 seed, .slice X c'.length p, .slice Y c'.length q], .int .i64 0, .int .i64 2]) (by simp [results, Try.results30, go_sem, r0, r1, r2]) rfl ⟨_, _, _, _, rfl, HT.out.below E1 (Nat.le_refl _), E1, fun _ h => Or.inl h, fun _ h => Or.inl h⟩
    | true =>
      have hn1 : n < 0 := by rcases hv with h1 | h1; (rw [hv1] at h1; cases h1); exact h1
      rw [hv1] at HV
      clear hv hv1
      go_enter Try.func30, Try.ntmps30
      go_upto_region 1 with (fail)
      rw [← hw0]
      clear hw0
      go_wp2_with fail
      refine HV.out.mono ?_
      rintro r w1 ⟨rfl, rfl⟩
      go_wp2_with fail
      obtain ⟨v6, hv6⟩ : ∃ v6, v6 = ((w0.setCell ⟨w.heap.size + 1, 0, none⟩ (.int .u64 seed)).setCell ⟨w.heap.size + 1, 1, none⟩ (.slice X c'.length p)).setCell ⟨w.heap.size + 1, 2, none⟩ (.slice Y c'.length q) := ⟨_, rfl⟩
      have O6 : Only (fun j => j = w.heap.size + 1) w0 v6 := by rw [hv6]; exact (((Only.refl (fun j => j = w.heap.size + 1) w0).put (ad := ⟨w.heap.size + 1, 0, none⟩) rfl _).put (ad := ⟨w.heap.size + 1, 1, none⟩) rfl _).put (ad := ⟨w.heap.size + 1, 2, none⟩) rfl _
      have R6 : Blk v6 (w.heap.size + 1) #[.int .u64 seed, .slice X c'.length p, .slice Y c'.length q] 31 := by
        have h1 := ((P2.out.set 0 (.int .u64 seed)).set 1 (.slice X c'.length p)).set 2 (.slice Y c'.length q)
        rw [hv6]; exact h1
      have E1 : Below w.heap.size w v6 := HB0.out.trans (O6.below (fun j e => by omega) (by omega))
      rw [← hv6]
      clear hv6 O6 r0 r1 r2 rf0 rf1 rf2
      obtain ⟨r0, r1, r2, _⟩ := R6.three
      exact bodyPost_ret (v := .tuple #[.agg #[.int .u64 seed, .slice X c'.length p, .slice Y c'.length q], .int .i64 0, .int .i64 2]) (by simp [results, Try.results30, go_sem, r0, r1, r2]) rfl ⟨_, _, _, _, rfl, HT.out.below E1 (Nat.le_refl _), E1, fun _ h => Or.inl h, fun _ h => Or.inl h⟩
  · have FA := Lib.hid (find_any (seed := seed) H0.out k (okK_spec hv).1 (by omega) (fd_gone hno))
    rw [hv] at HV
    clear hv hno
    go_enter Try.func30, Try.ntmps30
    go_upto_region 1 with (fail)
    rw [← hw0]
    clear hw0
    go_wp2_with fail
    refine HV.out.mono ?_
    rintro r w1 ⟨rfl, rfl⟩
    go_wp2_with fail
    refine FA.out.mono ?_
    rintro r w1 ⟨rfl, hb⟩
    have P3 := Lib.hid (P1.out.below hb l0); have P4 := Lib.hid (P2.out.below hb hz0)
    have HB1 := Lib.hid (HB0.out.trans (hb.mono (by omega)))
    have H1 := Lib.hid (H0.out.below hb (Nat.le_refl _))
    have hz1 : w.heap.size + 1 < w1.heap.size := P4.out.lt
    have l1 : w.heap.size < w1.heap.size := by omega
    clear hb c0 c1 c2 r0 r1 r2 rf0 rf1 rf2
    obtain ⟨c0, c1, c2, _⟩ := P3.out.three
    obtain ⟨r0, r1, r2, rf0, rf1, rf2⟩ := P4.out.three
    go_wp2_with fail
    obtain ⟨v6, hv6⟩ : ∃ v6, v6 = ((w1.setCell ⟨w.heap.size + 1, 0, none⟩ (.int .u64 seed)).setCell ⟨w.heap.size + 1, 1, none⟩ (.slice X c'.length p)).setCell ⟨w.heap.size + 1, 2, none⟩ (.slice Y c'.length q) := ⟨_, rfl⟩
    have O6 : Only (fun j => j = w.heap.size + 1) w1 v6 := by rw [hv6]; exact (((Only.refl (fun j => j = w.heap.size + 1) w1).put (ad := ⟨w.heap.size + 1, 0, none⟩) rfl _).put (ad := ⟨w.heap.size + 1, 1, none⟩) rfl _).put (ad := ⟨w.heap.size + 1, 2, none⟩) rfl _
    have R6 : Blk v6 (w.heap.size + 1) #[.int .u64 seed, .slice X c'.length p, .slice Y c'.length q] 31 := by
      have h1 := ((P4.out.set 0 (.int .u64 seed)).set 1 (.slice X c'.length p)).set 2 (.slice Y c'.length q)
      rw [hv6]; exact h1
    have E1 : Below w.heap.size w v6 := HB1.out.trans (O6.below (fun j e => by omega) (by omega))
    rw [← hv6]
    clear hv6 O6 r0 r1 r2 rf0 rf1 rf2
    obtain ⟨r0, r1, r2, _⟩ := R6.three
    exact bodyPost_ret (v := .tuple #[.agg #[.int .u64 seed, .slice X c'.length p, .slice Y c'.length q], .int .i64 0, .int .i64 9]) (by simp [results, Try.results30, go_sem, r0, r1, r2]) rfl ⟨_, _, _, _, rfl, HT.out.below E1 (Nat.le_refl _), E1, fun _ h => Or.inl h, fun _ h => Or.inl h⟩
  · have hl := lt_of_some hi
    have FA := Lib.hid (find_any (seed := seed) H0.out k (okK_spec hv).1 (by omega) (fd_there g hi))
    have HG : Hid ((nc c)[i]? = some (.int .i64 (y : Int))) := by show _ = _; unfold nc; rw [List.getElem?_map, hi]; rfl
    have HKC : Hid (kc (c.set i (some (k, x))) = kc c) := by
      show _ = _
      unfold kc
      rw [List.map_set]
      refine List.ext_getElem? fun j => ?_
      by_cases e : i = j
      · subst e
        rw [List.getElem?_set_self (by simpa using hl), List.getElem?_map, hi]; rfl
      · rw [List.getElem?_set_ne e]
    have i1 : (i : Int) < (c.length : Int) := by omega
    rw [hv] at HV
    clear hv hi
    go_enter Try.func30, Try.ntmps30
    go_upto_region 1 with (fail)
    rw [← hw0]
    clear hw0
    go_wp2_with fail
    refine HV.out.mono ?_
    rintro r w1 ⟨rfl, rfl⟩
    go_wp2_with fail
    refine FA.out.mono ?_
    rintro r w1 ⟨rfl, hb⟩
    have P3 := Lib.hid (P1.out.below hb l0); have P4 := Lib.hid (P2.out.below hb hz0)
    have HB1 := Lib.hid (HB0.out.trans (hb.mono (by omega)))
    have H1 := Lib.hid (H0.out.below hb (Nat.le_refl _))
    have hz1 : w.heap.size + 1 < w1.heap.size := P4.out.lt
    have l1 : w.heap.size < w1.heap.size := by omega
    clear hb c0 c1 c2 r0 r1 r2 rf0 rf1 rf2
    obtain ⟨c0, c1, c2, _⟩ := P3.out.three
    obtain ⟨r0, r1, r2, rf0, rf1, rf2⟩ := P4.out.three
    go_wp2_with fail
    have CP := Lib.hid (copy_any (seed := seed) H1.out hn)
    unfold copyPost at CP
    refine CP.out.mono ?_
    rintro r w2 ⟨X2, p2, Y2, q2, rfl, ho, hb⟩
    have HO := Lib.hid ho
    have P5 := Lib.hid (P3.out.below hb l1); have P6 := Lib.hid (P4.out.below hb hz1)
    have H2 := Lib.hid (H1.out.below hb (Nat.le_refl _))
    have HB2 := Lib.hid (HB1.out.trans (hb.mono (by omega)))
    have hz2 : w1.heap.size ≤ w2.heap.size := hb.size
    clear ho hb CP c0 c1 c2 r0 r1 r2 rf0 rf1 rf2
    go_upto_region 7 with (fail)
    obtain ⟨gX, oX, rfl, lX0, lX⟩ := mine_place HO.out.ks (by rw [kc_len]; omega)
    obtain ⟨gY, oY, rfl, lY0, lY⟩ := mine_place HO.out.ns (by rw [nc_len]; omega)
    have hXY : gX ≠ gY := HO.out.ne _ _ rfl rfl
    obtain ⟨b8, hb8⟩ : ∃ b8, b8 = w2.heap.size := ⟨_, rfl⟩
    obtain ⟨w3, hw3⟩ : ∃ w3, w3 = w2.alloc (.cells #[.int .u64 seed, .slice (some ⟨gX, oX, none⟩) c.length p2, .slice (some ⟨gY, oY, none⟩) c.length q2] 31) := ⟨_, rfl⟩
    have b3 : Below w2.heap.size w2 w3 := by rw [hw3]; exact bnew _ _
    have P8 : Hid (Blk w3 b8 #[.int .u64 seed, .slice (some ⟨gX, oX, none⟩) c.length p2, .slice (some ⟨gY, oY, none⟩) c.length q2] 31) := by show Blk _ _ _ _; rw [hw3, hb8]; exact Blk.new _ _ _
    have HO3 := Lib.hid (HO.out.below b3 (Nat.le_refl _))
    have H3 := Lib.hid (H2.out.below b3 (Nat.le_refl _))
    have HB3 := Lib.hid (HB2.out.trans (b3.mono (by omega)))
    have Q5 := Lib.hid (P5.out.below b3 (by have := P5.out.lt; omega)); have Q6 := Lib.hid (P6.out.below b3 (by have := P6.out.lt; omega))
    have hz3 : w2.heap.size ≤ w3.heap.size := b3.size
    have l8 : b8 < w3.heap.size := P8.out.lt
    have e8 : Hid (w2.heap.size ≤ b8) := by show _ ≤ _; omega
    have nY8 : gY ≠ b8 := by omega
    rw [← hw3, ← hb8]
    clear hw3 hb8 b3
    obtain ⟨y0, y1, y2, _⟩ := P8.out.three
    obtain ⟨v0, vf⟩ := mine_cell HO3.out.ns HG.out
    have lY3 : gY < w3.heap.size := by omega
    go_upto_region 8 with (fail)
    obtain ⟨w4, hw4⟩ : ∃ w4, w4 = w3.setCell ⟨gY, oY + i, none⟩ (.int .i64 (x : Int)) := ⟨_, rfl⟩
    have m2 := mine_put HO3.out.ns i (.int .i64 (x : Int)) (by rw [nc_len]; exact hl) (nc_set c i k x)
    have O4 : Only (fun j => j = gY) w3 w4 := by rw [hw4]; exact only_own (F := fun j => j = gY) rfl _
    have N1 := Lib.hid (HO3.out.ks.only O4 (fun a ha e => by injection ha with ha; subst ha; exact hXY e))
    have N2 : Hid (Mine w1.heap.size 1 w4 (some ⟨gY, oY, none⟩) c.length q2 (nc (c.set i (some (k, x))))) := by show Mine _ _ _ _ _ _ _; rw [hw4]; exact m2
    have P8' := Lib.hid (P8.out.only O4 (fun e => nY8 e.symm))
    have Q5' := Lib.hid (Q5.out.only O4 (by omega)); have Q6' := Lib.hid (Q6.out.only O4 (by omega))
    have HB4 : Hid (Below w.heap.size w w4) := HB3.out.trans (O4.below (fun j e => by omega) (by omega))
    have H4 : Hid (Tb w4 c X p Y q) := HT.out.below HB4.out (Nat.le_refl _)
    have hz4 : w3.heap.size ≤ w4.heap.size := O4.size
    have l8' : b8 < w4.heap.size := P8'.out.lt
    have l9 : w.heap.size < w4.heap.size := Q5'.out.lt
    have l10 : w.heap.size + 1 < w4.heap.size := Q6'.out.lt
    rw [← hw4]
    clear hw4 O4 m2 y0 y1 y2 v0 vf
    obtain ⟨y0, y1, y2, _⟩ := P8'.out.three
    obtain ⟨c0, c1, c2, _⟩ := Q5'.out.three
    obtain ⟨r0, r1, r2, rf0, rf1, rf2⟩ := Q6'.out.three
    obtain ⟨tb, to_, rfl, ltb0, _⟩ := HT.out.ns.rd.at_ HG.out
    obtain ⟨tb', to', e1, ltb, a0⟩ := H4.out.ns.rd.at_ HG.out
    injection e1 with e1; injection e1 with e11 e12; subst e11; subst e12
    have ntb : tb ≠ w.heap.size + 1 := by omega
    go_region
    obtain ⟨v6, hv6⟩ : ∃ v6, v6 = ((w4.setCell ⟨w.heap.size + 1, 0, none⟩ (.int .u64 seed)).setCell ⟨w.heap.size + 1, 1, none⟩ (.slice (some ⟨gX, oX, none⟩) c.length p2)).setCell ⟨w.heap.size + 1, 2, none⟩ (.slice (some ⟨gY, oY, none⟩) c.length q2) := ⟨_, rfl⟩
    have O6 : Only (fun j => j = w.heap.size + 1) w4 v6 := by rw [hv6]; exact (((Only.refl (fun j => j = w.heap.size + 1) w4).put (ad := ⟨w.heap.size + 1, 0, none⟩) rfl _).put (ad := ⟨w.heap.size + 1, 1, none⟩) rfl _).put (ad := ⟨w.heap.size + 1, 2, none⟩) rfl _
    have R6 : Blk v6 (w.heap.size + 1) #[.int .u64 seed, .slice (some ⟨gX, oX, none⟩) c.length p2, .slice (some ⟨gY, oY, none⟩) c.length q2] 31 := by
      have h1 := ((Q6'.out.set 0 (.int .u64 seed)).set 1 (.slice (some ⟨gX, oX, none⟩) c.length p2)).set 2 (.slice (some ⟨gY, oY, none⟩) c.length q2)
      rw [hv6]; exact h1
    have E0 : Below w.heap.size w v6 := HB4.out.trans (O6.below (fun j e => by omega) (by omega))
    have E1 : Below w.heap.size w v6.drew := E0.drew
    have E2 : Tb v6.drew (c.set i (some (k, x))) (some ⟨gX, oX, none⟩) p2 (some ⟨gY, oY, none⟩) q2 := by
      refine Tb.below (w := v6) ⟨?_, ?_⟩ ((Below.refl v6.heap.size v6).drew) (Nat.le_refl _)
      · rw [HKC.out, List.length_set]; exact Rs.mine (N1.out.only O6 (fun a ha e => by injection ha with ha; subst ha; simp only at e; omega))
      · rw [List.length_set]; exact Rs.mine (N2.out.only O6 (fun a ha e => by injection ha with ha; subst ha; simp only at e; omega))
    rw [← hv6]
    clear hv6 O6 r0 r1 r2 rf0 rf1 rf2
    obtain ⟨r0, r1, r2, _⟩ := R6.three
    go_wp2_with fail
    exact bodyPost_ret (v := .tuple #[.agg #[.int .u64 seed, .slice (some ⟨gX, oX, none⟩) c.length p2, .slice (some ⟨gY, oY, none⟩) c.length q2], .int .i64 (y : Int), .int .i64 0]) (by simp [results, Try.results30, go_sem, r0, r1, r2]) rfl ⟨_, _, _, _, rfl, E2, E1, fun a ha => Or.inr (by injection ha with ha; subst ha; simp only; omega), fun a ha => Or.inr (by injection ha with ha; subst ha; simp only; omega)⟩
end Go.Proofs.Ythabnffmlgppdaa.Tg
