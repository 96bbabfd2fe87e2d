/- Proves what the method first of the specification's table returns. Conditions: as the theorem names them. -/
import Derived.Test.YthabnffmlgppdaaTb
import Derived.Deep.Cut
namespace Go.Proofs.Ythabnffmlgppdaa.Tc
open Go.RowKit Ap Mi Nw Rg Hm Tm Tn To Ta Tb

/-- A cell of a table of the call's own is written. -/
theorem own_key {N : Nat} {w : World} {c : List (Cell Key)} {X Y : Option Addr} {p q g o : Nat} (h : Own N w c X p Y q) (hX : X = some ⟨g, o, none⟩) {i : Nat} (hi : i < c.length) (k : Key) :
    Mine N 1 (w.setCell ⟨g, o + i, none⟩ (sV k)) X c.length p ((kc c).set i (sV k)) ∧ Mine N 1 (w.setCell ⟨g, o + i, none⟩ (sV k)) Y c.length q (nc c) := by
  subst hX
  refine ⟨mine_put h.ks i _ (by rw [kc_len]; exact hi) rfl, h.ns.only (only_own (F := fun j => j = g) (g := g) (i := o + i) rfl _) (fun a ha e => h.ne _ a rfl ha e.symm)⟩
theorem kc_set (c : List (Cell Key)) (i : Nat) (k : Key) (x : Nat) : (kc c).set i (sV k) = kc (c.set i (some (k, x))) := by unfold kc; rw [List.map_set]; rfl
theorem nc_set (c : List (Cell Key)) (i : Nat) (k : Key) (x : Nat) : (nc c).set i (.int .i64 (x : Int)) = nc (c.set i (some (k, x))) := by unfold nc; rw [List.map_set]; rfl
def firstPost (w : World) (seed : Int) (c : List (Cell Key)) (k : Key) (x : Nat) : Ending → World → Prop := fun r w' =>
  ∃ X p Y q, r = .returned (.agg #[.int .u64 seed, .slice X c.length p, .slice Y c.length q]) ∧ Own w.heap.size w' (putC (hom seed c.length) c k x) X p Y q ∧ Below w.heap.size w w'
set_option maxRecDepth 100000 in
set_option maxHeartbeats 2000000 in
theorem first_any {w : World} {c : List (Cell Key)} {X Y : Option Addr} {p q : Nat} {seed : Int} (h : Tb w c X p Y q) (hy : Kys c) (hf : none ∈ c) (k : Key) (x : Nat) (hk : k.length ≤ 1000000) (hs : U64 seed) (hn : c.length ≤ 1000000) :
    Calls Try.prog 35 #[.agg #[.int .u64 seed, .slice X c.length p, .slice Y c.length q], .string ⟨k.toArray⟩, .int .i64 (x : Int)] w (firstPost w seed c k x) := by
  have h00 : 0 < c.length := List.length_pos_of_mem hf
  obtain ⟨a, hadef⟩ : ∃ a, a = hom seed c.length k := ⟨_, rfl⟩
  have ha : a < c.length := by rw [hadef]; exact hom_lt seed _ h00 k
  have FR := Lib.hid (Tm.first_any (p := Option.isNone) ha ⟨none, hf, rfl⟩)
  have HP : Hid (putC (hom seed c.length) c k x = c.set (pos c.length a (fst c Option.isNone a)) (some (k, x))) := by show _ = _; unfold putC gap; rw [hadef]
  obtain ⟨J, hJ⟩ : ∃ J, J = fst c Option.isNone a := ⟨_, rfl⟩
  rw [← hJ] at FR HP
  have HY := Lib.hid hy
  have HA := Lib.hid hadef
  unfold firstPost
  rw [HP.out]
  clear HP hJ hadef hf hy
  obtain ⟨w0, hw0⟩ : ∃ w0, w0 = (w.alloc (.cells #[.int .u64 seed, .slice X c.length p, .slice Y c.length q] 31)).alloc (.cells #[.int .u64 0, .slice none 0 0, .slice none 0 0] 31) := ⟨_, rfl⟩
  have b0 : Below w.heap.size w w0 := by rw [hw0]; exact ((bnew w _).alloc (by simp) _)
  have p1 : Blk w0 w.heap.size #[.int .u64 seed, .slice X c.length p, .slice Y c.length q] 31 := by rw [hw0]; exact (Blk.new w _ _).below (bnew _ _) (by simp)
  have p2 : Blk w0 (w.heap.size + 1) #[.int .u64 0, .slice none 0 0, .slice none 0 0] 31 := by
    have := Blk.new (w.alloc (.cells #[.int .u64 seed, .slice X c.length p, .slice Y c.length q] 31)) #[.int .u64 0, .slice none 0 0, .slice none 0 0] 31
    rw [hw0]; simpa using this
  have h0 := h.below b0 (Nat.le_refl _)
  have hz0 : w.heap.size + 1 < w0.heap.size := p2.lt
  have HB0 := Lib.hid b0; have P1 := Lib.hid p1; have P2 := Lib.hid p2; have H0 := Lib.hid h0
  have HM := Lib.hid (home_any (w := w0) (X := X) (Y := Y) (p := p) (q := q) (n := c.length) k hk hs h00 (by omega))
  rw [← HA.out] at HM
  have hcap := h.ks.max
  obtain ⟨c0, c1, c2, _⟩ := p1.three
  have g1 : (c.length : Int) ≤ 1000000 := by omega
  have g0 : 0 < (c.length : Int) := by omega
  clear h b0 p1 p2 h0 hs
  go_enter Try.func35, Try.ntmps35
  go_upto_region 1 with (fail)
  rw [← hw0]
  clear hw0
  go_wp2_with fail
  refine HM.out.mono ?_
  rintro e w1 ⟨rfl, hb⟩
  have HB1 := Lib.hid (HB0.out.trans (hb.mono (by omega)))
  have P3 := Lib.hid (P1.out.below hb (by omega)); have P6 := Lib.hid (P2.out.below hb (by omega)); have H1 := Lib.hid (H0.out.below hb (Nat.le_refl _))
  have hz1 : w.heap.size + 1 < w1.heap.size := by have := hb.size; omega
  clear hb HM c0 c1 c2
  obtain ⟨c0, c1, c2, _⟩ := P3.out.three
  go_wp2_with fail
  go_loopw [7] (fun i wr => ∃ j : Nat, j ≤ J ∧ i = .int .i64 (pos c.length a j : Int) ∧ wr = w1) (fun i _ => J - way c.length a (intOf i).toNat)
  case atStart => exact ⟨0, Nat.zero_le _, by rw [pos_zero ha], rfl⟩
  case round =>
    obtain ⟨j, hj, rfl, rfl⟩ := hrel
    have hjn : j < c.length := by have := FR.out.lt; omega
    have hpl := pos_lt ha hjn
    have g2 : (pos c.length a j : Int) < (c.length : Int) := by omega
    obtain ⟨tb, to_, rfl, ltb, a0⟩ := H1.out.ks.rd.at_ (kc_get hpl)
    by_cases hlt : j < J
    · have hne : List.isEmpty (ck c[pos c.length a j]) = false := by
        have h1 := FR.out.miss j hlt
        rw [getD_lt hpl] at h1
        cases e : c[pos c.length a j] with
        | none => rw [e] at h1; cases h1
        | some ky =>
          obtain ⟨k', y⟩ := ky
          have h2 := (HY.out k' y (by rw [← e]; exact List.getElem_mem hpl)).1
          show List.isEmpty k' = false
          cases k' with
          | nil => simp at h2
          | cons _ _ => rfl
      have hj1 : j + 1 < c.length := by have := FR.out.lt; omega
      have HS : Hid (((pos c.length a j : Int) + 1) % (c.length : Int) = (pos c.length a (j + 1) : Int)) := by
        show _ = _
        rw [← pos_succ ha hj1, ← pos_one_mod hpl]
        exact (Int.natCast_emod _ _).symm
      have HW1 := Lib.hid (way_pos ha hjn); have HW2 := Lib.hid (way_pos ha hj1)
      obtain ⟨kk, hkk⟩ : ∃ kk, kk = ck c[pos c.length a j] := ⟨_, rfl⟩
      rw [← hkk] at hne a0
      clear hkk
      obtain ⟨y, hy⟩ : ∃ y, y = pos c.length a j := ⟨_, rfl⟩
      rw [← hy] at HS HW1 g2 a0
      rw [← hy]
      clear hy hpl
      go_wp2_with fail
      rw [HS.out]
      go_roundw
      case rel => exact ⟨j + 1, by omega, by first | rfl | rw [HS.out], trivial⟩
      case measure =>
        have h1 := HW1.out; have h2 := HW2.out
        simp only [intOf, Int.toNat_natCast, h1, h2]; omega
    · obtain rfl : j = J := by omega
      obtain ⟨i, hi⟩ : ∃ i, i = pos c.length a j := ⟨_, rfl⟩
      have hnone : c[pos c.length a j] = none := by
        have h1 := FR.out.hit
        rw [getD_lt hpl] at h1
        cases e : c[pos c.length a j] with
        | none => rfl
        | some ky => rw [e] at h1; cases h1
      rw [hnone] at a0
      have a0' : wr.cell? ⟨tb, to_ + pos c.length a j, none⟩ = some (.string ⟨#[]⟩) := a0
      rw [← hi] at a0' g2 hpl
      rw [← hi]
      have HI := Lib.hid hi
      clear hi hnone a0
      have HC := Lib.hid (copy_any (seed := seed) H1.out hn)
      unfold copyPost at HC
      go_wp2_with fail
      refine HC.out.mono ?_
      rintro e w2 ⟨X1, p1, Y1, q1, rfl, ho, hb⟩
      have HO := Lib.hid ho; have HB2 := Lib.hid (HB1.out.trans (hb.mono (by omega)))
      have P6' := Lib.hid (P6.out.below hb (by omega))
      have hz2 : wr.heap.size ≤ w2.heap.size := hb.size
      clear ho hb HC
      go_upto_region 5 with (fail)
      obtain ⟨gX, oX, rfl, lX0, lX⟩ := mine_place HO.out.ks (by rw [kc_len]; omega)
      obtain ⟨gY, oY, rfl, lY0, lY⟩ := mine_place HO.out.ns (by rw [nc_len]; omega)
      have hXY : gX ≠ gY := HO.out.ne _ _ rfl rfl
      obtain ⟨b8, hb8⟩ : ∃ b8, b8 = w2.heap.size := ⟨_, rfl⟩
      obtain ⟨w3, hw3⟩ : ∃ w3, w3 = w2.alloc (.cells #[.int .u64 seed, .slice (some ⟨gX, oX, none⟩) c.length p1, .slice (some ⟨gY, oY, none⟩) c.length q1] 31) := ⟨_, rfl⟩
      have b3 : Below w2.heap.size w2 w3 := by rw [hw3]; exact bnew _ _
      have P8 : Hid (Blk w3 b8 #[.int .u64 seed, .slice (some ⟨gX, oX, none⟩) c.length p1, .slice (some ⟨gY, oY, none⟩) c.length q1] 31) := by show Blk _ _ _ _; rw [hw3, hb8]; exact Blk.new _ _ _
      have HO3 := Lib.hid (HO.out.below b3 (Nat.le_refl _))
      have HB3 := Lib.hid (HB2.out.trans (b3.mono (by omega)))
      have Q6 := Lib.hid (P6'.out.below b3 (by have := P6'.out.lt; omega))
      have hz3 : w2.heap.size ≤ w3.heap.size := b3.size
      have l8 : b8 < w3.heap.size := P8.out.lt
      have e8 : Hid (w2.heap.size ≤ b8) := by show _ ≤ _; omega
      have nX8 : gX ≠ b8 := by omega
      have nY8 : gY ≠ b8 := by omega
      rw [← hw3, ← hb8]
      clear hw3 hb8 b3 c0 c1 c2
      obtain ⟨y0, y1, y2, _⟩ := P8.out.three
      obtain ⟨x0, xf⟩ := mine_cell HO3.out.ks (kc_get hpl)
      obtain ⟨v0, vf⟩ := mine_cell HO3.out.ns (nc_get hpl)
      have lX3 : gX < w3.heap.size := by omega
      have lY3 : gY < w3.heap.size := by omega
      go_upto_region 6 with (fail)
      obtain ⟨w4, hw4⟩ : ∃ w4, w4 = w3.setCell ⟨gX, oX + i, none⟩ (.string ⟨k.toArray⟩) := ⟨_, rfl⟩
      obtain ⟨m1, m2⟩ := own_key HO3.out rfl hpl k
      rw [kc_set c i k x] at m1
      have O4 : Only (fun j => j = gX) w3 w4 := by rw [hw4]; exact only_own (F := fun j => j = gX) rfl _
      have M1 : Hid (Mine wr.heap.size 1 w4 (some ⟨gX, oX, none⟩) c.length p1 (kc (c.set i (some (k, x))))) := by show Mine _ _ _ _ _ _ _; rw [hw4]; exact m1
      have M2 : Hid (Mine wr.heap.size 1 w4 (some ⟨gY, oY, none⟩) c.length q1 (nc c)) := by show Mine _ _ _ _ _ _ _; rw [hw4]; exact m2
      have P8' := Lib.hid (P8.out.only O4 (fun e => nX8 e.symm))
      have Q6' := Lib.hid (Q6.out.only O4 (by omega))
      have HB4 : Hid (Below w.heap.size w w4) := HB3.out.trans (O4.below (fun j e => by omega) (by omega))
      have hz4 : w3.heap.size ≤ w4.heap.size := O4.size
      have l8' : b8 < w4.heap.size := P8'.out.lt
      have lY4 : gY < w4.heap.size := by omega
      rw [← hw4]
      clear hw4 O4 m1 m2 y0 y1 y2 x0 xf v0 vf
      obtain ⟨y0, y1, y2, _⟩ := P8'.out.three
      obtain ⟨v0, vf⟩ := mine_cell M2.out (nc_get hpl)
      go_upto_region 7 with (fail)
      obtain ⟨w5, hw5⟩ : ∃ w5, w5 = w4.setCell ⟨gY, oY + i, none⟩ (.int .i64 (x : Int)) := ⟨_, rfl⟩
      have m2 := mine_put M2.out i (.int .i64 (x : Int)) (by rw [nc_len]; exact hpl) (nc_set c i k x)
      have O5 : Only (fun j => j = gY) w4 w5 := by rw [hw5]; exact only_own (F := fun j => j = gY) rfl _
      have N1 := Lib.hid (M1.out.only O5 (fun a ha e => by injection ha with ha; subst ha; exact hXY e))
      have N2 : Hid (Mine wr.heap.size 1 w5 (some ⟨gY, oY, none⟩) c.length q1 (nc (c.set i (some (k, x))))) := by show Mine _ _ _ _ _ _ _; rw [hw5]; exact m2
      have P8'' := Lib.hid (P8'.out.only O5 (fun e => nY8 e.symm))
      have Q6'' := Lib.hid (Q6'.out.only O5 (by omega))
      have HB5 : Hid (Below w.heap.size w w5) := HB4.out.trans (O5.below (fun j e => by omega) (by omega))
      have hz5 : w4.heap.size ≤ w5.heap.size := O5.size
      have l8'' : b8 < w5.heap.size := P8''.out.lt
      rw [← hw5]
      clear hw5 O5 m2 y0 y1 y2 v0 vf
      obtain ⟨y0, y1, y2, _⟩ := P8''.out.three
      obtain ⟨r0, r1, r2, rf0, rf1, rf2⟩ := Q6''.out.three
      have l6 : w.heap.size + 1 < w5.heap.size := Q6''.out.lt
      go_wp2_with fail
      obtain ⟨w6, hw6⟩ : ∃ w6, w6 = ((w5.setCell ⟨w.heap.size + 1, 0, none⟩ (.int .u64 seed)).setCell ⟨w.heap.size + 1, 1, none⟩ (.slice (some ⟨gX, oX, none⟩) c.length p1)).setCell ⟨w.heap.size + 1, 2, none⟩ (.slice (some ⟨gY, oY, none⟩) c.length q1) := ⟨_, rfl⟩
      have O6 : Only (fun j => j = w.heap.size + 1) w5 w6 := by rw [hw6]; exact (((Only.refl (fun j => j = w.heap.size + 1) w5).put (ad := ⟨w.heap.size + 1, 0, none⟩) rfl _).put (ad := ⟨w.heap.size + 1, 1, none⟩) rfl _).put (ad := ⟨w.heap.size + 1, 2, none⟩) rfl _
      have R6 : Blk w6 (w.heap.size + 1) #[.int .u64 seed, .slice (some ⟨gX, oX, none⟩) c.length p1, .slice (some ⟨gY, oY, none⟩) c.length q1] 31 := by
        have h1 := ((Q6''.out.set 0 (.int .u64 seed)).set 1 (.slice (some ⟨gX, oX, none⟩) c.length p1)).set 2 (.slice (some ⟨gY, oY, none⟩) c.length q1)
        rw [hw6]; exact h1
      have E1 : Own w.heap.size w6 (c.set (pos c.length a j) (some (k, x))) (some ⟨gX, oX, none⟩) p1 (some ⟨gY, oY, none⟩) q1 := by
        rw [← HI.out]
        refine ⟨?_, ?_, fun a b ha hb => by injection ha with ha; injection hb with hb; subst ha; subst hb; exact hXY⟩
        · rw [List.length_set]; exact (N1.out.only O6 (fun a ha e => by injection ha with ha; subst ha; simp only at e; omega)).mono (by omega)
        · rw [List.length_set]; exact (N2.out.only O6 (fun a ha e => by injection ha with ha; subst ha; simp only at e; omega)).mono (by omega)
      have E2 : Below w.heap.size w w6 := HB5.out.trans (O6.below (fun j e => by omega) (by omega))
      rw [← hw6]
      clear hw6 O6 y0 y1 y2 r0 r1 r2 rf0 rf1 rf2
      obtain ⟨r0, r1, r2, _⟩ := R6.three
      exact bodyPost_ret (v := .agg #[.int .u64 seed, .slice (some ⟨gX, oX, none⟩) c.length p1, .slice (some ⟨gY, oY, none⟩) c.length q1]) (by simp [results, Try.results35, go_sem, r0, r1, r2]) rfl ⟨_, _, _, _, rfl, E1, E2⟩
end Go.Proofs.Ythabnffmlgppdaa.Tc
