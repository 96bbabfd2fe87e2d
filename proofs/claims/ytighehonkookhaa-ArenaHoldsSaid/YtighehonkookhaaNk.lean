/- Proves what the method Release of the specification's arena returns. Conditions: as each theorem names them. -/
import Derived.Test.YtighehonkookhaaNj
namespace Go.Proofs.Ytighehonkookhaa.Nk
open Go.RowKit Ap Mi Nm Nw Na Nb Rg Nc Nd Nx Nf Ng Nh Nj

/-- What Release leaves. -/
def rrelPost (w : World) (m : Nat) (s : St) (n x : Int) (X Y Z : Option Addr) : Ending → World → Prop := fun r w' =>
  ∃ X' c' Y' d' Z' e', r = .returned (.tuple #[.agg #[.int .i64 (m : Int), .slice X' (frS s n x).gens.length c', .slice Y' (frS s n x).tk.length d', .slice Z' (frS s n x).fr.length e'], .int .i64 (frE s n x)]) ∧
    Spa w' (frS s n x) X' c' Y' d' Z' e' ∧ Frm w.heap.size w'.heap.size X X' ∧ Frm w.heap.size w'.heap.size Y Y' ∧ Frm w.heap.size w'.heap.size Z Z' ∧ Below w.heap.size w w'
set_option maxRecDepth 100000 in
set_option maxHeartbeats 4000000 in
theorem rrel_any {w : World} {m G : Nat} {s : St} {X Y Z : Option Addr} {c d e : Nat} (h : Spa w s X c Y d Z e) (hi : Inv m G s) (hm : m ≤ 1048576) (hG : G ≤ 1000000000) (n x : Int) :
    Calls Try.prog 26 #[.agg #[.int .i64 (m : Int), .slice X s.gens.length c, .slice Y s.tk.length d, .slice Z s.fr.length e], .agg #[.int .i64 n, .int .i64 x]] w (rrelPost w m s n x X Y Z) := by
  have hle := hi.le; have htl : s.tk.length = s.gens.length := hi.tl; have hfr := hi.frl
  obtain ⟨w0, hw0⟩ : ∃ w0, w0 = ((w.alloc (.cells #[.int .i64 (m : Int), .slice X s.gens.length c, .slice Y s.tk.length d, .slice Z s.fr.length e] 31)).alloc (.cells #[.int .i64 n, .int .i64 x] 35)).alloc (.cells #[.int .i64 0, .slice none 0 0, .slice none 0 0, .slice none 0 0] 31) := ⟨_, rfl⟩
  have b0 : Below w.heap.size w w0 := by rw [hw0]; exact (((bnew w _).alloc (by simp) _).alloc (by simp; omega) _)
  have p0 : Blk w0 (w.heap.size) #[.int .i64 (m : Int), .slice X s.gens.length c, .slice Y s.tk.length d, .slice Z s.fr.length e] 31 := by
    have h := Blk.new w #[.int .i64 (m : Int), .slice X s.gens.length c, .slice Y s.tk.length d, .slice Z s.fr.length e] 31
    replace h := h.below (bnew (w.alloc (.cells #[.int .i64 (m : Int), .slice X s.gens.length c, .slice Y s.tk.length d, .slice Z s.fr.length e] 31)) (.cells #[.int .i64 n, .int .i64 x] 35)) (by simp <;> omega)
    replace h := h.below (bnew ((w.alloc (.cells #[.int .i64 (m : Int), .slice X s.gens.length c, .slice Y s.tk.length d, .slice Z s.fr.length e] 31)).alloc (.cells #[.int .i64 n, .int .i64 x] 35)) (.cells #[.int .i64 0, .slice none 0 0, .slice none 0 0, .slice none 0 0] 31)) (by simp <;> omega)
    rw [hw0]; simpa using h
  have p1 : Blk w0 (w.heap.size + 1) #[.int .i64 n, .int .i64 x] 35 := by
    have h := Blk.new (w.alloc (.cells #[.int .i64 (m : Int), .slice X s.gens.length c, .slice Y s.tk.length d, .slice Z s.fr.length e] 31)) #[.int .i64 n, .int .i64 x] 35
    replace h := h.below (bnew ((w.alloc (.cells #[.int .i64 (m : Int), .slice X s.gens.length c, .slice Y s.tk.length d, .slice Z s.fr.length e] 31)).alloc (.cells #[.int .i64 n, .int .i64 x] 35)) (.cells #[.int .i64 0, .slice none 0 0, .slice none 0 0, .slice none 0 0] 31)) (by simp <;> omega)
    rw [hw0]; simpa using h
  have p2 : Blk w0 (w.heap.size + 1 + 1) #[.int .i64 0, .slice none 0 0, .slice none 0 0, .slice none 0 0] 31 := by
    have h := Blk.new ((w.alloc (.cells #[.int .i64 (m : Int), .slice X s.gens.length c, .slice Y s.tk.length d, .slice Z s.fr.length e] 31)).alloc (.cells #[.int .i64 n, .int .i64 x] 35)) #[.int .i64 0, .slice none 0 0, .slice none 0 0, .slice none 0 0] 31
    rw [hw0]; simpa using h
  have hz0 : w.heap.size + 1 + 1 < w0.heap.size := p2.lt
  have HB0 := Lib.hid b0
  have h0 := h.below b0 (Nat.le_refl _)
  have P0 := Lib.hid p0; have P1 := Lib.hid p1; have P2 := Lib.hid p2; have HS0 := Lib.hid h0; have HI := Lib.hid hi
  have HT := Lib.hid htl; have HSW := Lib.hid h
  have HH := Lib.hid (rhas_any h0 hi n x)
  unfold rrelPost
  unfold boolTo at HH
  clear h h0 b0 p0 p1 p2 hi htl
  cases hb : hasB s n x
  · have TT := Lib.hid (fr_no hb)
    rw [hb] at HH
    clear hb
    go_enter Try.func26, Try.ntmps26
    go_wp2_with fail
    rw [← hw0]
    clear hw0
    refine HH.out.mono ?_
    rintro r w1 ⟨rfl, hb⟩
    have HB1 := Lib.hid (HB0.out.trans (hb.mono HB0.out.size))
    have Q0 := Lib.hid (P0.out.below hb P0.out.lt)
    have Q2 := Lib.hid (P2.out.below hb P2.out.lt)
    obtain ⟨a0, a1, a2, a3, _⟩ := Q0.out.four
    obtain ⟨r0, r1, r2, r3, rf0, rf1, rf2, rf3⟩ := Q2.out.four
    have l0 : w.heap.size < w1.heap.size := Q0.out.lt
    have l2 : w.heap.size + 1 + 1 < w1.heap.size := Q2.out.lt
    clear hb
    go_wp2_with fail
    obtain ⟨t1, t2⟩ := TT.out
    rw [t1, t2]
    have hbl : ∀ v0 v1 v2 v3, Below w.heap.size w ((((w1.setCell ⟨w.heap.size + 1 + 1, 0, none⟩ v0).setCell ⟨w.heap.size + 1 + 1, 1, none⟩ v1).setCell ⟨w.heap.size + 1 + 1, 2, none⟩ v2).setCell ⟨w.heap.size + 1 + 1, 3, none⟩ v3) := fun _ _ _ _ =>
      (((HB1.out.setCell (by simp; omega) _).setCell (by simp; omega) _).setCell (by simp; omega) _).setCell (by simp; omega) _
    exact bodyPost_ret (v := .tuple #[.agg #[.int .i64 (m : Int), .slice X s.gens.length c, .slice Y s.tk.length d, .slice Z s.fr.length e], .int .i64 9]) (by simp [results, Try.results26, go_sem, r0, r1, r2, r3]) rfl ⟨X, c, Y, d, Z, e, rfl, HSW.out.below (hbl _ _ _ _) (Nat.le_refl _), Frm.same _ _ _, Frm.same _ _ _, Frm.same _ _ _, hbl _ _ _ _⟩
  · have TT := Lib.hid (fr_yes hb)
    have hgl := genAt_le HI.out n
    obtain ⟨h1, h2⟩ := has_spec hb
    obtain ⟨h3, h4⟩ := ist_spec h1
    obtain ⟨k, rfl⟩ : ∃ k : Nat, n = (k : Int) := ⟨n.toNat, by omega⟩
    obtain ⟨y, rfl⟩ : ∃ y : Nat, x = (y : Int) := ⟨genAt s (k : Int), h2.symm⟩
    rw [Int.toNat_natCast] at h4
    have hkt : k < s.tk.length := (List.getElem?_eq_some_iff.1 h4).1
    have hkg : k < s.gens.length := by rw [← HT.out]; exact hkt
    have hy : y ≤ 1000000000 := by omega
    rw [hb] at HH
    clear hb h1 h2 h3 h4 hgl
    go_enter Try.func26, Try.ntmps26
    go_wp2_with fail
    rw [← hw0]
    clear hw0
    refine HH.out.mono ?_
    rintro r w1 ⟨rfl, hb⟩
    have HB1 := Lib.hid (HB0.out.trans (hb.mono HB0.out.size))
    have Q0 := Lib.hid (P0.out.below hb P0.out.lt)
    have Q1 := Lib.hid (P1.out.below hb P1.out.lt)
    have Q2 := Lib.hid (P2.out.below hb P2.out.lt)
    have S1 := Lib.hid (HS0.out.below hb (Nat.le_refl _))
    obtain ⟨a0, a1, a2, a3, _⟩ := Q0.out.four
    have l0 : w.heap.size < w1.heap.size := Q0.out.lt
    have hz1 : w0.heap.size ≤ w1.heap.size := hb.size
    have HC := Lib.hid (rcopy_any S1.out HI.out hm)
    clear hb
    go_wp2_with fail
    refine HC.out.mono ?_
    rintro r w2 ⟨X1, k1, X2, k2, X3, k3, rfl, hf, hb⟩
    have FR := Lib.hid hf
    have HB2 := Lib.hid (HB1.out.trans (hb.mono HB1.out.size))
    have R0 := Lib.hid (Q0.out.below hb Q0.out.lt)
    have R1 := Lib.hid (Q1.out.below hb Q1.out.lt)
    have R2 := Lib.hid (Q2.out.below hb Q2.out.lt)
    have hz2 : w1.heap.size ≤ w2.heap.size := hb.size
    clear hf hb a0 a1 a2 a3 HC
    obtain ⟨w3, hw3⟩ : ∃ w3, w3 = w2.alloc (.cells #[.int .i64 (m : Int), .slice X1 s.gens.length k1, .slice X2 s.tk.length k2, .slice X3 s.fr.length k3] 31) := ⟨_, rfl⟩
    obtain ⟨g5, hg5⟩ : ∃ g5, g5 = w2.heap.size := ⟨_, rfl⟩
    have b3 : Below w2.heap.size w2 w3 := by rw [hw3]; exact bnew _ _
    have q5 : Blk w3 g5 #[.int .i64 (m : Int), .slice X1 s.gens.length k1, .slice X2 s.tk.length k2, .slice X3 s.fr.length k3] 31 := by rw [hw3, hg5]; exact Blk.new _ _ _
    have U5 := Lib.hid q5
    have HB3 := Lib.hid (HB2.out.trans (b3.mono (by have := HB2.out.size; omega)))
    have FR3 := Lib.hid (FR.out.only (Only.of_below b3 (Nat.le_refl _) (fun _ => False)) (fun _ hf => hf.elim))
    have U0 := Lib.hid (R0.out.below b3 R0.out.lt)
    have U1 := Lib.hid (R1.out.below b3 R1.out.lt)
    have U2 := Lib.hid (R2.out.below b3 R2.out.lt)
    have hz3 : w2.heap.size < w3.heap.size := by rw [hw3]; simp
    have lw5 : w2.heap.size ≤ g5 := by omega
    have lt5 : g5 < w3.heap.size := q5.lt
    obtain ⟨g2, o2, rfl, l2a, l2b⟩ := mine_place FR.out.t (by rw [bools_len]; omega)
    obtain ⟨g1, o1, rfl, l1a, l1b⟩ := mine_place FR.out.g (by rw [ints_len]; omega)
    obtain ⟨tc, tf⟩ := mine_cell FR3.out.t (bools_get (List.getElem?_eq_getElem hkt))
    obtain ⟨gc, gf⟩ := mine_cell FR3.out.g (ints_get (List.getElem?_eq_getElem hkg))
    have n12 : ¬ g1 = g2 := FR.out.gt _ _ rfl rfl
    have n21 : ¬ g2 = g1 := fun e => n12 e.symm
    have n15 : ¬ g1 = g5 := by omega
    have n51 : ¬ g5 = g1 := by omega
    have n25 : ¬ g2 = g5 := by omega
    have n52 : ¬ g5 = g2 := by omega
    have n0a : ¬ w.heap.size + 1 = g1 := by omega
    have n0b : ¬ w.heap.size + 1 = g2 := by omega
    have j1 : (k : Int) < (s.gens.length : Int) := by omega
    have j2 : (k : Int) < (s.tk.length : Int) := by omega
    go_upto_region 4 with (fail)
    rw [← hw3, ← hg5]
    clear hw3 hg5 b3 q5 Q0 Q1 Q2 R0 R1 R2
    obtain ⟨x0, x1, xf0, xf1⟩ := U1.out.two
    obtain ⟨e0, e1, e2, e3, ef0, ef1, ef2, ef3⟩ := U5.out.four
    obtain ⟨u, hu⟩ : ∃ u, u = s.tk[k] := ⟨_, rfl⟩
    obtain ⟨v, hv⟩ : ∃ v, v = s.gens[k] := ⟨_, rfl⟩
    rw [← hu] at tc
    rw [← hv] at gc
    have HU := Lib.hid hu; have HV := Lib.hid hv
    clear hu hv
    go_upto_region 6 with (fail)
    obtain ⟨w4, hw4⟩ : ∃ w4, w4 = (w3.setCell ⟨g2, o2 + k, none⟩ (.bool false)).setCell ⟨g1, o1 + k, none⟩ (.int .i64 ((y : Int) + 1)) := ⟨_, rfl⟩
    have O4 : Only (fun j => j = g2 ∨ j = g1) w3 w4 := by rw [hw4]; exact ((Only.refl (fun j => j = g2 ∨ j = g1) w3).put (ad := ⟨g2, o2 + k, none⟩) (Or.inl rfl) _).put (ad := ⟨g1, o1 + k, none⟩) (Or.inr rfl) _
    have V5 := Lib.hid (U5.out.only O4 (by omega))
    have V1 := Lib.hid (U1.out.only O4 (by omega))
    have V2 := Lib.hid (U2.out.only O4 (by omega))
    have KT : Hid (Mine w1.heap.size 1 w4 (some ⟨g2, o2, none⟩) s.tk.length k2 (bools (s.tk.set k false))) := by
      show Mine _ _ _ _ _ _ _
      rw [hw4]
      exact (mine_put FR3.out.t k (.bool false) (by rw [bools_len]; exact hkt) (by unfold bools; rw [List.map_set])).only (only_own (F := fun j => j = g1) rfl _) (fun a ha e => by injection ha with ha; subst ha; exact n21 e)
    have KG : Hid (Mine w1.heap.size 1 w4 (some ⟨g1, o1, none⟩) s.gens.length k1 (ints (s.gens.set k (y + 1)))) := by
      show Mine _ _ _ _ _ _ _
      rw [hw4]
      exact mine_put (FR3.out.g.only (only_own (F := fun j => j = g2) rfl _) (fun a ha e => by injection ha with ha; subst ha; exact n12 e)) k (.int .i64 ((y : Int) + 1)) (by rw [ints_len]; exact hkg) (by unfold ints; rw [List.map_set]; rfl)
    have KF := Lib.hid (FR3.out.f.only O4 (fun a ha hf => by rcases hf with hf | hf; exact FR.out.tf _ a rfl ha hf.symm; exact FR.out.gf _ a rfl ha hf.symm))
    have HB4 := Lib.hid (HB3.out.trans (O4.below (B := w.heap.size) (fun j e => by omega) (by omega)))
    have hz4 : w3.heap.size ≤ w4.heap.size := O4.size
    rw [← hw4]
    clear hw4 O4 x0 x1 xf0 xf1 e0 e1 e2 e3 ef0 ef1 ef2 ef3 tc tf gc gf
    obtain ⟨x0, x1, xf0, xf1⟩ := V1.out.two
    obtain ⟨e0, e1, e2, e3, ef0, ef1, ef2, ef3⟩ := V5.out.four
    have l1 : w.heap.size + 1 < w4.heap.size := by omega
    go_wp2_with (at_builtin; (refine wpList_mine rfl _ _ elI _ rfl rfl (KF.out.below (bnew w4 (.cells #[.int .i64 (k : Int)] 3)) (Nat.le_refl _)) _ rfl 1 _ (src_lit Try.underlying28 #[.int .i64 (k : Int)] 1 1 rfl (by simp [Value.oneCell'])) (by omega) (by omega) (by simp; omega) ?_))
    intro A3 j3 w5 m5 g5' q5
    have O5 : Only (fun j => ∃ a, X3 = some a ∧ a.block = j) w4 w5 := (Only.of_below (bnew w4 (.cells #[.int .i64 (k : Int)] 3)) (Nat.le_refl _) _).trans ((Only.of_grown g5' (F := fun j => ∃ a, X3 = some a ∧ a.block = j) (fun k e => by rw [Option.map_eq_some_iff] at e; exact e)).mono fun _ _ hf => Or.inl hf)
    have D5 := Lib.hid (V5.out.only O5 (fun ⟨a, ha, e⟩ => by have := (FR.out.f.base ha).2.1; omega))
    have D2 := Lib.hid (V2.out.only O5 (fun ⟨a, ha, e⟩ => by have := (FR.out.f.base ha).1; omega))
    have LG := Lib.hid (KG.out.only O5 (fun a ha ⟨b, hb, e⟩ => FR.out.gf a b ha hb e.symm))
    have LT := Lib.hid (KT.out.only O5 (fun a ha ⟨b, hb, e⟩ => FR.out.tf a b ha hb e.symm))
    have LF := Lib.hid m5
    have HA3 : Hid (∀ a, A3 = some a → w1.heap.size ≤ a.block ∧ a.block ≠ g5) := fun a ha => by
      rcases q5 with h | h
      · rw [h] at ha
        have h1 := FR.out.f.base ha
        exact ⟨h1.1, by omega⟩
      · have h1 : w4.heap.size + 1 ≤ a.block := by simpa using h a ha
        exact ⟨by omega, by omega⟩
    have HB5 := Lib.hid (HB4.out.trans (O5.below (B := w.heap.size) (fun j ⟨a, ha, e⟩ => by have := (FR.out.f.base ha).1; omega) (by omega)))
    have hz5 : w4.heap.size ≤ w5.heap.size := O5.size
    clear m5 g5' q5 O5 e0 e1 e2 e3 ef0 ef1 ef2 ef3 x0 x1 xf0 xf1
    obtain ⟨e0, e1, e2, e3, ef0, ef1, ef2, ef3⟩ := D5.out.four
    have l5' : g5 < w5.heap.size := by omega
    go_upto_region 7 with (fail)
    obtain ⟨w6, hw6⟩ : ∃ w6, w6 = w5.setCell ⟨g5, 3, none⟩ (.slice A3 (s.fr.length + 1) j3) := ⟨_, rfl⟩
    have O6 : Only (fun j => j = g5) w5 w6 := by rw [hw6]; exact only_own (F := fun j => j = g5) rfl _
    have E5 : Hid (Blk w6 g5 #[.int .i64 (m : Int), .slice (some ⟨g1, o1, none⟩) s.gens.length k1, .slice (some ⟨g2, o2, none⟩) s.tk.length k2, .slice A3 (s.fr.length + 1) j3] 31) := by show Blk _ _ _ _; rw [hw6]; exact D5.out.set 3 _
    have E2 := Lib.hid (D2.out.only O6 (by omega))
    have NG := Lib.hid (LG.out.only O6 (fun a ha e => by injection ha with ha; subst ha; exact n15 e))
    have NT := Lib.hid (LT.out.only O6 (fun a ha e => by injection ha with ha; subst ha; exact n25 e))
    have NF := Lib.hid (LF.out.only O6 (fun a ha e => (HA3.out a ha).2 e))
    have HB6 := Lib.hid (HB5.out.trans (O6.below (B := w.heap.size) (fun j e => by omega) (by omega)))
    have hz6 : w5.heap.size ≤ w6.heap.size := O6.size
    rw [← hw6]
    clear hw6 O6 e0 e1 e2 e3 ef0 ef1 ef2 ef3
    obtain ⟨e0, e1, e2, e3, ef0, ef1, ef2, ef3⟩ := E5.out.four
    obtain ⟨r0, r1, r2, r3, rf0, rf1, rf2, rf3⟩ := E2.out.four
    have l2 : w.heap.size + 1 + 1 < w6.heap.size := by omega
    have l5'' : g5 < w6.heap.size := by omega
    go_wp2_with fail
    obtain ⟨t1, t2⟩ := TT.out
    rw [t1, t2]
    obtain ⟨w7, hw7⟩ : ∃ w7, w7 = (((w6.setCell ⟨w.heap.size + 1 + 1, 0, none⟩ (.int .i64 (m : Int))).setCell ⟨w.heap.size + 1 + 1, 1, none⟩ (.slice (some ⟨g1, o1, none⟩) s.gens.length k1)).setCell ⟨w.heap.size + 1 + 1, 2, none⟩ (.slice (some ⟨g2, o2, none⟩) s.tk.length k2)).setCell ⟨w.heap.size + 1 + 1, 3, none⟩ (.slice A3 (s.fr.length + 1) j3) := ⟨_, rfl⟩
    have O7 : Only (fun j => j = w.heap.size + 1 + 1) w6 w7 := by rw [hw7]; exact ((((Only.refl (fun j => j = w.heap.size + 1 + 1) w6).put (ad := ⟨w.heap.size + 1 + 1, 0, none⟩) rfl _).put (ad := ⟨w.heap.size + 1 + 1, 1, none⟩) rfl _).put (ad := ⟨w.heap.size + 1 + 1, 2, none⟩) rfl _).put (ad := ⟨w.heap.size + 1 + 1, 3, none⟩) rfl _
    have MG := NG.out.only O7 (fun a ha e => by injection ha with ha; subst ha; simp only at e; omega)
    have MT := NT.out.only O7 (fun a ha e => by injection ha with ha; subst ha; simp only at e; omega)
    have MF := NF.out.only O7 (fun a ha e => by have := (HA3.out a ha).1; omega)
    refine bodyPost_ret (v := .tuple #[.agg #[.int .i64 (m : Int), .slice (some ⟨g1, o1, none⟩) s.gens.length k1, .slice (some ⟨g2, o2, none⟩) s.tk.length k2, .slice A3 (s.fr.length + 1) j3], .int .i64 0]) (by simp [results, Try.results26, go_sem, r0, r1, r2, r3]) rfl ⟨some ⟨g1, o1, none⟩, k1, some ⟨g2, o2, none⟩, k2, A3, j3, by rw [List.length_set, List.length_set, List.length_append]; rfl, ?_, ?_, ?_, ?_, ?_⟩
    · rw [← hw7]
      refine ⟨?_, ?_, ?_⟩
      · rw [List.length_set]; exact Rs.mine MG
      · rw [List.length_set]; exact Rs.mine MT
      · rw [List.length_append]
        have := Rs.mine MF
        show Rs _ _ _ _ _ (ints (s.fr ++ [k]))
        rw [ints_snoc]; exact this
    · rw [← hw7]; exact Frm.mine MG (by omega)
    · rw [← hw7]; exact Frm.mine MT (by omega)
    · rw [← hw7]; exact fun a ha => Or.inr ⟨by have := (HA3.out a ha).1; omega, (MF.base ha).2.1⟩
    · rw [← hw7]; exact HB6.out.trans (O7.below (B := w.heap.size) (fun j e => by omega) (by omega))
end Go.Proofs.Ytighehonkookhaa.Nk
