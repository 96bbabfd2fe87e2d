/- Proves what the method Take of the specification's arena returns. Conditions: as each theorem names them. -/
import Derived.Test.YtighehonkookhaaNh
namespace Go.Proofs.Ytighehonkookhaa.Nj
open Go.RowKit Ap Mi Nm Nw Na Nb Rg Nc Nd Nx Nf Ng Nh

/-- What Take leaves. -/
def rtakePost (w : World) (m : Nat) (s : St) (X Y Z : Option Addr) : Ending → World → Prop := fun r w' =>
  ∃ X' c' Y' d' Z' e', r = .returned (.tuple #[.agg #[.int .i64 (m : Int), .slice X' (tkS m s).gens.length c', .slice Y' (tkS m s).tk.length d', .slice Z' (tkS m s).fr.length e'], .agg #[.int .i64 (tkN m s), .int .i64 (tkG m s)], .int .i64 (tkE m s)]) ∧
    Spa w' (tkS m s) X' c' Y' d' Z' e' ∧ Frm w.heap.size w'.heap.size X X' ∧ Frm w.heap.size w'.heap.size Y Y' ∧ Frm w.heap.size w'.heap.size Z Z' ∧ Below w.heap.size w w'
set_option maxRecDepth 100000 in
set_option maxHeartbeats 4000000 in
theorem rtake_any {w : World} {m G : Nat} {s : St} {X Y Z : Option Addr} {c d e : Nat} (h : Spa w s X c Y d Z e) (hi : Inv m G s) (hm : m ≤ 1048576) :
    Calls Try.prog 24 #[.agg #[.int .i64 (m : Int), .slice X s.gens.length c, .slice Y s.tk.length d, .slice Z s.fr.length e]] w (rtakePost w m s X Y Z) := by
  have hle := hi.le; have htl : s.tk.length = s.gens.length := hi.tl; have hfr := hi.frl
  obtain ⟨w0, hw0⟩ : ∃ w0, w0 = ((w.alloc (.cells #[.int .i64 (m : Int), .slice X s.gens.length c, .slice Y s.tk.length d, .slice Z s.fr.length e] 31)).alloc (.cells #[.int .i64 0, .slice none 0 0, .slice none 0 0, .slice none 0 0] 31)).alloc (.cells #[.int .i64 0, .int .i64 0] 35) := ⟨_, rfl⟩
  have b0 : Below w.heap.size w w0 := by rw [hw0]; exact (((bnew w _).alloc (by simp) _).alloc (by simp; omega) _)
  have p0 : Blk w0 (w.heap.size) #[.int .i64 (m : Int), .slice X s.gens.length c, .slice Y s.tk.length d, .slice Z s.fr.length e] 31 := by
    have h := Blk.new w #[.int .i64 (m : Int), .slice X s.gens.length c, .slice Y s.tk.length d, .slice Z s.fr.length e] 31
    replace h := h.below (bnew (w.alloc (.cells #[.int .i64 (m : Int), .slice X s.gens.length c, .slice Y s.tk.length d, .slice Z s.fr.length e] 31)) (.cells #[.int .i64 0, .slice none 0 0, .slice none 0 0, .slice none 0 0] 31)) (by simp <;> omega)
    replace h := h.below (bnew ((w.alloc (.cells #[.int .i64 (m : Int), .slice X s.gens.length c, .slice Y s.tk.length d, .slice Z s.fr.length e] 31)).alloc (.cells #[.int .i64 0, .slice none 0 0, .slice none 0 0, .slice none 0 0] 31)) (.cells #[.int .i64 0, .int .i64 0] 35)) (by simp <;> omega)
    rw [hw0]; simpa using h
  have p1 : Blk w0 (w.heap.size + 1) #[.int .i64 0, .slice none 0 0, .slice none 0 0, .slice none 0 0] 31 := by
    have h := Blk.new (w.alloc (.cells #[.int .i64 (m : Int), .slice X s.gens.length c, .slice Y s.tk.length d, .slice Z s.fr.length e] 31)) #[.int .i64 0, .slice none 0 0, .slice none 0 0, .slice none 0 0] 31
    replace h := h.below (bnew ((w.alloc (.cells #[.int .i64 (m : Int), .slice X s.gens.length c, .slice Y s.tk.length d, .slice Z s.fr.length e] 31)).alloc (.cells #[.int .i64 0, .slice none 0 0, .slice none 0 0, .slice none 0 0] 31)) (.cells #[.int .i64 0, .int .i64 0] 35)) (by simp <;> omega)
    rw [hw0]; simpa using h
  have p2 : Blk w0 (w.heap.size + 1 + 1) #[.int .i64 0, .int .i64 0] 35 := by
    have h := Blk.new ((w.alloc (.cells #[.int .i64 (m : Int), .slice X s.gens.length c, .slice Y s.tk.length d, .slice Z s.fr.length e] 31)).alloc (.cells #[.int .i64 0, .slice none 0 0, .slice none 0 0, .slice none 0 0] 31)) #[.int .i64 0, .int .i64 0] 35
    rw [hw0]; simpa using h
  have hz0 : w.heap.size + 1 + 1 < w0.heap.size := p2.lt
  have HB0 := Lib.hid b0
  have h0 := h.below b0 (Nat.le_refl _)
  have P0 := Lib.hid p0; have P1 := Lib.hid p1; have P2 := Lib.hid p2; have HS0 := Lib.hid h0; have HI := Lib.hid hi
  have HT := Lib.hid htl; have HSW := Lib.hid h
  have HC := Lib.hid (rcopy_any h0 hi hm)
  unfold rtakePost
  obtain ⟨c0, c1, c2, c3, _⟩ := p0.four
  clear h h0 b0 p0 p1 p2 hi htl
  go_enter Try.func24, Try.ntmps24
  go_wp2_with fail
  rw [← hw0]
  clear hw0
  refine HC.out.mono ?_
  rintro r w1 ⟨X1, k1, X2, k2, X3, k3, rfl, hf, hb⟩
  have FR := Lib.hid hf
  have HB1 := Lib.hid (HB0.out.trans (hb.mono HB0.out.size))
  have S1 := Lib.hid (HS0.out.below hb (Nat.le_refl _))
  have Q0 := Lib.hid (P0.out.below hb P0.out.lt)
  have Q1 := Lib.hid (P1.out.below hb P1.out.lt)
  have Q2 := Lib.hid (P2.out.below hb P2.out.lt)
  have hz1 : w0.heap.size ≤ w1.heap.size := hb.size
  clear hf hb c0 c1 c2 c3 HC
  obtain ⟨w2, hw2⟩ : ∃ w2, w2 = w1.alloc (.cells #[.int .i64 (m : Int), .slice X1 s.gens.length k1, .slice X2 s.tk.length k2, .slice X3 s.fr.length k3] 31) := ⟨_, rfl⟩
  obtain ⟨g5, hg5⟩ : ∃ g5, g5 = w1.heap.size := ⟨_, rfl⟩
  have b2 : Below w1.heap.size w1 w2 := by rw [hw2]; exact bnew _ _
  have q5 : Blk w2 g5 #[.int .i64 (m : Int), .slice X1 s.gens.length k1, .slice X2 s.tk.length k2, .slice X3 s.fr.length k3] 31 := by rw [hw2, hg5]; exact Blk.new _ _ _
  have Q5 := Lib.hid q5
  have HB2 := Lib.hid (HB1.out.trans (b2.mono (by have := HB1.out.size; omega)))
  have FR2 := Lib.hid (FR.out.only (Only.of_below b2 (Nat.le_refl _) (fun _ => False)) (fun _ hf => hf.elim))
  have S2 := Lib.hid (S1.out.below b2 (Nat.le_refl _))
  have R0 := Lib.hid (Q0.out.below b2 Q0.out.lt)
  have R1 := Lib.hid (Q1.out.below b2 Q1.out.lt)
  have R2 := Lib.hid (Q2.out.below b2 Q2.out.lt)
  have hz2 : w1.heap.size < w2.heap.size := by rw [hw2]; simp
  have lz5 : w0.heap.size ≤ g5 := by omega
  have lt5 : g5 < w2.heap.size := q5.lt
  have lw5 : w1.heap.size ≤ g5 := by omega
  go_upto_region 2 with (fail)
  rw [← hw2, ← hg5]
  clear hw2 hg5 b2 q5 Q0 Q1 Q2
  obtain ⟨a0, a1, a2, a3, _⟩ := R0.out.four
  obtain ⟨e0, e1, e2, e3, ef0, ef1, ef2, ef3⟩ := Q5.out.four
  obtain ⟨r0, r1, r2, r3, rf0, rf1, rf2, rf3⟩ := R1.out.four
  obtain ⟨x0, x1, xf0, xf1⟩ := R2.out.two
  have l0 : w.heap.size < w2.heap.size := by omega
  have l1 : w.heap.size + 1 < w2.heap.size := by omega
  have l2 : w.heap.size + 1 + 1 < w2.heap.size := by omega
  have n1 : ¬ g5 = w.heap.size := by omega
  have n2 : ¬ w.heap.size = g5 := by omega
  have n3 : ¬ g5 = w.heap.size + 1 := by omega
  have n4 : ¬ w.heap.size + 1 = g5 := by omega
  have n5 : ¬ g5 = w.heap.size + 1 + 1 := by omega
  have n6 : ¬ w.heap.size + 1 + 1 = g5 := by omega
  rcases tk_ways m s with ⟨hf, hM⟩ | ⟨hf, hM⟩ | ⟨r, n, hf⟩
  case inl =>
    have TT := Lib.hid (tk_full hf hM)
    rw [hf] at a3
    rw [hM] at a1
    have HF := Lib.hid hf; have HM := Lib.hid hM
    clear hf hM
    go_wp2_with fail
    obtain ⟨t1, t2, t3, t4⟩ := TT.out
    rw [t1, t2, t3, t4]
    have hbl : ∀ v0 v1 v2 v3 v4 v5, Below w.heap.size w ((((((w2.setCell ⟨w.heap.size + 1, 0, none⟩ v0).setCell ⟨w.heap.size + 1, 1, none⟩ v1).setCell ⟨w.heap.size + 1, 2, none⟩ v2).setCell ⟨w.heap.size + 1, 3, none⟩ v3).setCell ⟨w.heap.size + 1 + 1, 0, none⟩ v4).setCell ⟨w.heap.size + 1 + 1, 1, none⟩ v5) := fun _ _ _ _ _ _ =>
      (((((HB2.out.setCell (by simp) _).setCell (by simp) _).setCell (by simp) _).setCell (by simp) _).setCell (by simp; omega) _).setCell (by simp; omega) _
    refine bodyPost_ret (v := .tuple #[.agg #[.int .i64 (m : Int), .slice X m c, .slice Y s.tk.length d, .slice Z 0 e], .agg #[.int .i64 0, .int .i64 0], .int .i64 7]) (by simp [results, Try.results24, go_sem, r0, r1, r2, r3, x0, x1]) rfl ⟨X, c, Y, d, Z, e, by rw [HM.out, HF.out]; rfl, HSW.out.below (hbl _ _ _ _ _ _) (Nat.le_refl _), Frm.same _ _ _, Frm.same _ _ _, Frm.same _ _ _, hbl _ _ _ _ _ _⟩
  case inr.inl =>
    have TT := Lib.hid (tk_new hf hM)
    have hM' : ((s.gens.length : Int) == (m : Int)) = false := by rw [beq_eq_false_iff_ne]; omega
    rw [hf] at a3
    have HF := Lib.hid hf
    have htl : s.tk.length ≤ 1048576 := by have := HT.out; omega
    clear hf hM
    go_wp2_with (at_builtin; (refine wpList_mine rfl _ _ elI _ rfl rfl (FR2.out.g.below (bnew w2 (.cells #[.int .i64 1] 3)) (Nat.le_refl _)) _ rfl 1 _ (src_lit Try.underlying28 #[.int .i64 1] 1 1 rfl (by simp [Value.oneCell'])) (by omega) (by omega) (by simp; omega) ?_))
    intro A1 j1 w3 m3 g3 q3
    have O3 : Only (fun j => ∃ a, X1 = some a ∧ a.block = j) w2 w3 := (Only.of_below (bnew w2 (.cells #[.int .i64 1] 3)) (Nat.le_refl _) _).trans ((Only.of_grown g3 (F := fun j => ∃ a, X1 = some a ∧ a.block = j) (fun k e => by rw [Option.map_eq_some_iff] at e; exact e)).mono fun _ _ hf => Or.inl hf)
    have B5 := Lib.hid (Q5.out.only O3 (fun ⟨a, ha, e⟩ => by have := (FR.out.g.base ha).2.1; omega))
    have B0 := Lib.hid (R0.out.only O3 (fun ⟨a, ha, e⟩ => by have := (FR.out.g.base ha).1; omega))
    have B1 := Lib.hid (R1.out.only O3 (fun ⟨a, ha, e⟩ => by have := (FR.out.g.base ha).1; omega))
    have B2 := Lib.hid (R2.out.only O3 (fun ⟨a, ha, e⟩ => by have := (FR.out.g.base ha).1; omega))
    have KT := Lib.hid (FR2.out.t.only O3 (fun a ha ⟨b, hb, e⟩ => FR.out.gt b a hb ha e))
    have KF := Lib.hid (FR2.out.f.only O3 (fun a ha ⟨b, hb, e⟩ => FR.out.gf b a hb ha e))
    have KG := Lib.hid m3
    have HA1 : Hid (∀ a, A1 = some a → w0.heap.size ≤ a.block ∧ a.block ≠ g5 ∧ (∀ b, X2 = some b → a.block ≠ b.block) ∧ ∀ b, X3 = some b → a.block ≠ b.block) := fun a ha => by
      rcases q3 with h | h
      · rw [h] at ha
        have h1 := FR.out.g.base ha
        exact ⟨h1.1, by omega, fun b hb => FR.out.gt a b ha hb, fun b hb => FR.out.gf a b ha hb⟩
      · have h1 : w2.heap.size + 1 ≤ a.block := by simpa using h a ha
        exact ⟨by omega, by omega, fun b hb => by have := (FR.out.t.base hb).2.1; omega, fun b hb => by have := (FR.out.f.base hb).2.1; omega⟩
    have HB3 := Lib.hid (HB2.out.trans (O3.below (B := w.heap.size) (fun j ⟨a, ha, e⟩ => by have := (FR.out.g.base ha).1; omega) (by omega)))
    have hz3 : w2.heap.size ≤ w3.heap.size := O3.size
    clear m3 g3 q3 O3 a0 a1 a2 a3 e0 e1 e2 e3 ef0 ef1 ef2 ef3 r0 r1 r2 r3 rf0 rf1 rf2 rf3 x0 x1 xf0 xf1
    obtain ⟨e0, e1, e2, e3, ef0, ef1, ef2, ef3⟩ := B5.out.four
    have l5 : g5 < w3.heap.size := by omega
    go_upto_region 11 with (fail)
    obtain ⟨w4, hw4⟩ : ∃ w4, w4 = w3.setCell ⟨g5, 1, none⟩ (.slice A1 (s.gens.length + 1) j1) := ⟨_, rfl⟩
    have O4 : Only (fun j => j = g5) w3 w4 := by rw [hw4]; exact only_own (F := fun j => j = g5) rfl _
    have C5 : Hid (Blk w4 g5 #[.int .i64 (m : Int), .slice A1 (s.gens.length + 1) j1, .slice X2 s.tk.length k2, .slice X3 s.fr.length k3] 31) := by show Blk _ _ _ _; rw [hw4]; exact B5.out.set 1 _
    have C0 := Lib.hid (B0.out.only O4 (by omega))
    have C1 := Lib.hid (B1.out.only O4 (by omega))
    have C2 := Lib.hid (B2.out.only O4 (by omega))
    have LG := Lib.hid (KG.out.only O4 (fun a ha e => (HA1.out a ha).2.1 e))
    have LT := Lib.hid (KT.out.only O4 (fun a ha e => by have := (FR.out.t.base ha).2.1; omega))
    have LF := Lib.hid (KF.out.only O4 (fun a ha e => by have := (FR.out.f.base ha).2.1; omega))
    have HB4 := Lib.hid (HB3.out.trans (O4.below (B := w.heap.size) (fun j e => by omega) (by omega)))
    have hz4 : w3.heap.size ≤ w4.heap.size := O4.size
    rw [← hw4]
    clear hw4 O4 e0 e1 e2 e3 ef0 ef1 ef2 ef3
    obtain ⟨e0, e1, e2, e3, ef0, ef1, ef2, ef3⟩ := C5.out.four
    go_wp2_with (at_builtin; (refine wpList_mine rfl _ _ elBo _ rfl rfl (LT.out.below (bnew w4 (.cells #[.bool true] 4)) (Nat.le_refl _)) _ rfl 1 _ (src_lit Try.underlying29 #[.bool true] 1 1 rfl (by simp [Value.oneCell'])) (by omega) (by omega) (by simp; omega) ?_))
    intro A2 j2 w5 m5 g5' q5
    have O5 : Only (fun j => ∃ a, X2 = some a ∧ a.block = j) w4 w5 := (Only.of_below (bnew w4 (.cells #[.bool true] 4)) (Nat.le_refl _) _).trans ((Only.of_grown g5' (F := fun j => ∃ a, X2 = some a ∧ a.block = j) (fun k e => by rw [Option.map_eq_some_iff] at e; exact e)).mono fun _ _ hf => Or.inl hf)
    have D5 := Lib.hid (C5.out.only O5 (fun ⟨a, ha, e⟩ => by have := (FR.out.t.base ha).2.1; omega))
    have D0 := Lib.hid (C0.out.only O5 (fun ⟨a, ha, e⟩ => by have := (FR.out.t.base ha).1; omega))
    have D1 := Lib.hid (C1.out.only O5 (fun ⟨a, ha, e⟩ => by have := (FR.out.t.base ha).1; omega))
    have D2 := Lib.hid (C2.out.only O5 (fun ⟨a, ha, e⟩ => by have := (FR.out.t.base ha).1; omega))
    have NG := Lib.hid (LG.out.only O5 (fun a ha ⟨b, hb, e⟩ => (HA1.out a ha).2.2.1 b hb e.symm))
    have NF := Lib.hid (LF.out.only O5 (fun a ha ⟨b, hb, e⟩ => FR.out.tf b a hb ha e))
    have NT := Lib.hid m5
    have HA2 : Hid (∀ a, A2 = some a → w0.heap.size ≤ a.block ∧ a.block ≠ g5) := fun a ha => by
      rcases q5 with h | h
      · rw [h] at ha
        have h1 := FR.out.t.base ha
        exact ⟨h1.1, by omega⟩
      · have h1 : w4.heap.size + 1 ≤ a.block := by simpa using h a ha
        exact ⟨by omega, by omega⟩
    have HB5 := Lib.hid (HB4.out.trans (O5.below (B := w.heap.size) (fun j ⟨a, ha, e⟩ => by have := (FR.out.t.base ha).1; omega) (by omega)))
    have hz5 : w4.heap.size ≤ w5.heap.size := O5.size
    clear m5 g5' q5 O5 e0 e1 e2 e3 ef0 ef1 ef2 ef3
    obtain ⟨e0, e1, e2, e3, ef0, ef1, ef2, ef3⟩ := D5.out.four
    have l5' : g5 < w5.heap.size := by omega
    go_wp2_with fail
    obtain ⟨w6, hw6⟩ : ∃ w6, w6 = w5.setCell ⟨g5, 2, none⟩ (.slice A2 (s.tk.length + 1) j2) := ⟨_, rfl⟩
    have O6 : Only (fun j => j = g5) w5 w6 := by rw [hw6]; exact only_own (F := fun j => j = g5) rfl _
    have U5 : Hid (Blk w6 g5 #[.int .i64 (m : Int), .slice A1 (s.gens.length + 1) j1, .slice A2 (s.tk.length + 1) j2, .slice X3 s.fr.length k3] 31) := by show Blk _ _ _ _; rw [hw6]; exact D5.out.set 2 _
    have U0 := Lib.hid (D0.out.only O6 (by omega))
    have U1 := Lib.hid (D1.out.only O6 (by omega))
    have U2 := Lib.hid (D2.out.only O6 (by omega))
    have FG := Lib.hid (NG.out.only O6 (fun a ha e => (HA1.out a ha).2.1 e))
    have FT := Lib.hid (NT.out.only O6 (fun a ha e => (HA2.out a ha).2 e))
    have FF := Lib.hid (NF.out.only O6 (fun a ha e => by have := (FR.out.f.base ha).2.1; omega))
    have HB3 := Lib.hid (HB5.out.trans (O6.below (B := w.heap.size) (fun j e => by omega) (by omega)))
    have hz6 : w5.heap.size ≤ w6.heap.size := O6.size
    rw [← hw6]
    clear hw6 O6 e0 e1 e2 e3 ef0 ef1 ef2 ef3
    have V5 := Lib.hid (show Blk w6.drew g5 _ _ from U5.out)
    have V0 := Lib.hid (show Blk w6.drew w.heap.size _ _ from U0.out)
    have V1 := Lib.hid (show Blk w6.drew (w.heap.size + 1) _ _ from U1.out)
    have V2 := Lib.hid (show Blk w6.drew (w.heap.size + 1 + 1) _ _ from U2.out)
    have GG := Lib.hid (mine_drew FG.out)
    have GT := Lib.hid (mine_drew FT.out)
    have GF := Lib.hid (mine_drew FF.out)
    have HBd := Lib.hid HB3.out.drew
    have hzd : w6.heap.size ≤ w6.drew.heap.size := Nat.le_refl _
    have hS0 : (fun v => v.cell? ⟨g5, 0, none⟩ = some (.int .i64 (m : Int)) ∧ v.cell? ⟨g5, 1, none⟩ = some (.slice A1 (s.gens.length + 1) j1) ∧ v.cell? ⟨g5, 2, none⟩ = some (.slice A2 (s.tk.length + 1) j2) ∧ v.cell? ⟨g5, 3, none⟩ = some (.slice X3 s.fr.length k3) ∧ v.cell? ⟨w.heap.size, 1, none⟩ = some (.slice X s.gens.length c)) w6.drew := ⟨U5.out.cell 0, U5.out.cell 1, U5.out.cell 2, U5.out.cell 3, U0.out.cell 1⟩
    refine wp_region_noPanic ?_
    refine wp_region_held_drew (S := fun v => v.cell? ⟨g5, 0, none⟩ = some (.int .i64 (m : Int)) ∧ v.cell? ⟨g5, 1, none⟩ = some (.slice A1 (s.gens.length + 1) j1) ∧ v.cell? ⟨g5, 2, none⟩ = some (.slice A2 (s.tk.length + 1) j2) ∧ v.cell? ⟨g5, 3, none⟩ = some (.slice X3 s.fr.length k3) ∧ v.cell? ⟨w.heap.size, 1, none⟩ = some (.slice X s.gens.length c)) (by kernel_rfl) (hS0) (fun hHeld => ?_)
    generalize w6.drew = u1 at V5 V0 V1 V2 GG GT GF HBd hzd hHeld ⊢
    refine wpAnyH_take (i := 0) (oi := ⟨some 57, _, _, _, _, _⟩) (v := ?_) rfl (by kernel_rfl) (by kernel_rfl) (by kernel_rfl) (fun _ _ _ h => h) (Or.inl ⟨by rfl, ?_⟩) (by assumption) ?_
    rotate_left
    · intro w hSw; go_simp; first | done | with_reducible rfl
    try simp only [Act.put, List.setIfInBounds_toArray, List.set_cons_zero, List.set_cons_succ]
    refine wpAnyH_take (i := 1) (oi := ⟨some 58, _, _, _, _, _⟩) (v := ?_) rfl (by kernel_rfl) (by kernel_rfl) (by kernel_rfl) (fun _ _ _ h => h) (Or.inl ⟨by rfl, ?_⟩) (by assumption) ?_
    rotate_left
    · intro w hSw; go_simp; first | done | with_reducible rfl
    try simp only [Act.put, List.setIfInBounds_toArray, List.set_cons_zero, List.set_cons_succ]
    refine wpAnyH_take (i := 2) (oi := ⟨some 59, _, _, _, _, _⟩) (v := ?_) rfl (by kernel_rfl) (by kernel_rfl) (by kernel_rfl) (fun _ _ _ h => h) (Or.inl ⟨by rfl, ?_⟩) (by assumption) ?_
    rotate_left
    · intro w hSw; go_simp; first | done | with_reducible rfl
    try simp only [Act.put, List.setIfInBounds_toArray, List.set_cons_zero, List.set_cons_succ]
    refine wpAnyH_take (i := 3) (oi := ⟨some 60, _, _, _, _, _⟩) (v := ?_) rfl (by kernel_rfl) (by kernel_rfl) (by kernel_rfl) (fun _ _ _ h => h) (Or.inl ⟨by rfl, ?_⟩) (by assumption) ?_
    rotate_left
    · intro w hSw; go_simp; first | done | with_reducible rfl
    try simp only [Act.put, List.setIfInBounds_toArray, List.set_cons_zero, List.set_cons_succ]
    refine wpAnyH_take (i := 4) (oi := ⟨some 61, _, _, _, _, _⟩) (v := ?_) rfl (by kernel_rfl) (by kernel_rfl) (by kernel_rfl) (fun _ _ _ h => h) (Or.inl ⟨by rfl, ?_⟩) (by assumption) ?_
    rotate_left
    · intro w hSw; go_simp; first | done | with_reducible rfl
    try simp only [Act.put, List.setIfInBounds_toArray, List.set_cons_zero, List.set_cons_succ]
    refine wpAnyH_ready (rs := [5]) (by kernel_rfl) (by simp) ?_
    refine AllReadyH.cons (o := ⟨none, _, _, _, _, _⟩) rfl (fun K hK => ?_) AllReadyH.nil
    obtain ⟨r0, r1, r2, r3, rf0, rf1, rf2, rf3⟩ := V1.out.four
    go_simp
    obtain ⟨u2, hu2⟩ : ∃ u2, u2 = ((((u1.setCell ⟨w.heap.size + 1, 0, none⟩ (.int .i64 (m : Int))).setCell ⟨w.heap.size + 1, 1, none⟩ (.slice A1 (s.gens.length + 1) j1)).setCell ⟨w.heap.size + 1, 2, none⟩ (.slice A2 (s.tk.length + 1) j2)).setCell ⟨w.heap.size + 1, 3, none⟩ (.slice X3 s.fr.length k3)) := ⟨_, rfl⟩
    have O5 : Only (fun j => j = w.heap.size + 1) u1 u2 := by rw [hu2]; exact ((((Only.refl (fun j => j = w.heap.size + 1) u1).put (ad := ⟨w.heap.size + 1, 0, none⟩) rfl _).put (ad := ⟨w.heap.size + 1, 1, none⟩) rfl _).put (ad := ⟨w.heap.size + 1, 2, none⟩) rfl _).put (ad := ⟨w.heap.size + 1, 3, none⟩) rfl _
    have Y1 : Hid (Blk u2 (w.heap.size + 1) #[.int .i64 (m : Int), .slice A1 (s.gens.length + 1) j1, .slice A2 (s.tk.length + 1) j2, .slice X3 s.fr.length k3] 31) := by
      have h1 := (((V1.out.set 0 (.int .i64 (m : Int))).set 1 (.slice A1 (s.gens.length + 1) j1)).set 2 (.slice A2 (s.tk.length + 1) j2)).set 3 (.slice X3 s.fr.length k3)
      show Blk _ _ _ _
      rw [hu2]; exact h1
    have Y5 := Lib.hid (V5.out.only O5 (by omega))
    have Y0 := Lib.hid (V0.out.only O5 (by omega))
    have Y2 := Lib.hid (V2.out.only O5 (by omega))
    have GG2 := Lib.hid (GG.out.only O5 (fun a ha e => by have := (GG.out.base ha).1; omega))
    have GT2 := Lib.hid (GT.out.only O5 (fun a ha e => by have := (GT.out.base ha).1; omega))
    have GF2 := Lib.hid (GF.out.only O5 (fun a ha e => by have := (GF.out.base ha).1; omega))
    have HBe := Lib.hid (HBd.out.trans (O5.below (B := w.heap.size) (fun j e => by omega) (by omega)))
    have hze := O5.size
    rw [← hu2]
    clear hu2 O5 r0 r1 r2 r3 rf0 rf1 rf2 rf3
    refine hK.out _ _ (⟨Y5.out.cell 0, Y5.out.cell 1, Y5.out.cell 2, Y5.out.cell 3, Y0.out.cell 1⟩) (fun hHeld => ?_)
    clear hK K
    try simp only [Act.put, List.setIfInBounds_toArray, List.set_cons_zero, List.set_cons_succ]
    refine wpAnyH_ready (rs := [6]) (by kernel_rfl) (by simp) ?_
    refine AllReadyH.cons (o := ⟨none, _, _, _, _, _⟩) rfl (fun K hK => ?_) AllReadyH.nil
    obtain ⟨x0, x1, xf0, xf1⟩ := Y2.out.two
    go_simp
    obtain ⟨u3, hu3⟩ : ∃ u3, u3 = ((u2.setCell ⟨w.heap.size + 1 + 1, 0, none⟩ (.int .i64 (s.gens.length : Int))).setCell ⟨w.heap.size + 1 + 1, 1, none⟩ (.int .i64 1)) := ⟨_, rfl⟩
    have O6 : Only (fun j => j = w.heap.size + 1 + 1) u2 u3 := by rw [hu3]; exact ((Only.refl (fun j => j = w.heap.size + 1 + 1) u2).put (ad := ⟨w.heap.size + 1 + 1, 0, none⟩) rfl _).put (ad := ⟨w.heap.size + 1 + 1, 1, none⟩) rfl _
    have Z2 : Hid (Blk u3 (w.heap.size + 1 + 1) #[.int .i64 (s.gens.length : Int), .int .i64 1] 35) := by
      have h1 := (Y2.out.set 0 (.int .i64 (s.gens.length : Int))).set 1 (.int .i64 1)
      show Blk _ _ _ _
      rw [hu3]; exact h1
    have Z1 := Lib.hid (Y1.out.only O6 (by omega))
    have Z5 := Lib.hid (Y5.out.only O6 (by omega))
    have Z0 := Lib.hid (Y0.out.only O6 (by omega))
    have GG3 := Lib.hid (GG2.out.only O6 (fun a ha e => by have := (GG.out.base ha).1; omega))
    have GT3 := Lib.hid (GT2.out.only O6 (fun a ha e => by have := (GT.out.base ha).1; omega))
    have GF3 := Lib.hid (GF2.out.only O6 (fun a ha e => by have := (GF.out.base ha).1; omega))
    have HBf := Lib.hid (HBe.out.trans (O6.below (B := w.heap.size) (fun j e => by omega) (by omega)))
    have hzf := O6.size
    rw [← hu3]
    clear hu3 O6 x0 x1 xf0 xf1
    refine hK.out _ _ (⟨Z5.out.cell 0, Z5.out.cell 1, Z5.out.cell 2, Z5.out.cell 3, Z0.out.cell 1⟩) (fun hHeld => ?_)
    clear hK K
    try simp only [Act.put, List.setIfInBounds_toArray, List.set_cons_zero, List.set_cons_succ]
    refine wpAnyH_take (i := 7) (oi := ⟨some 4, _, _, _, _, _⟩) (v := ?_) rfl (by kernel_rfl) (by kernel_rfl) (by kernel_rfl) (fun _ _ _ h => h) (Or.inl ⟨by rfl, ?_⟩) (by assumption) ?_
    rotate_left
    · intro w hSw; go_simp; first | done | with_reducible rfl
    try simp only [Act.put, List.setIfInBounds_toArray, List.set_cons_zero, List.set_cons_succ]
    refine wpAnyH_done (by kernel_rfl) ?_ _
    refine NoPanic.normal ?_
    clear hHeld
    obtain ⟨r0, r1, r2, r3, _⟩ := Z1.out.four
    obtain ⟨x0, x1, _, _⟩ := Z2.out.two
    go_wp2_with fail
    obtain ⟨t1, t2, t3, t4⟩ := TT.out
    rw [t1, t2, t3, t4]
    refine bodyPost_ret (v := .tuple #[.agg #[.int .i64 (m : Int), .slice A1 (s.gens.length + 1) j1, .slice A2 (s.tk.length + 1) j2, .slice X3 s.fr.length k3], .agg #[.int .i64 (s.gens.length : Int), .int .i64 1], .int .i64 0]) (by simp [results, Try.results24, go_sem, r0, r1, r2, r3, x0, x1]) rfl ⟨A1, j1, A2, j2, X3, k3, by rw [List.length_append, List.length_append, HF.out]; rfl, ?_, Frm.mine GG3.out (by omega), Frm.mine GT3.out (by omega), Frm.mine GF3.out (by omega), HBf.out⟩
    have hg := GG3.out; have ht := GT3.out; have hf3 := GF3.out
    rw [HF.out] at hf3
    refine ⟨?_, ?_, Rs.mine hf3⟩
    · rw [List.length_append]
      have := Rs.mine hg
      show Rs _ _ _ _ _ (ints (s.gens ++ [1]))
      rw [ints_snoc]; exact this
    · rw [List.length_append]
      have := Rs.mine ht
      show Rs _ _ _ _ _ (bools (s.tk ++ [true]))
      unfold bools; rw [List.map_append]; exact this
  case inr.inr =>
    have TT := Lib.hid (tk_old (M := m) hf)
    have hfl : s.fr.length = r.length + 1 := by rw [hf]; simp
    have hn : n < s.gens.length := HI.out.lt (by rw [hf]; simp)
    obtain ⟨gZ, oZ, eZ, lZ, _⟩ := HSW.out.f.rd.at_ (ints_get (show s.fr[r.length]? = some n by rw [hf]; simp))
    obtain ⟨gX, oX, eX, lX, _⟩ := HSW.out.g.rd.at_ (ints_get (List.getElem?_eq_getElem hn))
    subst eZ; subst eX
    obtain ⟨gZ', oZ', eZ, _, zc⟩ := S2.out.f.rd.at_ (ints_get (show s.fr[r.length]? = some n by rw [hf]; simp))
    obtain ⟨gX', oX', eX, _, xc⟩ := S2.out.g.rd.at_ (ints_get (List.getElem?_eq_getElem hn))
    injection eZ with eZ; injection eZ with eZ1 eZ2; subst eZ1; subst eZ2
    injection eX with eX; injection eX with eX1 eX2; subst eX1; subst eX2
    have hnt : n < s.tk.length := by rw [HT.out]; exact hn
    obtain ⟨g2, o2, rfl, l2a, l2b⟩ := mine_place FR.out.t (by rw [bools_len]; omega)
    obtain ⟨tc, tf⟩ := mine_cell FR2.out.t (bools_get (List.getElem?_eq_getElem hnt))
    obtain ⟨g3, o3, rfl, l3a, l3b⟩ := mine_place FR.out.f (by rw [ints_len]; omega)
    have hmx := FR2.out.f.max
    have hle3 := FR2.out.f.le
    unfold maxLen at hmx
    rw [hfl] at a3 e3
    have o1 : ¬ g2 = g5 := by omega
    have o2' : ¬ g5 = g2 := by omega
    have o3' : ¬ gX = g5 := by omega
    have o4 : ¬ gX = g2 := by omega
    have o5 : ¬ w.heap.size = g2 := by omega
    have o6 : ¬ g2 = w.heap.size := by omega
    have o7 : ¬ w.heap.size + 1 = g2 := by omega
    have o8 : ¬ g2 = w.heap.size + 1 := by omega
    have o9 : ¬ w.heap.size + 1 + 1 = g2 := by omega
    have o10 : ¬ g2 = w.heap.size + 1 + 1 := by omega
    have o11 : ¬ gX = w.heap.size := by omega
    have o12 : ¬ gX = w.heap.size + 1 := by omega
    have o13 : ¬ gX = w.heap.size + 1 + 1 := by omega
    obtain ⟨x, hx⟩ : ∃ x, x = s.gens[n] := ⟨_, rfl⟩
    obtain ⟨y, hy⟩ : ∃ y, y = s.tk[n] := ⟨_, rfl⟩
    rw [← hx] at xc
    rw [← hy] at tc
    have j1 : (n : Int) < (s.gens.length : Int) := by omega
    have j2 : (n : Int) < (s.tk.length : Int) := by omega
    have hrl : r.length ≤ 1048576 := by omega
    have hrk : r.length + 1 ≤ k3 := by omega
    have HX := Lib.hid hx; have HF := Lib.hid hf; have HFL := Lib.hid hfl
    clear hx hy hf hfl
    have CX := Lib.hid xc
    go_wp2_with fail
    obtain ⟨w3, hw3⟩ : ∃ w3, w3 = (w2.setCell ⟨g5, 3, none⟩ (.slice (some ⟨g3, o3, none⟩) r.length k3)).setCell ⟨g2, o2 + n, none⟩ (.bool true) := ⟨_, rfl⟩
    have O3 : Only (fun j => j = g5 ∨ j = g2) w2 w3 := by rw [hw3]; exact ((Only.refl (fun j => j = g5 ∨ j = g2) w2).put (ad := ⟨g5, 3, none⟩) (Or.inl rfl) _).put (ad := ⟨g2, o2 + n, none⟩) (Or.inr rfl) _
    have U5 : Hid (Blk w3 g5 #[.int .i64 (m : Int), .slice X1 s.gens.length k1, .slice (some ⟨g2, o2, none⟩) s.tk.length k2, .slice (some ⟨g3, o3, none⟩) r.length k3] 31) := by
      show Blk _ _ _ _
      have h5 := Q5.out
      rw [hw3]
      exact (h5.set 3 _).only (only_own (F := fun j => j = g2) rfl _) (fun e => o1 e.symm)
    have U0 := Lib.hid (R0.out.only O3 (by omega))
    have U1 := Lib.hid (R1.out.only O3 (by omega))
    have U2 := Lib.hid (R2.out.only O3 (by omega))
    have UX : Hid (w3.cell? ⟨gX, oX + n, none⟩ = some (.int .i64 (x : Int))) := by show _ = _; rw [O3.cell (a := ⟨gX, oX + n, none⟩) (by show gX < _; omega) (by show ¬ (gX = g5 ∨ gX = g2); omega)]; exact CX.out
    have FG : Hid (Mine w0.heap.size 1 w3 X1 s.gens.length k1 (ints s.gens)) := FR2.out.g.only O3 (fun a ha hf => by have := (FR.out.g.base ha).2.1; have h2 := FR.out.gt a _ ha rfl; rcases hf with hf | hf; omega; exact h2 hf)
    have FT : Hid (Mine w0.heap.size 1 w3 (some ⟨g2, o2, none⟩) s.tk.length k2 (bools (s.tk.set n true))) := by
      show Mine _ _ _ _ _ _ _
      rw [hw3]
      exact mine_put (FR2.out.t.only (only_own (F := fun j => j = g5) rfl _) (fun a ha e => by injection ha with ha; subst ha; exact o1 e)) n _ (by rw [bools_len]; exact hnt) (by unfold bools; rw [List.map_set])
    have FF : Hid (Mine w0.heap.size 1 w3 (some ⟨g3, o3, none⟩) r.length k3 (ints r)) := by
      have h1 := FR2.out.f.only O3 (fun a ha hf => by have h2 := FR.out.tf _ a rfl ha; injection ha with ha; subst ha; rcases hf with hf | hf; (have hf : g3 = g5 := hf; omega); exact h2 hf.symm)
      have h2 := shrink h1 (show r.length ≤ s.fr.length from by have := HFL.out; omega)
      have h3 : (ints s.fr).take (r.length * 1) = ints r := by rw [HF.out]; unfold ints; simp
      rw [h3] at h2; exact h2
    have HB3 := Lib.hid (HB2.out.trans (O3.below (B := w.heap.size) (fun j e => by omega) (by omega)))
    have hz3 : w2.heap.size ≤ w3.heap.size := O3.size
    rw [← hw3]
    clear hw3 O3 a0 a1 a2 a3 e0 e1 e2 e3 ef0 ef1 ef2 ef3 r0 r1 r2 r3 rf0 rf1 rf2 rf3 x0 x1 xf0 xf1 tc tf zc xc
    have V5 := Lib.hid (show Blk w3.drew g5 _ _ from U5.out)
    have V0 := Lib.hid (show Blk w3.drew w.heap.size _ _ from U0.out)
    have V1 := Lib.hid (show Blk w3.drew (w.heap.size + 1) _ _ from U1.out)
    have V2 := Lib.hid (show Blk w3.drew (w.heap.size + 1 + 1) _ _ from U2.out)
    have GG := Lib.hid (mine_drew FG.out)
    have GT := Lib.hid (mine_drew FT.out)
    have GF := Lib.hid (mine_drew FF.out)
    have HBd := Lib.hid HB3.out.drew
    have hzd : w3.heap.size ≤ w3.drew.heap.size := Nat.le_refl _
    have hS0 : (fun v => v.cell? ⟨g5, 0, none⟩ = some (.int .i64 (m : Int)) ∧ v.cell? ⟨g5, 1, none⟩ = some (.slice X1 s.gens.length k1) ∧ v.cell? ⟨g5, 2, none⟩ = some (.slice (some ⟨g2, o2, none⟩) s.tk.length k2) ∧ v.cell? ⟨g5, 3, none⟩ = some (.slice (some ⟨g3, o3, none⟩) r.length k3) ∧ v.cell? ⟨w.heap.size, 1, none⟩ = some (.slice (some ⟨gX, oX, none⟩) s.gens.length c) ∧ v.cell? ⟨gX, oX + n, none⟩ = some (.int .i64 (x : Int))) w3.drew := ⟨U5.out.cell 0, U5.out.cell 1, U5.out.cell 2, U5.out.cell 3, U0.out.cell 1, UX.out⟩
    refine wp_region_noPanic ?_
    refine wp_region_held_drew (S := fun v => v.cell? ⟨g5, 0, none⟩ = some (.int .i64 (m : Int)) ∧ v.cell? ⟨g5, 1, none⟩ = some (.slice X1 s.gens.length k1) ∧ v.cell? ⟨g5, 2, none⟩ = some (.slice (some ⟨g2, o2, none⟩) s.tk.length k2) ∧ v.cell? ⟨g5, 3, none⟩ = some (.slice (some ⟨g3, o3, none⟩) r.length k3) ∧ v.cell? ⟨w.heap.size, 1, none⟩ = some (.slice (some ⟨gX, oX, none⟩) s.gens.length c) ∧ v.cell? ⟨gX, oX + n, none⟩ = some (.int .i64 (x : Int))) (by kernel_rfl) (hS0) (fun hHeld => ?_)
    have VX : Hid (w3.drew.cell? ⟨gX, oX + n, none⟩ = some (.int .i64 (x : Int))) := UX.out
    generalize w3.drew = u1 at V5 V0 V1 V2 GG GT GF HBd hzd hHeld VX ⊢
    refine wpAnyH_take (i := 0) (oi := ⟨some 31, _, _, _, _, _⟩) (v := ?_) rfl (by kernel_rfl) (by kernel_rfl) (by kernel_rfl) (fun _ _ _ h => h) (Or.inl ⟨by rfl, ?_⟩) (by assumption) ?_
    rotate_left
    · intro w hSw; go_simp; first | done | with_reducible rfl
    try simp only [Act.put, List.setIfInBounds_toArray, List.set_cons_zero, List.set_cons_succ]
    refine wpAnyH_take (i := 1) (oi := ⟨some 32, _, _, _, _, _⟩) (v := ?_) rfl (by kernel_rfl) (by kernel_rfl) (by kernel_rfl) (fun _ _ _ h => h) (Or.inl ⟨by rfl, ?_⟩) (by assumption) ?_
    rotate_left
    · intro w hSw; go_simp; first | done | with_reducible rfl
    try simp only [Act.put, List.setIfInBounds_toArray, List.set_cons_zero, List.set_cons_succ]
    refine wpAnyH_take (i := 2) (oi := ⟨some 33, _, _, _, _, _⟩) (v := ?_) rfl (by kernel_rfl) (by kernel_rfl) (by kernel_rfl) (fun _ _ _ h => h) (Or.inl ⟨by rfl, ?_⟩) (by assumption) ?_
    rotate_left
    · intro w hSw; go_simp; first | done | with_reducible rfl
    try simp only [Act.put, List.setIfInBounds_toArray, List.set_cons_zero, List.set_cons_succ]
    refine wpAnyH_take (i := 3) (oi := ⟨some 34, _, _, _, _, _⟩) (v := ?_) rfl (by kernel_rfl) (by kernel_rfl) (by kernel_rfl) (fun _ _ _ h => h) (Or.inl ⟨by rfl, ?_⟩) (by assumption) ?_
    rotate_left
    · intro w hSw; go_simp; first | done | with_reducible rfl
    try simp only [Act.put, List.setIfInBounds_toArray, List.set_cons_zero, List.set_cons_succ]
    refine wpAnyH_take (i := 4) (oi := ⟨some 35, _, _, _, _, _⟩) (v := ?_) rfl (by kernel_rfl) (by kernel_rfl) (by kernel_rfl) (fun _ _ _ h => h) (Or.inl ⟨by rfl, ?_⟩) (by assumption) ?_
    rotate_left
    · intro w hSw; go_simp; first | done | with_reducible rfl
    try simp only [Act.put, List.setIfInBounds_toArray, List.set_cons_zero, List.set_cons_succ]
    refine wpAnyH_take (i := 5) (oi := ⟨some 36, _, _, _, _, _⟩) (v := ?_) rfl (by kernel_rfl) (by kernel_rfl) (by kernel_rfl) (fun _ _ _ h => h) (Or.inl ⟨by rfl, ?_⟩) (by assumption) ?_
    rotate_left
    · intro w hSw; go_simp; first | done | with_reducible rfl
    try simp only [Act.put, List.setIfInBounds_toArray, List.set_cons_zero, List.set_cons_succ]
    refine wpAnyH_take (i := 6) (oi := ⟨some 37, _, _, _, _, _⟩) (v := ?_) rfl (by kernel_rfl) (by kernel_rfl) (by kernel_rfl) (fun _ _ _ h => h) (Or.inl ⟨by rfl, ?_⟩) (by assumption) ?_
    rotate_left
    · intro w hSw; go_simp; first | done | with_reducible rfl
    try simp only [Act.put, List.setIfInBounds_toArray, List.set_cons_zero, List.set_cons_succ]
    refine wpAnyH_take (i := 7) (oi := ⟨some 38, _, _, _, _, _⟩) (v := ?_) rfl (by kernel_rfl) (by kernel_rfl) (by kernel_rfl) (fun _ _ _ h => h) (Or.inl ⟨by rfl, ?_⟩) (by assumption) ?_
    rotate_left
    · intro w hSw; go_simp; first | done | with_reducible rfl
    try simp only [Act.put, List.setIfInBounds_toArray, List.set_cons_zero, List.set_cons_succ]
    refine wpAnyH_ready (rs := [8]) (by kernel_rfl) (by simp) ?_
    refine AllReadyH.cons (o := ⟨none, _, _, _, _, _⟩) rfl (fun K hK => ?_) AllReadyH.nil
    obtain ⟨r0, r1, r2, r3, rf0, rf1, rf2, rf3⟩ := V1.out.four
    go_simp
    obtain ⟨u2, hu2⟩ : ∃ u2, u2 = ((((u1.setCell ⟨w.heap.size + 1, 0, none⟩ (.int .i64 (m : Int))).setCell ⟨w.heap.size + 1, 1, none⟩ (.slice X1 s.gens.length k1)).setCell ⟨w.heap.size + 1, 2, none⟩ (.slice (some ⟨g2, o2, none⟩) s.tk.length k2)).setCell ⟨w.heap.size + 1, 3, none⟩ (.slice (some ⟨g3, o3, none⟩) r.length k3)) := ⟨_, rfl⟩
    have O5 : Only (fun j => j = w.heap.size + 1) u1 u2 := by rw [hu2]; exact ((((Only.refl (fun j => j = w.heap.size + 1) u1).put (ad := ⟨w.heap.size + 1, 0, none⟩) rfl _).put (ad := ⟨w.heap.size + 1, 1, none⟩) rfl _).put (ad := ⟨w.heap.size + 1, 2, none⟩) rfl _).put (ad := ⟨w.heap.size + 1, 3, none⟩) rfl _
    have Y1 : Hid (Blk u2 (w.heap.size + 1) #[.int .i64 (m : Int), .slice X1 s.gens.length k1, .slice (some ⟨g2, o2, none⟩) s.tk.length k2, .slice (some ⟨g3, o3, none⟩) r.length k3] 31) := by
      have h1 := (((V1.out.set 0 (.int .i64 (m : Int))).set 1 (.slice X1 s.gens.length k1)).set 2 (.slice (some ⟨g2, o2, none⟩) s.tk.length k2)).set 3 (.slice (some ⟨g3, o3, none⟩) r.length k3)
      show Blk _ _ _ _
      rw [hu2]; exact h1
    have Y5 := Lib.hid (V5.out.only O5 (by omega))
    have Y0 := Lib.hid (V0.out.only O5 (by omega))
    have Y2 := Lib.hid (V2.out.only O5 (by omega))
    have YX : Hid (u2.cell? ⟨gX, oX + n, none⟩ = some (.int .i64 (x : Int))) := by show _ = _; rw [O5.cell (a := ⟨gX, oX + n, none⟩) (by show gX < _; omega) (by show ¬ gX = w.heap.size + 1; omega)]; exact VX.out
    have GG2 := Lib.hid (GG.out.only O5 (fun a ha e => by have := (GG.out.base ha).1; omega))
    have GT2 := Lib.hid (GT.out.only O5 (fun a ha e => by have := (GT.out.base ha).1; omega))
    have GF2 := Lib.hid (GF.out.only O5 (fun a ha e => by have := (GF.out.base ha).1; omega))
    have HBe := Lib.hid (HBd.out.trans (O5.below (B := w.heap.size) (fun j e => by omega) (by omega)))
    have hze := O5.size
    rw [← hu2]
    clear hu2 O5 r0 r1 r2 r3 rf0 rf1 rf2 rf3
    refine hK.out _ _ (⟨Y5.out.cell 0, Y5.out.cell 1, Y5.out.cell 2, Y5.out.cell 3, Y0.out.cell 1, YX.out⟩) (fun hHeld => ?_)
    clear hK K
    try simp only [Act.put, List.setIfInBounds_toArray, List.set_cons_zero, List.set_cons_succ]
    refine wpAnyH_ready (rs := [9]) (by kernel_rfl) (by simp) ?_
    refine AllReadyH.cons (o := ⟨none, _, _, _, _, _⟩) rfl (fun K hK => ?_) AllReadyH.nil
    obtain ⟨x0, x1, xf0, xf1⟩ := Y2.out.two
    go_simp
    obtain ⟨u3, hu3⟩ : ∃ u3, u3 = ((u2.setCell ⟨w.heap.size + 1 + 1, 0, none⟩ (.int .i64 (n : Int))).setCell ⟨w.heap.size + 1 + 1, 1, none⟩ (.int .i64 (x : Int))) := ⟨_, rfl⟩
    have O6 : Only (fun j => j = w.heap.size + 1 + 1) u2 u3 := by rw [hu3]; exact ((Only.refl (fun j => j = w.heap.size + 1 + 1) u2).put (ad := ⟨w.heap.size + 1 + 1, 0, none⟩) rfl _).put (ad := ⟨w.heap.size + 1 + 1, 1, none⟩) rfl _
    have Z2 : Hid (Blk u3 (w.heap.size + 1 + 1) #[.int .i64 (n : Int), .int .i64 (x : Int)] 35) := by
      have h1 := (Y2.out.set 0 (.int .i64 (n : Int))).set 1 (.int .i64 (x : Int))
      show Blk _ _ _ _
      rw [hu3]; exact h1
    have Z1 := Lib.hid (Y1.out.only O6 (by omega))
    have Z5 := Lib.hid (Y5.out.only O6 (by omega))
    have Z0 := Lib.hid (Y0.out.only O6 (by omega))
    have ZX : Hid (u3.cell? ⟨gX, oX + n, none⟩ = some (.int .i64 (x : Int))) := by show _ = _; rw [O6.cell (a := ⟨gX, oX + n, none⟩) (by show gX < _; omega) (by show ¬ gX = w.heap.size + 1 + 1; omega)]; exact YX.out
    have GG3 := Lib.hid (GG2.out.only O6 (fun a ha e => by have := (GG.out.base ha).1; omega))
    have GT3 := Lib.hid (GT2.out.only O6 (fun a ha e => by have := (GT.out.base ha).1; omega))
    have GF3 := Lib.hid (GF2.out.only O6 (fun a ha e => by have := (GF.out.base ha).1; omega))
    have HBf := Lib.hid (HBe.out.trans (O6.below (B := w.heap.size) (fun j e => by omega) (by omega)))
    have hzf := O6.size
    rw [← hu3]
    clear hu3 O6 x0 x1 xf0 xf1
    refine hK.out _ _ (⟨Z5.out.cell 0, Z5.out.cell 1, Z5.out.cell 2, Z5.out.cell 3, Z0.out.cell 1, ZX.out⟩) (fun hHeld => ?_)
    clear hK K
    try simp only [Act.put, List.setIfInBounds_toArray, List.set_cons_zero, List.set_cons_succ]
    refine wpAnyH_take (i := 10) (oi := ⟨some 4, _, _, _, _, _⟩) (v := ?_) rfl (by kernel_rfl) (by kernel_rfl) (by kernel_rfl) (fun _ _ _ h => h) (Or.inl ⟨by rfl, ?_⟩) (by assumption) ?_
    rotate_left
    · intro w hSw; go_simp; first | done | with_reducible rfl
    try simp only [Act.put, List.setIfInBounds_toArray, List.set_cons_zero, List.set_cons_succ]
    refine wpAnyH_done (by kernel_rfl) ?_ _
    refine NoPanic.normal ?_
    clear hHeld
    obtain ⟨r0, r1, r2, r3, _⟩ := Z1.out.four
    obtain ⟨x0, x1, _, _⟩ := Z2.out.two
    go_wp2_with fail
    obtain ⟨t1, t2, t3, t4⟩ := TT.out
    rw [t1, t2, t3, t4]
    have hge : genAt s (n : Int) = x := by rw [genAt_nat hn, HX.out]
    rw [hge]
    refine bodyPost_ret (v := .tuple #[.agg #[.int .i64 (m : Int), .slice X1 s.gens.length k1, .slice (some ⟨g2, o2, none⟩) s.tk.length k2, .slice (some ⟨g3, o3, none⟩) r.length k3], .agg #[.int .i64 (n : Int), .int .i64 (x : Int)], .int .i64 0]) (by simp [results, Try.results24, go_sem, r0, r1, r2, r3, x0, x1]) rfl ⟨X1, k1, some ⟨g2, o2, none⟩, k2, some ⟨g3, o3, none⟩, k3, by rw [List.length_set], ?_, Frm.mine GG3.out (by omega), Frm.mine GT3.out (by omega), Frm.mine GF3.out (by omega), HBf.out⟩
    exact ⟨Rs.mine GG3.out, by rw [List.length_set]; exact Rs.mine GT3.out, Rs.mine GF3.out⟩
end Go.Proofs.Ytighehonkookhaa.Nj
