/- Proves what the law's call of one method on both arenas returns and leaves. Conditions: as each theorem names them. -/
import Derived.Test.YtighehonkookhaaNq
import Derived.Deep.Cut
namespace Go.Proofs.Ytighehonkookhaa.Nt
open Go.RowKit Ap Mi Nm Nw Na Nb Rg Nc Nd Nx Nf Ng Nh Nj Nk Nl Np Nq

/-- The arena in block g, and the specification's one as slices, in the same state and apart. -/
structure Both (N : Nat) (w : World) (F : Nat → Prop) (g m G : Nat) (s : St) (X : Option Addr) (c : Nat) (Y : Option Addr) (d : Nat) (Z : Option Addr) (e : Nat) : Prop where
  are : Are F w g m G s
  spa : Spa w s X c Y d Z e
  fl : ∀ j, F j → N ≤ j ∧ j < w.heap.size
  xF : ∀ a, X = some a → ¬ F a.block ∧ a.block < w.heap.size
  yF : ∀ a, Y = some a → ¬ F a.block ∧ a.block < w.heap.size
  zF : ∀ a, Z = some a → ¬ F a.block ∧ a.block < w.heap.size
section
variable {N : Nat} {w w' : World} {F H : Nat → Prop} {g m G : Nat} {s : St} {X Y Z : Option Addr} {c d e : Nat}
theorem Both.only (h : Both N w F g m G s X c Y d Z e) (ho : Only H w w') (hF : ∀ j, H j → ¬ F j) (hX : ∀ a, X = some a → ¬ H a.block) (hY : ∀ a, Y = some a → ¬ H a.block) (hZ : ∀ a, Z = some a → ¬ H a.block) : Both N w' F g m G s X c Y d Z e :=
  have hz := ho.size
  ⟨h.are.only ho (fun j hf hh => hF j hh hf), h.spa.only ho hX hY hZ, fun j hf => ⟨(h.fl j hf).1, Nat.lt_of_lt_of_le (h.fl j hf).2 hz⟩, fun a ha => ⟨(h.xF a ha).1, Nat.lt_of_lt_of_le (h.xF a ha).2 hz⟩, fun a ha => ⟨(h.yF a ha).1, Nat.lt_of_lt_of_le (h.yF a ha).2 hz⟩, fun a ha => ⟨(h.zF a ha).1, Nat.lt_of_lt_of_le (h.zF a ha).2 hz⟩⟩
theorem Both.below {B : Nat} (h : Both N w F g m G s X c Y d Z e) (hb : Below B w w') (hB : w.heap.size ≤ B) : Both N w' F g m G s X c Y d Z e :=
  h.only (Only.of_below hb hB (fun _ => False)) (fun _ hf => hf.elim) (fun _ _ hf => hf) (fun _ _ hf => hf) (fun _ _ hf => hf)
theorem Both.more {G' : Nat} (h : Both N w F g m G s X c Y d Z e) (hG : G ≤ G') : Both N w F g m G' s X c Y d Z e := ⟨h.are.more hG, h.spa, h.fl, h.xF, h.yF, h.zF⟩
end
/-- A row that is an older one outside F, or lies in memory that was new between two worlds, lies outside what the arena has taken since. -/
theorem apart_row {F : Nat → Prop} {w u v : World} {A A' : Option Addr} {L : Nat} (hF : ∀ j, F j → j < w.heap.size) (hA : ∀ a, A = some a → ¬ F a.block ∧ a.block < w.heap.size) (h : Frm L u.heap.size A A') (hL : w.heap.size ≤ L) (hu : w.heap.size ≤ u.heap.size) (huv : u.heap.size ≤ v.heap.size) :
    ∀ a, A' = some a → ¬ (More F u a.block ∧ a.block < v.heap.size) ∧ a.block < v.heap.size := fun a ha => by
  rcases h a ha with h | ⟨h1, h2⟩
  · obtain ⟨h3, h4⟩ := hA a h
    refine ⟨fun hf => ?_, by omega⟩
    rcases hf.1 with hf | hf
    · exact h3 hf
    · omega
  · refine ⟨fun hf => ?_, by omega⟩
    rcases hf.1 with hf | hf
    · have := hF _ hf; omega
    · omega
/-- The state behind a call. -/
def actX (s : St) (a n x : Int) : Int := if a = 2 ∧ ist s n = true then (genAt s n : Int) else x
def actS (m : Nat) (s : St) (a n x : Int) : St := if a = 0 then tkS m s else if a = 1 ∨ a = 2 then frS s n (actX s a n x) else s
theorem act0 (m : Nat) (s : St) (n x : Int) : actS m s 0 n x = tkS m s := rfl
theorem act1 (m : Nat) (s : St) (n x : Int) : actS m s 1 n x = frS s n x := by unfold actS actX; simp
theorem act2 (m : Nat) (s : St) (n x : Int) : actS m s 2 n x = frS s n (if ist s n = true then (genAt s n : Int) else x) := by unfold actS actX; simp
theorem act3 (m : Nat) (s : St) (a n x : Int) (h0 : a ≠ 0) (h1 : a ≠ 1) (h2 : a ≠ 2) : actS m s a n x = s := by unfold actS; simp [h0, h1, h2]
/-- What the call leaves. -/
def doPost (N : Nat) (w : World) (F : Nat → Prop) (m G : Nat) (s : St) (X Y Z : Option Addr) (a n x : Int) : Ending → World → Prop := fun r w' =>
  ∃ g' F' X' c' Y' d' Z' e', r = .returned (.tuple #[.pointer (some ⟨g', 0, none⟩), .agg #[.int .i64 (m : Int), .slice X' (actS m s a n x).gens.length c', .slice Y' (actS m s a n x).tk.length d', .slice Z' (actS m s a n x).fr.length e'], .bool true]) ∧
    Both N w' F' g' m (G + 1) (actS m s a n x) X' c' Y' d' Z' e' ∧ Only F w w' ∧ (∀ a, X' = some a → X = some a ∨ w.heap.size ≤ a.block) ∧ (∀ a, Y' = some a → Y = some a ∨ w.heap.size ≤ a.block) ∧ (∀ a, Z' = some a → Z = some a ∨ w.heap.size ≤ a.block) ∧ ∀ j, F' j → F j ∨ w.heap.size ≤ j
/-- Four cells of a block of the call's own are written. -/
theorem four_only {w : World} {b : Nat} (v0 v1 v2 v3 : Value) : Only (fun j => j = b) w ((((w.setCell ⟨b, 0, none⟩ v0).setCell ⟨b, 1, none⟩ v1).setCell ⟨b, 2, none⟩ v2).setCell ⟨b, 3, none⟩ v3) :=
  ((((Only.refl (fun j => j = b) w).put (ad := ⟨b, 0, none⟩) rfl _).put (ad := ⟨b, 1, none⟩) rfl _).put (ad := ⟨b, 2, none⟩) rfl _).put (ad := ⟨b, 3, none⟩) rfl _
set_option maxRecDepth 100000 in
set_option maxHeartbeats 4000000 in
theorem do0 {N : Nat} {w : World} {F : Nat → Prop} {g m G : Nat} {s : St} {X Y Z : Option Addr} {c d e : Nat} (h : Both N w F g m G s X c Y d Z e) (hG1 : 1 ≤ G) (hG : G ≤ 1000000000) (hN : N ≤ w.heap.size) (n x : Int) :
    Calls Try.prog 11 #[.pointer (some ⟨g, 0, none⟩), .agg #[.int .i64 (m : Int), .slice X s.gens.length c, .slice Y s.tk.length d, .slice Z s.fr.length e], .agg #[.int .i64 0, .int .i64 n, .int .i64 x]] w (doPost N w F m G s X Y Z 0 n x) := by
  obtain ⟨w0, hw0⟩ : ∃ w0, w0 = (((w.alloc (.cells #[.int .i64 (m : Int), .slice X s.gens.length c, .slice Y s.tk.length d, .slice Z s.fr.length e] 31)).alloc (.cells #[.int .i64 0, .int .i64 n, .int .i64 x] 37)).alloc (.cells #[.int .i64 0, .slice none 0 0, .slice none 0 0, .slice none 0 0] 31)).alloc (.cells #[.int .i64 n, .int .i64 x] 35) := ⟨_, rfl⟩
  have b0 : Below w.heap.size w w0 := by rw [hw0]; exact ((((bnew w _).alloc (by simp) _).alloc (by simp; omega) _).alloc (by simp; omega) _)
  have p0 : Blk w0 (w.heap.size) #[.int .i64 (m : Int), .slice X s.gens.length c, .slice Y s.tk.length d, .slice Z s.fr.length e] 31 := by
    have h := Blk.new w #[.int .i64 (m : Int), .slice X s.gens.length c, .slice Y s.tk.length d, .slice Z s.fr.length e] 31
    replace h := h.below (bnew (w.alloc (.cells #[.int .i64 (m : Int), .slice X s.gens.length c, .slice Y s.tk.length d, .slice Z s.fr.length e] 31)) (.cells #[.int .i64 0, .int .i64 n, .int .i64 x] 37)) (by simp <;> omega)
    replace h := h.below (bnew ((w.alloc (.cells #[.int .i64 (m : Int), .slice X s.gens.length c, .slice Y s.tk.length d, .slice Z s.fr.length e] 31)).alloc (.cells #[.int .i64 0, .int .i64 n, .int .i64 x] 37)) (.cells #[.int .i64 0, .slice none 0 0, .slice none 0 0, .slice none 0 0] 31)) (by simp <;> omega)
    replace h := h.below (bnew (((w.alloc (.cells #[.int .i64 (m : Int), .slice X s.gens.length c, .slice Y s.tk.length d, .slice Z s.fr.length e] 31)).alloc (.cells #[.int .i64 0, .int .i64 n, .int .i64 x] 37)).alloc (.cells #[.int .i64 0, .slice none 0 0, .slice none 0 0, .slice none 0 0] 31)) (.cells #[.int .i64 n, .int .i64 x] 35)) (by simp <;> omega)
    rw [hw0]; simpa using h
  have p1 : Blk w0 (w.heap.size + 1) #[.int .i64 0, .int .i64 n, .int .i64 x] 37 := by
    have h := Blk.new (w.alloc (.cells #[.int .i64 (m : Int), .slice X s.gens.length c, .slice Y s.tk.length d, .slice Z s.fr.length e] 31)) #[.int .i64 0, .int .i64 n, .int .i64 x] 37
    replace h := h.below (bnew ((w.alloc (.cells #[.int .i64 (m : Int), .slice X s.gens.length c, .slice Y s.tk.length d, .slice Z s.fr.length e] 31)).alloc (.cells #[.int .i64 0, .int .i64 n, .int .i64 x] 37)) (.cells #[.int .i64 0, .slice none 0 0, .slice none 0 0, .slice none 0 0] 31)) (by simp <;> omega)
    replace h := h.below (bnew (((w.alloc (.cells #[.int .i64 (m : Int), .slice X s.gens.length c, .slice Y s.tk.length d, .slice Z s.fr.length e] 31)).alloc (.cells #[.int .i64 0, .int .i64 n, .int .i64 x] 37)).alloc (.cells #[.int .i64 0, .slice none 0 0, .slice none 0 0, .slice none 0 0] 31)) (.cells #[.int .i64 n, .int .i64 x] 35)) (by simp <;> omega)
    rw [hw0]; simpa using h
  have p2 : Blk w0 (w.heap.size + 1 + 1) #[.int .i64 0, .slice none 0 0, .slice none 0 0, .slice none 0 0] 31 := by
    have h := Blk.new ((w.alloc (.cells #[.int .i64 (m : Int), .slice X s.gens.length c, .slice Y s.tk.length d, .slice Z s.fr.length e] 31)).alloc (.cells #[.int .i64 0, .int .i64 n, .int .i64 x] 37)) #[.int .i64 0, .slice none 0 0, .slice none 0 0, .slice none 0 0] 31
    replace h := h.below (bnew (((w.alloc (.cells #[.int .i64 (m : Int), .slice X s.gens.length c, .slice Y s.tk.length d, .slice Z s.fr.length e] 31)).alloc (.cells #[.int .i64 0, .int .i64 n, .int .i64 x] 37)).alloc (.cells #[.int .i64 0, .slice none 0 0, .slice none 0 0, .slice none 0 0] 31)) (.cells #[.int .i64 n, .int .i64 x] 35)) (by simp <;> omega)
    rw [hw0]; simpa using h
  have p3 : Blk w0 (w.heap.size + 1 + 1 + 1) #[.int .i64 n, .int .i64 x] 35 := by
    have h := Blk.new (((w.alloc (.cells #[.int .i64 (m : Int), .slice X s.gens.length c, .slice Y s.tk.length d, .slice Z s.fr.length e] 31)).alloc (.cells #[.int .i64 0, .int .i64 n, .int .i64 x] 37)).alloc (.cells #[.int .i64 0, .slice none 0 0, .slice none 0 0, .slice none 0 0] 31)) #[.int .i64 n, .int .i64 x] 35
    rw [hw0]; simpa using h
  have hz0 : w.heap.size + 1 + 1 + 1 < w0.heap.size := p3.lt
  have HB0 := Lib.hid b0; have P0 := Lib.hid p0; have P1 := Lib.hid p1; have P2 := Lib.hid p2; have P3 := Lib.hid p3
  have HI := Lib.hid h.are.inv; have HM := Lib.hid h.are.hi
  have HO := Lib.hid h
  have H0 := Lib.hid (h.below b0 (Nat.le_refl _))
  have HFL : Hid (∀ j, F j → j < w.heap.size) := fun j hj => (HO.out.fl j hj).2
  have AE := Lib.hid (act0 m s n x)
  have hu := And.intro hG1 (And.intro hG hN)
  clear hu
  unfold doPost
  have HC := Lib.hid (rtake_any H0.out.spa HI.out HM.out)
  unfold rtakePost at HC
  obtain ⟨s1, hs1⟩ : ∃ s1, s1 = tkS m s := ⟨_, rfl⟩
  have HS1 := Lib.hid hs1
  rw [← hs1] at HC AE
  obtain ⟨tn, htn⟩ : ∃ t, t = tkN m s := ⟨_, rfl⟩
  obtain ⟨tg, htg⟩ : ∃ t, t = tkG m s := ⟨_, rfl⟩
  obtain ⟨te, hte⟩ : ∃ t, t = tkE m s := ⟨_, rfl⟩
  rw [← htn, ← htg, ← hte] at HC
  have HTN := Lib.hid htn; have HTG := Lib.hid htg; have HTE := Lib.hid hte
  clear h b0 p0 p1 p2 p3 hs1 htn htg hte
  go_enter Try.func11, Try.ntmps11
  go_wp2_with fail
  rw [← hw0]
  clear hw0
  refine HC.out.mono ?_
  rintro r w1 ⟨X1, k1, Y1, k2, Z1, k3, rfl, hs, fx, fy, fz, hb⟩
  have HS := Lib.hid hs; have FX := Lib.hid fx; have FY := Lib.hid fy; have FZ := Lib.hid fz
  have HB1 := Lib.hid (HB0.out.trans (hb.mono HB0.out.size))
  have H1 := Lib.hid (H0.out.are.below hb (Nat.le_refl _))
  have Q2 := Lib.hid (P2.out.below hb P2.out.lt)
  have hz1 : w0.heap.size ≤ w1.heap.size := hb.size
  clear hs fx fy fz hb HC
  obtain ⟨w2, hw2⟩ : ∃ w2, w2 = (w1.alloc (.cells #[.int .i64 (m : Int), .slice X1 s1.gens.length k1, .slice Y1 s1.tk.length k2, .slice Z1 s1.fr.length k3] 31)).alloc (.cells #[.int .i64 tn, .int .i64 tg] 35) := ⟨_, rfl⟩
  obtain ⟨g10, hg10⟩ : ∃ g10, g10 = w1.heap.size := ⟨_, rfl⟩
  obtain ⟨g11, hg11⟩ : ∃ g11, g11 = w1.heap.size + 1 := ⟨_, rfl⟩
  have b2 : Below w1.heap.size w1 w2 := by rw [hw2]; exact (bnew w1 _).alloc (by simp) _
  have r10 : Blk w2 g10 #[.int .i64 (m : Int), .slice X1 s1.gens.length k1, .slice Y1 s1.tk.length k2, .slice Z1 s1.fr.length k3] 31 := by rw [hw2, hg10]; exact (Blk.new w1 _ _).below (bnew _ _) (by simp)
  have r11 : Blk w2 g11 #[.int .i64 tn, .int .i64 tg] 35 := by
    have h := Blk.new (w1.alloc (.cells #[.int .i64 (m : Int), .slice X1 s1.gens.length k1, .slice Y1 s1.tk.length k2, .slice Z1 s1.fr.length k3] 31)) #[.int .i64 tn, .int .i64 tg] 35
    rw [hw2, hg11]; simpa using h
  have R10 := Lib.hid r10; have R11 := Lib.hid r11
  have R2 := Lib.hid (Q2.out.below b2 Q2.out.lt)
  have H2 := Lib.hid (H1.out.below b2 (Nat.le_refl _))
  have HS2 := Lib.hid (HS.out.below b2 (Nat.le_refl _))
  have HB2 := Lib.hid (HB1.out.trans (b2.mono (by omega)))
  have hz2 : w1.heap.size + 1 < w2.heap.size := by have := r11.lt; omega
  have n10 : w1.heap.size ≤ g10 ∧ g10 < w2.heap.size := ⟨by omega, r10.lt⟩
  have n11 : w1.heap.size ≤ g11 ∧ g11 < w2.heap.size := ⟨by omega, r11.lt⟩
  obtain ⟨c0, c1, c2, c3, _⟩ := r10.four
  obtain ⟨d0, d1, _, _⟩ := r11.two
  clear r10 r11 b2
  go_upto_region 5 with (fail)
  rw [← hw2, ← hg10]
  rw [← hg10] at hg11
  rw [← hg11]
  clear hw2 hg10 hg11
  have D10 := Lib.hid (show Blk w2.drew g10 _ _ from R10.out)
  have D11 := Lib.hid (show Blk w2.drew g11 _ _ from R11.out)
  have D2 := Lib.hid (show Blk w2.drew (w.heap.size + 1 + 1) _ _ from R2.out)
  have DA := Lib.hid (H2.out.below ((Below.refl w2.heap.size w2).drew) (Nat.le_refl _))
  have DS := Lib.hid (HS2.out.below ((Below.refl w2.heap.size w2).drew) (Nat.le_refl _))
  have DB := Lib.hid HB2.out.drew
  have hzd : w2.heap.size ≤ w2.drew.heap.size := Nat.le_refl _
  refine wp_region_noPanic ?_
  refine wp_region_held_drew (S := fun v => v.cell? ⟨g10, 0, none⟩ = some (.int .i64 (m : Int)) ∧ v.cell? ⟨g10, 1, none⟩ = some (.slice X1 s1.gens.length k1) ∧ v.cell? ⟨g10, 2, none⟩ = some (.slice Y1 s1.tk.length k2) ∧ v.cell? ⟨g10, 3, none⟩ = some (.slice Z1 s1.fr.length k3) ∧ v.cell? ⟨g11, 0, none⟩ = some (.int .i64 tn) ∧ v.cell? ⟨g11, 1, none⟩ = some (.int .i64 tg)) (by kernel_rfl) (⟨c0, c1, c2, c3, d0, d1⟩) (fun hHeld => ?_)
  generalize w2.drew = u at D10 D11 D2 DA DS DB hzd hHeld ⊢
  refine wpAnyH_take (i := 0) (oi := ⟨some 32, _, _, _, _, _⟩) (v := ?_) rfl (by kernel_rfl) (by kernel_rfl) (by kernel_rfl) (fun _ _ _ h => h) (Or.inl ⟨by rfl, ?_⟩) (by assumption) ?_
  rotate_left
  · intro w hSw; go_simp; first | done | with_reducible rfl
  try simp only [Act.put, List.setIfInBounds_toArray, List.set_cons_zero, List.set_cons_succ]
  refine wpAnyH_take (i := 1) (oi := ⟨some 33, _, _, _, _, _⟩) (v := ?_) rfl (by kernel_rfl) (by kernel_rfl) (by kernel_rfl) (fun _ _ _ h => h) (Or.inl ⟨by rfl, ?_⟩) (by assumption) ?_
  rotate_left
  · intro w hSw; go_simp; first | done | with_reducible rfl
  try simp only [Act.put, List.setIfInBounds_toArray, List.set_cons_zero, List.set_cons_succ]
  refine wpAnyH_take (i := 2) (oi := ⟨some 34, _, _, _, _, _⟩) (v := ?_) rfl (by kernel_rfl) (by kernel_rfl) (by kernel_rfl) (fun _ _ _ h => h) (Or.inl ⟨by rfl, ?_⟩) (by assumption) ?_
  rotate_left
  · intro w hSw; go_simp; first | done | with_reducible rfl
  try simp only [Act.put, List.setIfInBounds_toArray, List.set_cons_zero, List.set_cons_succ]
  refine wpAnyH_take (i := 3) (oi := ⟨some 35, _, _, _, _, _⟩) (v := ?_) rfl (by kernel_rfl) (by kernel_rfl) (by kernel_rfl) (fun _ _ _ h => h) (Or.inl ⟨by rfl, ?_⟩) (by assumption) ?_
  rotate_left
  · intro w hSw; go_simp; first | done | with_reducible rfl
  try simp only [Act.put, List.setIfInBounds_toArray, List.set_cons_zero, List.set_cons_succ]
  refine wpAnyH_take (i := 4) (oi := ⟨some 36, _, _, _, _, _⟩) (v := ?_) rfl (by kernel_rfl) (by kernel_rfl) (by kernel_rfl) (fun _ _ _ h => h) (Or.inl ⟨by rfl, ?_⟩) (by assumption) ?_
  rotate_left
  · intro w hSw; go_simp; first | done | with_reducible rfl
  try simp only [Act.put, List.setIfInBounds_toArray, List.set_cons_zero, List.set_cons_succ]
  refine wpAnyH_ready (rs := [5]) (by kernel_rfl) (by simp) ?_
  refine AllReadyH.cons (o := ⟨some 37, _, _, _, _, _⟩) rfl (fun K hK => ?_) AllReadyH.nil
  go_simp
  refine (takes_true DA.out hG1 tn tg te HTN.out.symm HTG.out.symm HTE.out.symm).mono ?_
  unfold tookPost
  rw [← HS1.out]
  rintro r v ⟨rfl, ha, ho⟩
  have E10 := Lib.hid (D10.out.only ho (fun hf => by have := HFL.out _ hf; omega))
  have E11 := Lib.hid (D11.out.only ho (fun hf => by have := HFL.out _ hf; omega))
  have E2 := Lib.hid (D2.out.only ho (fun hf => by have := HFL.out _ hf; omega))
  have hzv : u.heap.size ≤ v.heap.size := ho.size
  have FX2 : Frm w0.heap.size u.heap.size X X1 := fun a ha => (FX.out a ha).imp id (fun h => ⟨h.1, by omega⟩)
  have FY2 : Frm w0.heap.size u.heap.size Y Y1 := fun a ha => (FY.out a ha).imp id (fun h => ⟨h.1, by omega⟩)
  have FZ2 : Frm w0.heap.size u.heap.size Z Z1 := fun a ha => (FZ.out a ha).imp id (fun h => ⟨h.1, by omega⟩)
  have AX := Lib.hid (apart_row (v := v) HFL.out HO.out.xF FX2 (by omega) (by omega) hzv)
  have AY := Lib.hid (apart_row (v := v) HFL.out HO.out.yF FY2 (by omega) (by omega) hzv)
  have AZ := Lib.hid (apart_row (v := v) HFL.out HO.out.zF FZ2 (by omega) (by omega) hzv)
  have ES : Hid (Spa v s1 X1 k1 Y1 k2 Z1 k3) := DS.out.only ho (fun a ha hf => (AX.out a ha).1 ⟨Or.inl hf, (AX.out a ha).2⟩) (fun a ha hf => (AY.out a ha).1 ⟨Or.inl hf, (AY.out a ha).2⟩) (fun a ha hf => (AZ.out a ha).1 ⟨Or.inl hf, (AZ.out a ha).2⟩)
  have HBO : Hid (Both N v (fun j => More F u j ∧ j < v.heap.size) g m (G + 1) s1 X1 k1 Y1 k2 Z1 k3) := ⟨ha.tight.more (Nat.le_succ _), ES.out, fun j hj => ⟨by rcases hj.1 with hf | hf; exact (HO.out.fl j hf).1; omega, hj.2⟩, AX.out, AY.out, AZ.out⟩
  have HOO : Hid (Only F w v) := (Only.of_below DB.out (Nat.le_refl _) F).trans (ho.mono fun _ _ hf => Or.inl hf)
  clear ha ho FX2 FY2 FZ2
  go_simp
  refine hK.out _ _ (⟨E10.out.cell 0, E10.out.cell 1, E10.out.cell 2, E10.out.cell 3, E11.out.cell 0, E11.out.cell 1⟩) (fun hHeld => ?_)
  clear hK K
  try simp only [Act.put, List.setIfInBounds_toArray, List.set_cons_zero, List.set_cons_succ]
  refine wpAnyH_take (i := 6) (oi := ⟨some 6, _, _, _, _, _⟩) (v := ?_) rfl (by kernel_rfl) (by kernel_rfl) (by kernel_rfl) (fun _ _ _ h => h) (Or.inl ⟨by rfl, ?_⟩) (by assumption) ?_
  rotate_left
  · intro w hSw; go_simp; first | done | with_reducible rfl
  try simp only [Act.put, List.setIfInBounds_toArray, List.set_cons_zero, List.set_cons_succ]
  refine wpAnyH_ready (rs := [7]) (by kernel_rfl) (by simp) ?_
  refine AllReadyH.cons (o := ⟨none, _, _, _, _, _⟩) rfl (fun K hK => ?_) AllReadyH.nil
  obtain ⟨r0, r1, r2, r3, rf0, rf1, rf2, rf3⟩ := E2.out.four
  go_simp
  obtain ⟨v2, hv2⟩ : ∃ v2, v2 = (((v.setCell ⟨w.heap.size + 1 + 1, 0, none⟩ (.int .i64 (m : Int))).setCell ⟨w.heap.size + 1 + 1, 1, none⟩ (.slice X1 s1.gens.length k1)).setCell ⟨w.heap.size + 1 + 1, 2, none⟩ (.slice Y1 s1.tk.length k2)).setCell ⟨w.heap.size + 1 + 1, 3, none⟩ (.slice Z1 s1.fr.length k3) := ⟨_, rfl⟩
  have O6 : Only (fun j => j = w.heap.size + 1 + 1) v v2 := by rw [hv2]; exact four_only _ _ _ _
  have G2 : Hid (Blk v2 (w.heap.size + 1 + 1) #[.int .i64 (m : Int), .slice X1 s1.gens.length k1, .slice Y1 s1.tk.length k2, .slice Z1 s1.fr.length k3] 31) := by
    have h1 := (((E2.out.set 0 (.int .i64 (m : Int))).set 1 (.slice X1 s1.gens.length k1)).set 2 (.slice Y1 s1.tk.length k2)).set 3 (.slice Z1 s1.fr.length k3)
    show Blk _ _ _ _
    rw [hv2]; exact h1
  have G10 := Lib.hid (E10.out.only O6 (by omega))
  have G11 := Lib.hid (E11.out.only O6 (by omega))
  have GB := Lib.hid (HBO.out.only O6 (fun j e hf => by rcases hf.1 with hf | hf; (have := HFL.out _ hf; omega); omega) (fun a ha e => by rcases FX.out a ha with h | h; (have := (HO.out.xF a h).2; omega); omega) (fun a ha e => by rcases FY.out a ha with h | h; (have := (HO.out.yF a h).2; omega); omega) (fun a ha e => by rcases FZ.out a ha with h | h; (have := (HO.out.zF a h).2; omega); omega))
  have GO := Lib.hid (HOO.out.trans (O6.mono fun j _ e => Or.inr (by omega)))
  rw [← hv2]
  clear hv2 O6 r0 r1 r2 r3 rf0 rf1 rf2 rf3
  refine hK.out _ _ (⟨G10.out.cell 0, G10.out.cell 1, G10.out.cell 2, G10.out.cell 3, G11.out.cell 0, G11.out.cell 1⟩) (fun hHeld => ?_)
  clear hK K
  try simp only [Act.put, List.setIfInBounds_toArray, List.set_cons_zero, List.set_cons_succ]
  refine wpAnyH_take (i := 8) (oi := ⟨some 8, _, _, _, _, _⟩) (v := ?_) rfl (by kernel_rfl) (by kernel_rfl) (by kernel_rfl) (fun _ _ _ h => h) (Or.inl ⟨by rfl, ?_⟩) (by assumption) ?_
  rotate_left
  · intro w hSw; go_simp; first | done | with_reducible rfl
  try simp only [Act.put, List.setIfInBounds_toArray, List.set_cons_zero, List.set_cons_succ]
  refine wpAnyH_done (by kernel_rfl) ?_ _
  refine NoPanic.normal ?_
  clear hHeld c0 c1 c2 c3 d0 d1
  obtain ⟨r0, r1, r2, r3, _⟩ := G2.out.four
  go_wp2_with fail
  rw [AE.out]
  exact bodyPost_ret (v := .tuple #[.pointer (some ⟨g, 0, none⟩), .agg #[.int .i64 (m : Int), .slice X1 s1.gens.length k1, .slice Y1 s1.tk.length k2, .slice Z1 s1.fr.length k3], .bool true]) (by simp [results, Try.results11, go_sem, r0, r1, r2, r3]) rfl ⟨g, _, X1, k1, Y1, k2, Z1, k3, rfl, GB.out, GO.out, fun a ha => (FX.out a ha).imp id (fun h => by omega), fun a ha => (FY.out a ha).imp id (fun h => by omega), fun a ha => (FZ.out a ha).imp id (fun h => by omega), fun j hj => by rcases hj.1 with hf | hf; exact Or.inl hf; exact Or.inr (by omega)⟩
set_option maxRecDepth 100000 in
set_option maxHeartbeats 4000000 in
theorem do1 {N : Nat} {w : World} {F : Nat → Prop} {g m G : Nat} {s : St} {X Y Z : Option Addr} {c d e : Nat} (h : Both N w F g m G s X c Y d Z e) (hG1 : 1 ≤ G) (hG : G ≤ 1000000000) (hN : N ≤ w.heap.size) (n x : Int) :
    Calls Try.prog 11 #[.pointer (some ⟨g, 0, none⟩), .agg #[.int .i64 (m : Int), .slice X s.gens.length c, .slice Y s.tk.length d, .slice Z s.fr.length e], .agg #[.int .i64 1, .int .i64 n, .int .i64 x]] w (doPost N w F m G s X Y Z 1 n x) := by
  obtain ⟨w0, hw0⟩ : ∃ w0, w0 = (((w.alloc (.cells #[.int .i64 (m : Int), .slice X s.gens.length c, .slice Y s.tk.length d, .slice Z s.fr.length e] 31)).alloc (.cells #[.int .i64 1, .int .i64 n, .int .i64 x] 37)).alloc (.cells #[.int .i64 0, .slice none 0 0, .slice none 0 0, .slice none 0 0] 31)).alloc (.cells #[.int .i64 n, .int .i64 x] 35) := ⟨_, rfl⟩
  have b0 : Below w.heap.size w w0 := by rw [hw0]; exact ((((bnew w _).alloc (by simp) _).alloc (by simp; omega) _).alloc (by simp; omega) _)
  have p0 : Blk w0 (w.heap.size) #[.int .i64 (m : Int), .slice X s.gens.length c, .slice Y s.tk.length d, .slice Z s.fr.length e] 31 := by
    have h := Blk.new w #[.int .i64 (m : Int), .slice X s.gens.length c, .slice Y s.tk.length d, .slice Z s.fr.length e] 31
    replace h := h.below (bnew (w.alloc (.cells #[.int .i64 (m : Int), .slice X s.gens.length c, .slice Y s.tk.length d, .slice Z s.fr.length e] 31)) (.cells #[.int .i64 1, .int .i64 n, .int .i64 x] 37)) (by simp <;> omega)
    replace h := h.below (bnew ((w.alloc (.cells #[.int .i64 (m : Int), .slice X s.gens.length c, .slice Y s.tk.length d, .slice Z s.fr.length e] 31)).alloc (.cells #[.int .i64 1, .int .i64 n, .int .i64 x] 37)) (.cells #[.int .i64 0, .slice none 0 0, .slice none 0 0, .slice none 0 0] 31)) (by simp <;> omega)
    replace h := h.below (bnew (((w.alloc (.cells #[.int .i64 (m : Int), .slice X s.gens.length c, .slice Y s.tk.length d, .slice Z s.fr.length e] 31)).alloc (.cells #[.int .i64 1, .int .i64 n, .int .i64 x] 37)).alloc (.cells #[.int .i64 0, .slice none 0 0, .slice none 0 0, .slice none 0 0] 31)) (.cells #[.int .i64 n, .int .i64 x] 35)) (by simp <;> omega)
    rw [hw0]; simpa using h
  have p1 : Blk w0 (w.heap.size + 1) #[.int .i64 1, .int .i64 n, .int .i64 x] 37 := by
    have h := Blk.new (w.alloc (.cells #[.int .i64 (m : Int), .slice X s.gens.length c, .slice Y s.tk.length d, .slice Z s.fr.length e] 31)) #[.int .i64 1, .int .i64 n, .int .i64 x] 37
    replace h := h.below (bnew ((w.alloc (.cells #[.int .i64 (m : Int), .slice X s.gens.length c, .slice Y s.tk.length d, .slice Z s.fr.length e] 31)).alloc (.cells #[.int .i64 1, .int .i64 n, .int .i64 x] 37)) (.cells #[.int .i64 0, .slice none 0 0, .slice none 0 0, .slice none 0 0] 31)) (by simp <;> omega)
    replace h := h.below (bnew (((w.alloc (.cells #[.int .i64 (m : Int), .slice X s.gens.length c, .slice Y s.tk.length d, .slice Z s.fr.length e] 31)).alloc (.cells #[.int .i64 1, .int .i64 n, .int .i64 x] 37)).alloc (.cells #[.int .i64 0, .slice none 0 0, .slice none 0 0, .slice none 0 0] 31)) (.cells #[.int .i64 n, .int .i64 x] 35)) (by simp <;> omega)
    rw [hw0]; simpa using h
  have p2 : Blk w0 (w.heap.size + 1 + 1) #[.int .i64 0, .slice none 0 0, .slice none 0 0, .slice none 0 0] 31 := by
    have h := Blk.new ((w.alloc (.cells #[.int .i64 (m : Int), .slice X s.gens.length c, .slice Y s.tk.length d, .slice Z s.fr.length e] 31)).alloc (.cells #[.int .i64 1, .int .i64 n, .int .i64 x] 37)) #[.int .i64 0, .slice none 0 0, .slice none 0 0, .slice none 0 0] 31
    replace h := h.below (bnew (((w.alloc (.cells #[.int .i64 (m : Int), .slice X s.gens.length c, .slice Y s.tk.length d, .slice Z s.fr.length e] 31)).alloc (.cells #[.int .i64 1, .int .i64 n, .int .i64 x] 37)).alloc (.cells #[.int .i64 0, .slice none 0 0, .slice none 0 0, .slice none 0 0] 31)) (.cells #[.int .i64 n, .int .i64 x] 35)) (by simp <;> omega)
    rw [hw0]; simpa using h
  have p3 : Blk w0 (w.heap.size + 1 + 1 + 1) #[.int .i64 n, .int .i64 x] 35 := by
    have h := Blk.new (((w.alloc (.cells #[.int .i64 (m : Int), .slice X s.gens.length c, .slice Y s.tk.length d, .slice Z s.fr.length e] 31)).alloc (.cells #[.int .i64 1, .int .i64 n, .int .i64 x] 37)).alloc (.cells #[.int .i64 0, .slice none 0 0, .slice none 0 0, .slice none 0 0] 31)) #[.int .i64 n, .int .i64 x] 35
    rw [hw0]; simpa using h
  have hz0 : w.heap.size + 1 + 1 + 1 < w0.heap.size := p3.lt
  have HB0 := Lib.hid b0; have P0 := Lib.hid p0; have P1 := Lib.hid p1; have P2 := Lib.hid p2; have P3 := Lib.hid p3
  have HI := Lib.hid h.are.inv; have HM := Lib.hid h.are.hi
  have HO := Lib.hid h
  have H0 := Lib.hid (h.below b0 (Nat.le_refl _))
  have HFL : Hid (∀ j, F j → j < w.heap.size) := fun j hj => (HO.out.fl j hj).2
  have AE := Lib.hid (act1 m s n x)
  have hu := And.intro hG1 (And.intro hG hN)
  clear hu
  unfold doPost
  clear h b0 p0 p1 p2 p3
  have PA := P0; have PZ := P2; have P9 := P3; have HV := H0; have HBv := HB0
  have l0 : w.heap.size < w0.heap.size := by omega
  have l1 : w.heap.size + 1 < w0.heap.size := by omega
  obtain ⟨y0, y1, y2, yf0, yf1, yf2⟩ := P1.out.three
  go_enter Try.func11, Try.ntmps11
  go_upto_region 12 with (fail)
  rw [← hw0]
  clear hw0 y0 y1 y2 yf0 yf1 yf2
  have HC := Lib.hid (rrel_any HV.out.spa HI.out HM.out hG n (x))
  unfold rrelPost at HC
  obtain ⟨s1, hs1⟩ : ∃ s1, s1 = frS s n (x) := ⟨_, rfl⟩
  have HS1 := Lib.hid hs1
  rw [← hs1] at HC AE
  obtain ⟨te, hte⟩ : ∃ t, t = frE s n (x) := ⟨_, rfl⟩
  rw [← hte] at HC
  have HTE := Lib.hid hte
  obtain ⟨a0, a1, a2, a3, _⟩ := PA.out.four
  obtain ⟨q0, q1, qf0, qf1⟩ := P9.out.two
  clear hs1 hte
  go_wp2_with fail
  refine HC.out.mono ?_
  rintro r w1 ⟨X1, k1, Y1, k2, Z1, k3, rfl, hs, fx, fy, fz, hb⟩
  have HS := Lib.hid hs; have FX := Lib.hid fx; have FY := Lib.hid fy; have FZ := Lib.hid fz
  have HB1 := Lib.hid (HBv.out.trans (hb.mono (by omega)))
  have H1 := Lib.hid (HV.out.are.below hb (Nat.le_refl _))
  have Q2 := Lib.hid (PZ.out.below hb PZ.out.lt)
  have Q9 := Lib.hid (P9.out.below hb P9.out.lt)
  have hz1 : w0.heap.size ≤ w1.heap.size := hb.size
  clear hs fx fy fz hb HC a0 a1 a2 a3 q0 q1 qf0 qf1
  obtain ⟨w2, hw2⟩ : ∃ w2, w2 = w1.alloc (.cells #[.int .i64 (m : Int), .slice X1 s1.gens.length k1, .slice Y1 s1.tk.length k2, .slice Z1 s1.fr.length k3] 31) := ⟨_, rfl⟩
  obtain ⟨g10, hg10⟩ : ∃ g10, g10 = w1.heap.size := ⟨_, rfl⟩
  have b2 : Below w1.heap.size w1 w2 := by rw [hw2]; exact bnew w1 _
  have r10 : Blk w2 g10 #[.int .i64 (m : Int), .slice X1 s1.gens.length k1, .slice Y1 s1.tk.length k2, .slice Z1 s1.fr.length k3] 31 := by rw [hw2, hg10]; exact Blk.new w1 _ _
  have R10 := Lib.hid r10
  have R9 := Lib.hid (Q9.out.below b2 Q9.out.lt)
  have R2 := Lib.hid (Q2.out.below b2 Q2.out.lt)
  have H2 := Lib.hid (H1.out.below b2 (Nat.le_refl _))
  have HS2 := Lib.hid (HS.out.below b2 (Nat.le_refl _))
  have HB2 := Lib.hid (HB1.out.trans (b2.mono (by omega)))
  have n10 : w1.heap.size ≤ g10 ∧ g10 < w2.heap.size := ⟨by omega, r10.lt⟩
  obtain ⟨c0, c1, c2, c3, _⟩ := r10.four
  obtain ⟨d0, d1, _, _⟩ := R9.out.two
  clear r10 b2
  go_upto_region 13 with (fail)
  rw [← hw2, ← hg10]
  clear hw2 hg10
  have D10 := Lib.hid (show Blk w2.drew g10 _ _ from R10.out)
  have D9 := Lib.hid (show Blk w2.drew (w.heap.size + 1 + 1 + 1) _ _ from R9.out)
  have D2 := Lib.hid (show Blk w2.drew (w.heap.size + 1 + 1) _ _ from R2.out)
  have DA := Lib.hid (H2.out.below ((Below.refl w2.heap.size w2).drew) (Nat.le_refl _))
  have DS := Lib.hid (HS2.out.below ((Below.refl w2.heap.size w2).drew) (Nat.le_refl _))
  have DB := Lib.hid HB2.out.drew
  have hzd : w2.heap.size ≤ w2.drew.heap.size := Nat.le_refl _
  refine wp_region_noPanic ?_
  refine wp_region_held_drew (S := fun v => v.cell? ⟨g10, 0, none⟩ = some (.int .i64 (m : Int)) ∧ v.cell? ⟨g10, 1, none⟩ = some (.slice X1 s1.gens.length k1) ∧ v.cell? ⟨g10, 2, none⟩ = some (.slice Y1 s1.tk.length k2) ∧ v.cell? ⟨g10, 3, none⟩ = some (.slice Z1 s1.fr.length k3) ∧ v.cell? ⟨w.heap.size + 1 + 1 + 1, 0, none⟩ = some (.int .i64 n) ∧ v.cell? ⟨w.heap.size + 1 + 1 + 1, 1, none⟩ = some (.int .i64 (x))) (by kernel_rfl) (⟨c0, c1, c2, c3, d0, d1⟩) (fun hHeld => ?_)
  generalize w2.drew = u at D10 D9 D2 DA DS DB hzd hHeld ⊢
  refine wpAnyH_take (i := 0) (oi := ⟨some 60, _, _, _, _, _⟩) (v := ?_) rfl (by kernel_rfl) (by kernel_rfl) (by kernel_rfl) (fun _ _ _ h => h) (Or.inl ⟨by rfl, ?_⟩) (by assumption) ?_
  rotate_left
  · intro w hSw; go_simp; first | done | with_reducible rfl
  try simp only [Act.put, List.setIfInBounds_toArray, List.set_cons_zero, List.set_cons_succ]
  refine wpAnyH_take (i := 1) (oi := ⟨some 61, _, _, _, _, _⟩) (v := ?_) rfl (by kernel_rfl) (by kernel_rfl) (by kernel_rfl) (fun _ _ _ h => h) (Or.inl ⟨by rfl, ?_⟩) (by assumption) ?_
  rotate_left
  · intro w hSw; go_simp; first | done | with_reducible rfl
  try simp only [Act.put, List.setIfInBounds_toArray, List.set_cons_zero, List.set_cons_succ]
  refine wpAnyH_take (i := 2) (oi := ⟨some 62, _, _, _, _, _⟩) (v := ?_) rfl (by kernel_rfl) (by kernel_rfl) (by kernel_rfl) (fun _ _ _ h => h) (Or.inl ⟨by rfl, ?_⟩) (by assumption) ?_
  rotate_left
  · intro w hSw; go_simp; first | done | with_reducible rfl
  try simp only [Act.put, List.setIfInBounds_toArray, List.set_cons_zero, List.set_cons_succ]
  refine wpAnyH_take (i := 3) (oi := ⟨some 63, _, _, _, _, _⟩) (v := ?_) rfl (by kernel_rfl) (by kernel_rfl) (by kernel_rfl) (fun _ _ _ h => h) (Or.inl ⟨by rfl, ?_⟩) (by assumption) ?_
  rotate_left
  · intro w hSw; go_simp; first | done | with_reducible rfl
  try simp only [Act.put, List.setIfInBounds_toArray, List.set_cons_zero, List.set_cons_succ]
  refine wpAnyH_take (i := 5) (oi := ⟨some 65, _, _, _, _, _⟩) (v := ?_) rfl (by kernel_rfl) (by kernel_rfl) (by kernel_rfl) (fun _ _ _ h => h) (Or.inl ⟨by rfl, ?_⟩) (by assumption) ?_
  rotate_left
  · intro w hSw; go_simp; first | done | with_reducible rfl
  try simp only [Act.put, List.setIfInBounds_toArray, List.set_cons_zero, List.set_cons_succ]
  refine wpAnyH_ready (rs := [4]) (by kernel_rfl) (by simp) ?_
  refine AllReadyH.cons (o := ⟨some 64, _, _, _, _, _⟩) rfl (fun K hK => ?_) AllReadyH.nil
  go_simp
  refine (free_any DA.out hG n (x)).mono ?_
  unfold freePost
  rw [← HS1.out, ← HTE.out]
  rintro r v ⟨rfl, ha, ho⟩
  have E10 := Lib.hid (D10.out.only ho (fun hf => by have := HFL.out _ hf; omega))
  have E9 := Lib.hid (D9.out.only ho (fun hf => by have := HFL.out _ hf; omega))
  have E2 := Lib.hid (D2.out.only ho (fun hf => by have := HFL.out _ hf; omega))
  have hzv : u.heap.size ≤ v.heap.size := ho.size
  have FX2 : Frm w0.heap.size u.heap.size X X1 := fun a ha => (FX.out a ha).imp id (fun h => ⟨h.1, by omega⟩)
  have FY2 : Frm w0.heap.size u.heap.size Y Y1 := fun a ha => (FY.out a ha).imp id (fun h => ⟨h.1, by omega⟩)
  have FZ2 : Frm w0.heap.size u.heap.size Z Z1 := fun a ha => (FZ.out a ha).imp id (fun h => ⟨h.1, by omega⟩)
  have AX := Lib.hid (apart_row (v := v) HFL.out HO.out.xF FX2 (by omega) (by omega) hzv)
  have AY := Lib.hid (apart_row (v := v) HFL.out HO.out.yF FY2 (by omega) (by omega) hzv)
  have AZ := Lib.hid (apart_row (v := v) HFL.out HO.out.zF FZ2 (by omega) (by omega) hzv)
  have ES : Hid (Spa v s1 X1 k1 Y1 k2 Z1 k3) := DS.out.only ho (fun a ha hf => (AX.out a ha).1 ⟨Or.inl hf, (AX.out a ha).2⟩) (fun a ha hf => (AY.out a ha).1 ⟨Or.inl hf, (AY.out a ha).2⟩) (fun a ha hf => (AZ.out a ha).1 ⟨Or.inl hf, (AZ.out a ha).2⟩)
  have HBO : Hid (Both N v (fun j => More F u j ∧ j < v.heap.size) g m (G + 1) s1 X1 k1 Y1 k2 Z1 k3) := ⟨ha.tight, ES.out, fun j hj => ⟨by rcases hj.1 with hf | hf; exact (HO.out.fl j hf).1; omega, hj.2⟩, AX.out, AY.out, AZ.out⟩
  have HOO : Hid (Only F w v) := (Only.of_below DB.out (Nat.le_refl _) F).trans (ho.mono fun _ _ hf => Or.inl hf)
  clear ha ho FX2 FY2 FZ2
  go_simp
  refine hK.out _ _ (⟨E10.out.cell 0, E10.out.cell 1, E10.out.cell 2, E10.out.cell 3, E9.out.cell 0, E9.out.cell 1⟩) (fun hHeld => ?_)
  clear hK K
  try simp only [Act.put, List.setIfInBounds_toArray, List.set_cons_zero, List.set_cons_succ]
  refine wpAnyH_take (i := 6) (oi := ⟨some 66, _, _, _, _, _⟩) (v := ?_) rfl (by kernel_rfl) (by kernel_rfl) (by kernel_rfl) (fun _ _ _ h => h) (Or.inl ⟨by rfl, ?_⟩) (by assumption) ?_
  rotate_left
  · intro w hSw; go_simp; first | done | with_reducible rfl
  try simp only [Act.put, List.setIfInBounds_toArray, List.set_cons_zero, List.set_cons_succ]
  refine wpAnyH_take (i := 7) (oi := ⟨some 6, _, _, _, _, _⟩) (v := ?_) rfl (by kernel_rfl) (by kernel_rfl) (by kernel_rfl) (fun _ _ _ h => h) (Or.inl ⟨by rfl, ?_⟩) (by assumption) ?_
  rotate_left
  · intro w hSw; go_simp; first | done | with_reducible rfl
  try simp only [Act.put, List.setIfInBounds_toArray, List.set_cons_zero, List.set_cons_succ]
  refine wpAnyH_ready (rs := [8]) (by kernel_rfl) (by simp) ?_
  refine AllReadyH.cons (o := ⟨none, _, _, _, _, _⟩) rfl (fun K hK => ?_) AllReadyH.nil
  obtain ⟨r0, r1, r2, r3, rf0, rf1, rf2, rf3⟩ := E2.out.four
  go_simp
  obtain ⟨v2, hv2⟩ : ∃ v2, v2 = (((v.setCell ⟨w.heap.size + 1 + 1, 0, none⟩ (.int .i64 (m : Int))).setCell ⟨w.heap.size + 1 + 1, 1, none⟩ (.slice X1 s1.gens.length k1)).setCell ⟨w.heap.size + 1 + 1, 2, none⟩ (.slice Y1 s1.tk.length k2)).setCell ⟨w.heap.size + 1 + 1, 3, none⟩ (.slice Z1 s1.fr.length k3) := ⟨_, rfl⟩
  have O6 : Only (fun j => j = w.heap.size + 1 + 1) v v2 := by rw [hv2]; exact four_only _ _ _ _
  have G2 : Hid (Blk v2 (w.heap.size + 1 + 1) #[.int .i64 (m : Int), .slice X1 s1.gens.length k1, .slice Y1 s1.tk.length k2, .slice Z1 s1.fr.length k3] 31) := by
    have h1 := (((E2.out.set 0 (.int .i64 (m : Int))).set 1 (.slice X1 s1.gens.length k1)).set 2 (.slice Y1 s1.tk.length k2)).set 3 (.slice Z1 s1.fr.length k3)
    show Blk _ _ _ _
    rw [hv2]; exact h1
  have G10 := Lib.hid (E10.out.only O6 (by omega))
  have G9 := Lib.hid (E9.out.only O6 (by omega))
  have GB := Lib.hid (HBO.out.only O6 (fun j e hf => by rcases hf.1 with hf | hf; (have := HFL.out _ hf; omega); omega) (fun a ha e => by rcases FX.out a ha with h | h; (have := (HO.out.xF a h).2; omega); omega) (fun a ha e => by rcases FY.out a ha with h | h; (have := (HO.out.yF a h).2; omega); omega) (fun a ha e => by rcases FZ.out a ha with h | h; (have := (HO.out.zF a h).2; omega); omega))
  have GO := Lib.hid (HOO.out.trans (O6.mono fun j _ e => Or.inr (by omega)))
  rw [← hv2]
  clear hv2 O6 r0 r1 r2 r3 rf0 rf1 rf2 rf3
  refine hK.out _ _ (⟨G10.out.cell 0, G10.out.cell 1, G10.out.cell 2, G10.out.cell 3, G9.out.cell 0, G9.out.cell 1⟩) (fun hHeld => ?_)
  clear hK K
  try simp only [Act.put, List.setIfInBounds_toArray, List.set_cons_zero, List.set_cons_succ]
  refine wpAnyH_take (i := 9) (oi := ⟨some 8, _, _, _, _, _⟩) (v := ?_) rfl (by kernel_rfl) (by kernel_rfl) (by kernel_rfl) (fun _ _ _ h => h) (Or.inl ⟨by rfl, ?_⟩) (by assumption) ?_
  rotate_left
  · intro w hSw; go_simp; first | done | with_reducible rfl
  try simp only [Act.put, List.setIfInBounds_toArray, List.set_cons_zero, List.set_cons_succ]
  refine wpAnyH_done (by kernel_rfl) ?_ _
  refine NoPanic.normal ?_
  clear hHeld c0 c1 c2 c3 d0 d1
  obtain ⟨r0, r1, r2, r3, _⟩ := G2.out.four
  go_wp2_with fail
  rw [AE.out]
  exact bodyPost_ret (v := .tuple #[.pointer (some ⟨g, 0, none⟩), .agg #[.int .i64 (m : Int), .slice X1 s1.gens.length k1, .slice Y1 s1.tk.length k2, .slice Z1 s1.fr.length k3], .bool true]) (by simp [results, Try.results11, go_sem, r0, r1, r2, r3]) rfl ⟨g, _, X1, k1, Y1, k2, Z1, k3, rfl, GB.out, GO.out, fun a ha => (FX.out a ha).imp id (fun h => by omega), fun a ha => (FY.out a ha).imp id (fun h => by omega), fun a ha => (FZ.out a ha).imp id (fun h => by omega), fun j hj => by rcases hj.1 with hf | hf; exact Or.inl hf; exact Or.inr (by omega)⟩
set_option maxRecDepth 100000 in
set_option maxHeartbeats 4000000 in
theorem do2 {N : Nat} {w : World} {F : Nat → Prop} {g m G : Nat} {s : St} {X Y Z : Option Addr} {c d e : Nat} (h : Both N w F g m G s X c Y d Z e) (hG1 : 1 ≤ G) (hG : G ≤ 1000000000) (hN : N ≤ w.heap.size) (n x : Int) :
    Calls Try.prog 11 #[.pointer (some ⟨g, 0, none⟩), .agg #[.int .i64 (m : Int), .slice X s.gens.length c, .slice Y s.tk.length d, .slice Z s.fr.length e], .agg #[.int .i64 2, .int .i64 n, .int .i64 x]] w (doPost N w F m G s X Y Z 2 n x) := by
  obtain ⟨w0, hw0⟩ : ∃ w0, w0 = (((w.alloc (.cells #[.int .i64 (m : Int), .slice X s.gens.length c, .slice Y s.tk.length d, .slice Z s.fr.length e] 31)).alloc (.cells #[.int .i64 2, .int .i64 n, .int .i64 x] 37)).alloc (.cells #[.int .i64 0, .slice none 0 0, .slice none 0 0, .slice none 0 0] 31)).alloc (.cells #[.int .i64 n, .int .i64 x] 35) := ⟨_, rfl⟩
  have b0 : Below w.heap.size w w0 := by rw [hw0]; exact ((((bnew w _).alloc (by simp) _).alloc (by simp; omega) _).alloc (by simp; omega) _)
  have p0 : Blk w0 (w.heap.size) #[.int .i64 (m : Int), .slice X s.gens.length c, .slice Y s.tk.length d, .slice Z s.fr.length e] 31 := by
    have h := Blk.new w #[.int .i64 (m : Int), .slice X s.gens.length c, .slice Y s.tk.length d, .slice Z s.fr.length e] 31
    replace h := h.below (bnew (w.alloc (.cells #[.int .i64 (m : Int), .slice X s.gens.length c, .slice Y s.tk.length d, .slice Z s.fr.length e] 31)) (.cells #[.int .i64 2, .int .i64 n, .int .i64 x] 37)) (by simp <;> omega)
    replace h := h.below (bnew ((w.alloc (.cells #[.int .i64 (m : Int), .slice X s.gens.length c, .slice Y s.tk.length d, .slice Z s.fr.length e] 31)).alloc (.cells #[.int .i64 2, .int .i64 n, .int .i64 x] 37)) (.cells #[.int .i64 0, .slice none 0 0, .slice none 0 0, .slice none 0 0] 31)) (by simp <;> omega)
    replace h := h.below (bnew (((w.alloc (.cells #[.int .i64 (m : Int), .slice X s.gens.length c, .slice Y s.tk.length d, .slice Z s.fr.length e] 31)).alloc (.cells #[.int .i64 2, .int .i64 n, .int .i64 x] 37)).alloc (.cells #[.int .i64 0, .slice none 0 0, .slice none 0 0, .slice none 0 0] 31)) (.cells #[.int .i64 n, .int .i64 x] 35)) (by simp <;> omega)
    rw [hw0]; simpa using h
  have p1 : Blk w0 (w.heap.size + 1) #[.int .i64 2, .int .i64 n, .int .i64 x] 37 := by
    have h := Blk.new (w.alloc (.cells #[.int .i64 (m : Int), .slice X s.gens.length c, .slice Y s.tk.length d, .slice Z s.fr.length e] 31)) #[.int .i64 2, .int .i64 n, .int .i64 x] 37
    replace h := h.below (bnew ((w.alloc (.cells #[.int .i64 (m : Int), .slice X s.gens.length c, .slice Y s.tk.length d, .slice Z s.fr.length e] 31)).alloc (.cells #[.int .i64 2, .int .i64 n, .int .i64 x] 37)) (.cells #[.int .i64 0, .slice none 0 0, .slice none 0 0, .slice none 0 0] 31)) (by simp <;> omega)
    replace h := h.below (bnew (((w.alloc (.cells #[.int .i64 (m : Int), .slice X s.gens.length c, .slice Y s.tk.length d, .slice Z s.fr.length e] 31)).alloc (.cells #[.int .i64 2, .int .i64 n, .int .i64 x] 37)).alloc (.cells #[.int .i64 0, .slice none 0 0, .slice none 0 0, .slice none 0 0] 31)) (.cells #[.int .i64 n, .int .i64 x] 35)) (by simp <;> omega)
    rw [hw0]; simpa using h
  have p2 : Blk w0 (w.heap.size + 1 + 1) #[.int .i64 0, .slice none 0 0, .slice none 0 0, .slice none 0 0] 31 := by
    have h := Blk.new ((w.alloc (.cells #[.int .i64 (m : Int), .slice X s.gens.length c, .slice Y s.tk.length d, .slice Z s.fr.length e] 31)).alloc (.cells #[.int .i64 2, .int .i64 n, .int .i64 x] 37)) #[.int .i64 0, .slice none 0 0, .slice none 0 0, .slice none 0 0] 31
    replace h := h.below (bnew (((w.alloc (.cells #[.int .i64 (m : Int), .slice X s.gens.length c, .slice Y s.tk.length d, .slice Z s.fr.length e] 31)).alloc (.cells #[.int .i64 2, .int .i64 n, .int .i64 x] 37)).alloc (.cells #[.int .i64 0, .slice none 0 0, .slice none 0 0, .slice none 0 0] 31)) (.cells #[.int .i64 n, .int .i64 x] 35)) (by simp <;> omega)
    rw [hw0]; simpa using h
  have p3 : Blk w0 (w.heap.size + 1 + 1 + 1) #[.int .i64 n, .int .i64 x] 35 := by
    have h := Blk.new (((w.alloc (.cells #[.int .i64 (m : Int), .slice X s.gens.length c, .slice Y s.tk.length d, .slice Z s.fr.length e] 31)).alloc (.cells #[.int .i64 2, .int .i64 n, .int .i64 x] 37)).alloc (.cells #[.int .i64 0, .slice none 0 0, .slice none 0 0, .slice none 0 0] 31)) #[.int .i64 n, .int .i64 x] 35
    rw [hw0]; simpa using h
  have hz0 : w.heap.size + 1 + 1 + 1 < w0.heap.size := p3.lt
  have HB0 := Lib.hid b0; have P0 := Lib.hid p0; have P1 := Lib.hid p1; have P2 := Lib.hid p2; have P3 := Lib.hid p3
  have HI := Lib.hid h.are.inv; have HM := Lib.hid h.are.hi
  have HO := Lib.hid h
  have H0 := Lib.hid (h.below b0 (Nat.le_refl _))
  have HFL : Hid (∀ j, F j → j < w.heap.size) := fun j hj => (HO.out.fl j hj).2
  have AE := Lib.hid (act2 m s n x)
  have hu := And.intro hG1 (And.intro hG hN)
  clear hu
  unfold doPost
  have HAT := Lib.hid (rat_any H0.out.spa HI.out n)
  unfold atPost at HAT
  clear h b0 p0 p2
  obtain ⟨y0, y1, y2, yf0, yf1, yf2⟩ := p1.three
  obtain ⟨a0, a1, a2, a3, _⟩ := P0.out.four
  obtain ⟨z0, z1, zf0, zf1⟩ := p3.two
  have l0 : w.heap.size < w0.heap.size := by omega
  have l1 : w.heap.size + 1 < w0.heap.size := by omega
  clear p1 p3
  cases hi : ist s n
  · have AE2 : Hid (actS m s 2 n x = frS s n x) := by show _ = _; rw [AE.out, hi]; rfl
    replace AE := AE2
    clear AE2
    obtain ⟨q0, q1, q2⟩ := ans_no hi
    rw [q0, q1, q2] at HAT
    clear q0 q1 q2 hi
    go_enter Try.func11, Try.ntmps11
    go_upto_region 9 with (fail)
    rw [← hw0]
    clear hw0 y0 y1 y2 yf0 yf1 yf2
    go_wp2_with fail
    refine HAT.out.mono ?_
    rintro r v0 ⟨rfl, hb⟩
    have K0 := Lib.hid (P0.out.below hb P0.out.lt)
    have KZ := Lib.hid (P2.out.below hb P2.out.lt)
    have K9 := Lib.hid (P3.out.below hb P3.out.lt)
    have KV := Lib.hid (H0.out.below hb (Nat.le_refl _))
    have KB := Lib.hid (HB0.out.trans (hb.mono HB0.out.size))
    have lz0 : w0.heap.size ≤ v0.heap.size := hb.size
    clear hb a0 a1 a2 a3 z0 z1 zf0 zf1
    obtain ⟨v1, hv1⟩ : ∃ v1, v1 = v0.alloc (.cells #[.int .i64 0, .int .i64 0] 35) := ⟨_, rfl⟩
    obtain ⟨g13, hg13⟩ : ∃ g13, g13 = v0.heap.size := ⟨_, rfl⟩
    have b1 : Below v0.heap.size v0 v1 := by rw [hv1]; exact bnew _ _
    have T13 : Hid (Blk v1 g13 #[.int .i64 0, .int .i64 0] 35) := by show Blk _ _ _ _; rw [hv1, hg13]; exact Blk.new _ _ _
    have PA := Lib.hid (K0.out.below b1 K0.out.lt)
    have PZ := Lib.hid (KZ.out.below b1 KZ.out.lt)
    have J9 := Lib.hid (K9.out.below b1 K9.out.lt)
    have JV := Lib.hid (KV.out.below b1 (Nat.le_refl _))
    have JB := Lib.hid (KB.out.trans (b1.mono (by omega)))
    have lz1 : v0.heap.size < v1.heap.size := by rw [hv1]; simp
    have ng : v0.heap.size ≤ g13 := by omega
    have ng2 : g13 < v1.heap.size := T13.out.lt
    clear b1
    go_upto_region 12 with (fail)
    rw [← hv1]
    clear hv1 hg13
    have P9 := J9
    have HV := JV
    have HBv := JB
    have HC := Lib.hid (rrel_any HV.out.spa HI.out HM.out hG n (x))
    unfold rrelPost at HC
    obtain ⟨s1, hs1⟩ : ∃ s1, s1 = frS s n (x) := ⟨_, rfl⟩
    have HS1 := Lib.hid hs1
    rw [← hs1] at HC AE
    obtain ⟨te, hte⟩ : ∃ t, t = frE s n (x) := ⟨_, rfl⟩
    rw [← hte] at HC
    have HTE := Lib.hid hte
    obtain ⟨a0, a1, a2, a3, _⟩ := PA.out.four
    obtain ⟨q0, q1, qf0, qf1⟩ := P9.out.two
    clear hs1 hte
    go_wp2_with fail
    refine HC.out.mono ?_
    rintro r w1 ⟨X1, k1, Y1, k2, Z1, k3, rfl, hs, fx, fy, fz, hb⟩
    have HS := Lib.hid hs; have FX := Lib.hid fx; have FY := Lib.hid fy; have FZ := Lib.hid fz
    have HB1 := Lib.hid (HBv.out.trans (hb.mono (by omega)))
    have H1 := Lib.hid (HV.out.are.below hb (Nat.le_refl _))
    have Q2 := Lib.hid (PZ.out.below hb PZ.out.lt)
    have Q9 := Lib.hid (P9.out.below hb P9.out.lt)
    have hz1 : v1.heap.size ≤ w1.heap.size := hb.size
    clear hs fx fy fz hb HC a0 a1 a2 a3 q0 q1 qf0 qf1
    obtain ⟨w2, hw2⟩ : ∃ w2, w2 = w1.alloc (.cells #[.int .i64 (m : Int), .slice X1 s1.gens.length k1, .slice Y1 s1.tk.length k2, .slice Z1 s1.fr.length k3] 31) := ⟨_, rfl⟩
    obtain ⟨g10, hg10⟩ : ∃ g10, g10 = w1.heap.size := ⟨_, rfl⟩
    have b2 : Below w1.heap.size w1 w2 := by rw [hw2]; exact bnew w1 _
    have r10 : Blk w2 g10 #[.int .i64 (m : Int), .slice X1 s1.gens.length k1, .slice Y1 s1.tk.length k2, .slice Z1 s1.fr.length k3] 31 := by rw [hw2, hg10]; exact Blk.new w1 _ _
    have R10 := Lib.hid r10
    have R9 := Lib.hid (Q9.out.below b2 Q9.out.lt)
    have R2 := Lib.hid (Q2.out.below b2 Q2.out.lt)
    have H2 := Lib.hid (H1.out.below b2 (Nat.le_refl _))
    have HS2 := Lib.hid (HS.out.below b2 (Nat.le_refl _))
    have HB2 := Lib.hid (HB1.out.trans (b2.mono (by omega)))
    have n10 : w1.heap.size ≤ g10 ∧ g10 < w2.heap.size := ⟨by omega, r10.lt⟩
    obtain ⟨c0, c1, c2, c3, _⟩ := r10.four
    obtain ⟨d0, d1, _, _⟩ := R9.out.two
    clear r10 b2
    go_upto_region 13 with (fail)
    rw [← hw2, ← hg10]
    clear hw2 hg10
    have D10 := Lib.hid (show Blk w2.drew g10 _ _ from R10.out)
    have D9 := Lib.hid (show Blk w2.drew (w.heap.size + 1 + 1 + 1) _ _ from R9.out)
    have D2 := Lib.hid (show Blk w2.drew (w.heap.size + 1 + 1) _ _ from R2.out)
    have DA := Lib.hid (H2.out.below ((Below.refl w2.heap.size w2).drew) (Nat.le_refl _))
    have DS := Lib.hid (HS2.out.below ((Below.refl w2.heap.size w2).drew) (Nat.le_refl _))
    have DB := Lib.hid HB2.out.drew
    have hzd : w2.heap.size ≤ w2.drew.heap.size := Nat.le_refl _
    refine wp_region_noPanic ?_
    refine wp_region_held_drew (S := fun v => v.cell? ⟨g10, 0, none⟩ = some (.int .i64 (m : Int)) ∧ v.cell? ⟨g10, 1, none⟩ = some (.slice X1 s1.gens.length k1) ∧ v.cell? ⟨g10, 2, none⟩ = some (.slice Y1 s1.tk.length k2) ∧ v.cell? ⟨g10, 3, none⟩ = some (.slice Z1 s1.fr.length k3) ∧ v.cell? ⟨w.heap.size + 1 + 1 + 1, 0, none⟩ = some (.int .i64 n) ∧ v.cell? ⟨w.heap.size + 1 + 1 + 1, 1, none⟩ = some (.int .i64 (x))) (by kernel_rfl) (⟨c0, c1, c2, c3, d0, d1⟩) (fun hHeld => ?_)
    generalize w2.drew = u at D10 D9 D2 DA DS DB hzd hHeld ⊢
    refine wpAnyH_take (i := 0) (oi := ⟨some 60, _, _, _, _, _⟩) (v := ?_) rfl (by kernel_rfl) (by kernel_rfl) (by kernel_rfl) (fun _ _ _ h => h) (Or.inl ⟨by rfl, ?_⟩) (by assumption) ?_
    rotate_left
    · intro w hSw; go_simp; first | done | with_reducible rfl
    try simp only [Act.put, List.setIfInBounds_toArray, List.set_cons_zero, List.set_cons_succ]
    refine wpAnyH_take (i := 1) (oi := ⟨some 61, _, _, _, _, _⟩) (v := ?_) rfl (by kernel_rfl) (by kernel_rfl) (by kernel_rfl) (fun _ _ _ h => h) (Or.inl ⟨by rfl, ?_⟩) (by assumption) ?_
    rotate_left
    · intro w hSw; go_simp; first | done | with_reducible rfl
    try simp only [Act.put, List.setIfInBounds_toArray, List.set_cons_zero, List.set_cons_succ]
    refine wpAnyH_take (i := 2) (oi := ⟨some 62, _, _, _, _, _⟩) (v := ?_) rfl (by kernel_rfl) (by kernel_rfl) (by kernel_rfl) (fun _ _ _ h => h) (Or.inl ⟨by rfl, ?_⟩) (by assumption) ?_
    rotate_left
    · intro w hSw; go_simp; first | done | with_reducible rfl
    try simp only [Act.put, List.setIfInBounds_toArray, List.set_cons_zero, List.set_cons_succ]
    refine wpAnyH_take (i := 3) (oi := ⟨some 63, _, _, _, _, _⟩) (v := ?_) rfl (by kernel_rfl) (by kernel_rfl) (by kernel_rfl) (fun _ _ _ h => h) (Or.inl ⟨by rfl, ?_⟩) (by assumption) ?_
    rotate_left
    · intro w hSw; go_simp; first | done | with_reducible rfl
    try simp only [Act.put, List.setIfInBounds_toArray, List.set_cons_zero, List.set_cons_succ]
    refine wpAnyH_take (i := 5) (oi := ⟨some 65, _, _, _, _, _⟩) (v := ?_) rfl (by kernel_rfl) (by kernel_rfl) (by kernel_rfl) (fun _ _ _ h => h) (Or.inl ⟨by rfl, ?_⟩) (by assumption) ?_
    rotate_left
    · intro w hSw; go_simp; first | done | with_reducible rfl
    try simp only [Act.put, List.setIfInBounds_toArray, List.set_cons_zero, List.set_cons_succ]
    refine wpAnyH_ready (rs := [4]) (by kernel_rfl) (by simp) ?_
    refine AllReadyH.cons (o := ⟨some 64, _, _, _, _, _⟩) rfl (fun K hK => ?_) AllReadyH.nil
    go_simp
    refine (free_any DA.out hG n (x)).mono ?_
    unfold freePost
    rw [← HS1.out, ← HTE.out]
    rintro r v ⟨rfl, ha, ho⟩
    have E10 := Lib.hid (D10.out.only ho (fun hf => by have := HFL.out _ hf; omega))
    have E9 := Lib.hid (D9.out.only ho (fun hf => by have := HFL.out _ hf; omega))
    have E2 := Lib.hid (D2.out.only ho (fun hf => by have := HFL.out _ hf; omega))
    have hzv : u.heap.size ≤ v.heap.size := ho.size
    have FX2 : Frm v1.heap.size u.heap.size X X1 := fun a ha => (FX.out a ha).imp id (fun h => ⟨h.1, by omega⟩)
    have FY2 : Frm v1.heap.size u.heap.size Y Y1 := fun a ha => (FY.out a ha).imp id (fun h => ⟨h.1, by omega⟩)
    have FZ2 : Frm v1.heap.size u.heap.size Z Z1 := fun a ha => (FZ.out a ha).imp id (fun h => ⟨h.1, by omega⟩)
    have AX := Lib.hid (apart_row (v := v) HFL.out HO.out.xF FX2 (by omega) (by omega) hzv)
    have AY := Lib.hid (apart_row (v := v) HFL.out HO.out.yF FY2 (by omega) (by omega) hzv)
    have AZ := Lib.hid (apart_row (v := v) HFL.out HO.out.zF FZ2 (by omega) (by omega) hzv)
    have ES : Hid (Spa v s1 X1 k1 Y1 k2 Z1 k3) := DS.out.only ho (fun a ha hf => (AX.out a ha).1 ⟨Or.inl hf, (AX.out a ha).2⟩) (fun a ha hf => (AY.out a ha).1 ⟨Or.inl hf, (AY.out a ha).2⟩) (fun a ha hf => (AZ.out a ha).1 ⟨Or.inl hf, (AZ.out a ha).2⟩)
    have HBO : Hid (Both N v (fun j => More F u j ∧ j < v.heap.size) g m (G + 1) s1 X1 k1 Y1 k2 Z1 k3) := ⟨ha.tight, ES.out, fun j hj => ⟨by rcases hj.1 with hf | hf; exact (HO.out.fl j hf).1; omega, hj.2⟩, AX.out, AY.out, AZ.out⟩
    have HOO : Hid (Only F w v) := (Only.of_below DB.out (Nat.le_refl _) F).trans (ho.mono fun _ _ hf => Or.inl hf)
    clear ha ho FX2 FY2 FZ2
    go_simp
    refine hK.out _ _ (⟨E10.out.cell 0, E10.out.cell 1, E10.out.cell 2, E10.out.cell 3, E9.out.cell 0, E9.out.cell 1⟩) (fun hHeld => ?_)
    clear hK K
    try simp only [Act.put, List.setIfInBounds_toArray, List.set_cons_zero, List.set_cons_succ]
    refine wpAnyH_take (i := 6) (oi := ⟨some 66, _, _, _, _, _⟩) (v := ?_) rfl (by kernel_rfl) (by kernel_rfl) (by kernel_rfl) (fun _ _ _ h => h) (Or.inl ⟨by rfl, ?_⟩) (by assumption) ?_
    rotate_left
    · intro w hSw; go_simp; first | done | with_reducible rfl
    try simp only [Act.put, List.setIfInBounds_toArray, List.set_cons_zero, List.set_cons_succ]
    refine wpAnyH_take (i := 7) (oi := ⟨some 6, _, _, _, _, _⟩) (v := ?_) rfl (by kernel_rfl) (by kernel_rfl) (by kernel_rfl) (fun _ _ _ h => h) (Or.inl ⟨by rfl, ?_⟩) (by assumption) ?_
    rotate_left
    · intro w hSw; go_simp; first | done | with_reducible rfl
    try simp only [Act.put, List.setIfInBounds_toArray, List.set_cons_zero, List.set_cons_succ]
    refine wpAnyH_ready (rs := [8]) (by kernel_rfl) (by simp) ?_
    refine AllReadyH.cons (o := ⟨none, _, _, _, _, _⟩) rfl (fun K hK => ?_) AllReadyH.nil
    obtain ⟨r0, r1, r2, r3, rf0, rf1, rf2, rf3⟩ := E2.out.four
    go_simp
    obtain ⟨v2, hv2⟩ : ∃ v2, v2 = (((v.setCell ⟨w.heap.size + 1 + 1, 0, none⟩ (.int .i64 (m : Int))).setCell ⟨w.heap.size + 1 + 1, 1, none⟩ (.slice X1 s1.gens.length k1)).setCell ⟨w.heap.size + 1 + 1, 2, none⟩ (.slice Y1 s1.tk.length k2)).setCell ⟨w.heap.size + 1 + 1, 3, none⟩ (.slice Z1 s1.fr.length k3) := ⟨_, rfl⟩
    have O6 : Only (fun j => j = w.heap.size + 1 + 1) v v2 := by rw [hv2]; exact four_only _ _ _ _
    have G2 : Hid (Blk v2 (w.heap.size + 1 + 1) #[.int .i64 (m : Int), .slice X1 s1.gens.length k1, .slice Y1 s1.tk.length k2, .slice Z1 s1.fr.length k3] 31) := by
      have h1 := (((E2.out.set 0 (.int .i64 (m : Int))).set 1 (.slice X1 s1.gens.length k1)).set 2 (.slice Y1 s1.tk.length k2)).set 3 (.slice Z1 s1.fr.length k3)
      show Blk _ _ _ _
      rw [hv2]; exact h1
    have G10 := Lib.hid (E10.out.only O6 (by omega))
    have G9 := Lib.hid (E9.out.only O6 (by omega))
    have GB := Lib.hid (HBO.out.only O6 (fun j e hf => by rcases hf.1 with hf | hf; (have := HFL.out _ hf; omega); omega) (fun a ha e => by rcases FX.out a ha with h | h; (have := (HO.out.xF a h).2; omega); omega) (fun a ha e => by rcases FY.out a ha with h | h; (have := (HO.out.yF a h).2; omega); omega) (fun a ha e => by rcases FZ.out a ha with h | h; (have := (HO.out.zF a h).2; omega); omega))
    have GO := Lib.hid (HOO.out.trans (O6.mono fun j _ e => Or.inr (by omega)))
    rw [← hv2]
    clear hv2 O6 r0 r1 r2 r3 rf0 rf1 rf2 rf3
    refine hK.out _ _ (⟨G10.out.cell 0, G10.out.cell 1, G10.out.cell 2, G10.out.cell 3, G9.out.cell 0, G9.out.cell 1⟩) (fun hHeld => ?_)
    clear hK K
    try simp only [Act.put, List.setIfInBounds_toArray, List.set_cons_zero, List.set_cons_succ]
    refine wpAnyH_take (i := 9) (oi := ⟨some 8, _, _, _, _, _⟩) (v := ?_) rfl (by kernel_rfl) (by kernel_rfl) (by kernel_rfl) (fun _ _ _ h => h) (Or.inl ⟨by rfl, ?_⟩) (by assumption) ?_
    rotate_left
    · intro w hSw; go_simp; first | done | with_reducible rfl
    try simp only [Act.put, List.setIfInBounds_toArray, List.set_cons_zero, List.set_cons_succ]
    refine wpAnyH_done (by kernel_rfl) ?_ _
    refine NoPanic.normal ?_
    clear hHeld c0 c1 c2 c3 d0 d1
    obtain ⟨r0, r1, r2, r3, _⟩ := G2.out.four
    go_wp2_with fail
    rw [AE.out]
    exact bodyPost_ret (v := .tuple #[.pointer (some ⟨g, 0, none⟩), .agg #[.int .i64 (m : Int), .slice X1 s1.gens.length k1, .slice Y1 s1.tk.length k2, .slice Z1 s1.fr.length k3], .bool true]) (by simp [results, Try.results11, go_sem, r0, r1, r2, r3]) rfl ⟨g, _, X1, k1, Y1, k2, Z1, k3, rfl, GB.out, GO.out, fun a ha => (FX.out a ha).imp id (fun h => by omega), fun a ha => (FY.out a ha).imp id (fun h => by omega), fun a ha => (FZ.out a ha).imp id (fun h => by omega), fun j hj => by rcases hj.1 with hf | hf; exact Or.inl hf; exact Or.inr (by omega)⟩
  · have AE2 : Hid (actS m s 2 n x = frS s n (genAt s n : Int)) := by show _ = _; rw [AE.out, hi]; rfl
    replace AE := AE2
    clear AE2
    obtain ⟨q0, q1, q2⟩ := ans_yes hi
    rw [q0, q1, q2] at HAT
    clear q0 q1 q2 hi
    go_enter Try.func11, Try.ntmps11
    go_upto_region 9 with (fail)
    rw [← hw0]
    clear hw0 y0 y1 y2 yf0 yf1 yf2
    go_wp2_with fail
    refine HAT.out.mono ?_
    rintro r v0 ⟨rfl, hb⟩
    have K0 := Lib.hid (P0.out.below hb P0.out.lt)
    have KZ := Lib.hid (P2.out.below hb P2.out.lt)
    have K9 := Lib.hid (P3.out.below hb P3.out.lt)
    have KV := Lib.hid (H0.out.below hb (Nat.le_refl _))
    have KB := Lib.hid (HB0.out.trans (hb.mono HB0.out.size))
    have lz0 : w0.heap.size ≤ v0.heap.size := hb.size
    clear hb a0 a1 a2 a3 z0 z1 zf0 zf1
    obtain ⟨v1, hv1⟩ : ∃ v1, v1 = v0.alloc (.cells #[.int .i64 n, .int .i64 (genAt s n : Int)] 35) := ⟨_, rfl⟩
    obtain ⟨g13, hg13⟩ : ∃ g13, g13 = v0.heap.size := ⟨_, rfl⟩
    have b1 : Below v0.heap.size v0 v1 := by rw [hv1]; exact bnew _ _
    have T13 : Hid (Blk v1 g13 #[.int .i64 n, .int .i64 (genAt s n : Int)] 35) := by show Blk _ _ _ _; rw [hv1, hg13]; exact Blk.new _ _ _
    have PA := Lib.hid (K0.out.below b1 K0.out.lt)
    have PZ := Lib.hid (KZ.out.below b1 KZ.out.lt)
    have J9 := Lib.hid (K9.out.below b1 K9.out.lt)
    have JV := Lib.hid (KV.out.below b1 (Nat.le_refl _))
    have JB := Lib.hid (KB.out.trans (b1.mono (by omega)))
    have lz1 : v0.heap.size < v1.heap.size := by rw [hv1]; simp
    have ng : v0.heap.size ≤ g13 := by omega
    have ng2 : g13 < v1.heap.size := T13.out.lt
    clear b1
    go_upto_region 11 with (fail)
    rw [← hv1, ← hg13]
    clear hv1 hg13
    obtain ⟨t0, t1, _, _⟩ := T13.out.two
    obtain ⟨z0, z1, zf0, zf1⟩ := J9.out.two
    have lz9 : w.heap.size + 1 + 1 + 1 < v1.heap.size := by omega
    go_upto_region 12 with (fail)
    obtain ⟨v2, hv2⟩ : ∃ v2, v2 = (v1.setCell ⟨w.heap.size + 1 + 1 + 1, 0, none⟩ (.int .i64 n)).setCell ⟨w.heap.size + 1 + 1 + 1, 1, none⟩ (.int .i64 (genAt s n : Int)) := ⟨_, rfl⟩
    have O2 : Only (fun j => j = w.heap.size + 1 + 1 + 1) v1 v2 := by rw [hv2]; exact ((Only.refl (fun j => j = w.heap.size + 1 + 1 + 1) v1).put (ad := ⟨w.heap.size + 1 + 1 + 1, 0, none⟩) rfl _).put (ad := ⟨w.heap.size + 1 + 1 + 1, 1, none⟩) rfl _
    have P9 : Hid (Blk v2 (w.heap.size + 1 + 1 + 1) #[.int .i64 n, .int .i64 (genAt s n : Int)] 35) := by
      have h1 := (J9.out.set 0 (.int .i64 n)).set 1 (.int .i64 (genAt s n : Int))
      show Blk _ _ _ _
      rw [hv2]; exact h1
    replace PA := Lib.hid (PA.out.only O2 (by omega))
    replace PZ := Lib.hid (PZ.out.only O2 (by omega))
    have HV := Lib.hid (JV.out.only O2 (fun j e hf => by have := HFL.out _ hf; omega) (fun a ha e => by have := (HO.out.xF a ha).2; omega) (fun a ha e => by have := (HO.out.yF a ha).2; omega) (fun a ha e => by have := (HO.out.zF a ha).2; omega))
    have HBv := Lib.hid (JB.out.trans (O2.below (B := w.heap.size) (fun j e => by omega) (by omega)))
    have hzq : v1.heap.size ≤ v2.heap.size := O2.size
    rw [← hv2]
    clear hv2 O2 t0 t1 z0 z1 zf0 zf1 J9 JV
    have HC := Lib.hid (rrel_any HV.out.spa HI.out HM.out hG n ((genAt s n : Int)))
    unfold rrelPost at HC
    obtain ⟨s1, hs1⟩ : ∃ s1, s1 = frS s n ((genAt s n : Int)) := ⟨_, rfl⟩
    have HS1 := Lib.hid hs1
    rw [← hs1] at HC AE
    obtain ⟨te, hte⟩ : ∃ t, t = frE s n ((genAt s n : Int)) := ⟨_, rfl⟩
    rw [← hte] at HC
    have HTE := Lib.hid hte
    obtain ⟨a0, a1, a2, a3, _⟩ := PA.out.four
    obtain ⟨q0, q1, qf0, qf1⟩ := P9.out.two
    clear hs1 hte
    go_wp2_with fail
    refine HC.out.mono ?_
    rintro r w1 ⟨X1, k1, Y1, k2, Z1, k3, rfl, hs, fx, fy, fz, hb⟩
    have HS := Lib.hid hs; have FX := Lib.hid fx; have FY := Lib.hid fy; have FZ := Lib.hid fz
    have HB1 := Lib.hid (HBv.out.trans (hb.mono (by omega)))
    have H1 := Lib.hid (HV.out.are.below hb (Nat.le_refl _))
    have Q2 := Lib.hid (PZ.out.below hb PZ.out.lt)
    have Q9 := Lib.hid (P9.out.below hb P9.out.lt)
    have hz1 : v2.heap.size ≤ w1.heap.size := hb.size
    clear hs fx fy fz hb HC a0 a1 a2 a3 q0 q1 qf0 qf1
    obtain ⟨w2, hw2⟩ : ∃ w2, w2 = w1.alloc (.cells #[.int .i64 (m : Int), .slice X1 s1.gens.length k1, .slice Y1 s1.tk.length k2, .slice Z1 s1.fr.length k3] 31) := ⟨_, rfl⟩
    obtain ⟨g10, hg10⟩ : ∃ g10, g10 = w1.heap.size := ⟨_, rfl⟩
    have b2 : Below w1.heap.size w1 w2 := by rw [hw2]; exact bnew w1 _
    have r10 : Blk w2 g10 #[.int .i64 (m : Int), .slice X1 s1.gens.length k1, .slice Y1 s1.tk.length k2, .slice Z1 s1.fr.length k3] 31 := by rw [hw2, hg10]; exact Blk.new w1 _ _
    have R10 := Lib.hid r10
    have R9 := Lib.hid (Q9.out.below b2 Q9.out.lt)
    have R2 := Lib.hid (Q2.out.below b2 Q2.out.lt)
    have H2 := Lib.hid (H1.out.below b2 (Nat.le_refl _))
    have HS2 := Lib.hid (HS.out.below b2 (Nat.le_refl _))
    have HB2 := Lib.hid (HB1.out.trans (b2.mono (by omega)))
    have n10 : w1.heap.size ≤ g10 ∧ g10 < w2.heap.size := ⟨by omega, r10.lt⟩
    obtain ⟨c0, c1, c2, c3, _⟩ := r10.four
    obtain ⟨d0, d1, _, _⟩ := R9.out.two
    clear r10 b2
    go_upto_region 13 with (fail)
    rw [← hw2, ← hg10]
    clear hw2 hg10
    have D10 := Lib.hid (show Blk w2.drew g10 _ _ from R10.out)
    have D9 := Lib.hid (show Blk w2.drew (w.heap.size + 1 + 1 + 1) _ _ from R9.out)
    have D2 := Lib.hid (show Blk w2.drew (w.heap.size + 1 + 1) _ _ from R2.out)
    have DA := Lib.hid (H2.out.below ((Below.refl w2.heap.size w2).drew) (Nat.le_refl _))
    have DS := Lib.hid (HS2.out.below ((Below.refl w2.heap.size w2).drew) (Nat.le_refl _))
    have DB := Lib.hid HB2.out.drew
    have hzd : w2.heap.size ≤ w2.drew.heap.size := Nat.le_refl _
    refine wp_region_noPanic ?_
    refine wp_region_held_drew (S := fun v => v.cell? ⟨g10, 0, none⟩ = some (.int .i64 (m : Int)) ∧ v.cell? ⟨g10, 1, none⟩ = some (.slice X1 s1.gens.length k1) ∧ v.cell? ⟨g10, 2, none⟩ = some (.slice Y1 s1.tk.length k2) ∧ v.cell? ⟨g10, 3, none⟩ = some (.slice Z1 s1.fr.length k3) ∧ v.cell? ⟨w.heap.size + 1 + 1 + 1, 0, none⟩ = some (.int .i64 n) ∧ v.cell? ⟨w.heap.size + 1 + 1 + 1, 1, none⟩ = some (.int .i64 ((genAt s n : Int)))) (by kernel_rfl) (⟨c0, c1, c2, c3, d0, d1⟩) (fun hHeld => ?_)
    generalize w2.drew = u at D10 D9 D2 DA DS DB hzd hHeld ⊢
    refine wpAnyH_take (i := 0) (oi := ⟨some 60, _, _, _, _, _⟩) (v := ?_) rfl (by kernel_rfl) (by kernel_rfl) (by kernel_rfl) (fun _ _ _ h => h) (Or.inl ⟨by rfl, ?_⟩) (by assumption) ?_
    rotate_left
    · intro w hSw; go_simp; first | done | with_reducible rfl
    try simp only [Act.put, List.setIfInBounds_toArray, List.set_cons_zero, List.set_cons_succ]
    refine wpAnyH_take (i := 1) (oi := ⟨some 61, _, _, _, _, _⟩) (v := ?_) rfl (by kernel_rfl) (by kernel_rfl) (by kernel_rfl) (fun _ _ _ h => h) (Or.inl ⟨by rfl, ?_⟩) (by assumption) ?_
    rotate_left
    · intro w hSw; go_simp; first | done | with_reducible rfl
    try simp only [Act.put, List.setIfInBounds_toArray, List.set_cons_zero, List.set_cons_succ]
    refine wpAnyH_take (i := 2) (oi := ⟨some 62, _, _, _, _, _⟩) (v := ?_) rfl (by kernel_rfl) (by kernel_rfl) (by kernel_rfl) (fun _ _ _ h => h) (Or.inl ⟨by rfl, ?_⟩) (by assumption) ?_
    rotate_left
    · intro w hSw; go_simp; first | done | with_reducible rfl
    try simp only [Act.put, List.setIfInBounds_toArray, List.set_cons_zero, List.set_cons_succ]
    refine wpAnyH_take (i := 3) (oi := ⟨some 63, _, _, _, _, _⟩) (v := ?_) rfl (by kernel_rfl) (by kernel_rfl) (by kernel_rfl) (fun _ _ _ h => h) (Or.inl ⟨by rfl, ?_⟩) (by assumption) ?_
    rotate_left
    · intro w hSw; go_simp; first | done | with_reducible rfl
    try simp only [Act.put, List.setIfInBounds_toArray, List.set_cons_zero, List.set_cons_succ]
    refine wpAnyH_take (i := 5) (oi := ⟨some 65, _, _, _, _, _⟩) (v := ?_) rfl (by kernel_rfl) (by kernel_rfl) (by kernel_rfl) (fun _ _ _ h => h) (Or.inl ⟨by rfl, ?_⟩) (by assumption) ?_
    rotate_left
    · intro w hSw; go_simp; first | done | with_reducible rfl
    try simp only [Act.put, List.setIfInBounds_toArray, List.set_cons_zero, List.set_cons_succ]
    refine wpAnyH_ready (rs := [4]) (by kernel_rfl) (by simp) ?_
    refine AllReadyH.cons (o := ⟨some 64, _, _, _, _, _⟩) rfl (fun K hK => ?_) AllReadyH.nil
    go_simp
    refine (free_any DA.out hG n ((genAt s n : Int))).mono ?_
    unfold freePost
    rw [← HS1.out, ← HTE.out]
    rintro r v ⟨rfl, ha, ho⟩
    have E10 := Lib.hid (D10.out.only ho (fun hf => by have := HFL.out _ hf; omega))
    have E9 := Lib.hid (D9.out.only ho (fun hf => by have := HFL.out _ hf; omega))
    have E2 := Lib.hid (D2.out.only ho (fun hf => by have := HFL.out _ hf; omega))
    have hzv : u.heap.size ≤ v.heap.size := ho.size
    have FX2 : Frm v2.heap.size u.heap.size X X1 := fun a ha => (FX.out a ha).imp id (fun h => ⟨h.1, by omega⟩)
    have FY2 : Frm v2.heap.size u.heap.size Y Y1 := fun a ha => (FY.out a ha).imp id (fun h => ⟨h.1, by omega⟩)
    have FZ2 : Frm v2.heap.size u.heap.size Z Z1 := fun a ha => (FZ.out a ha).imp id (fun h => ⟨h.1, by omega⟩)
    have AX := Lib.hid (apart_row (v := v) HFL.out HO.out.xF FX2 (by omega) (by omega) hzv)
    have AY := Lib.hid (apart_row (v := v) HFL.out HO.out.yF FY2 (by omega) (by omega) hzv)
    have AZ := Lib.hid (apart_row (v := v) HFL.out HO.out.zF FZ2 (by omega) (by omega) hzv)
    have ES : Hid (Spa v s1 X1 k1 Y1 k2 Z1 k3) := DS.out.only ho (fun a ha hf => (AX.out a ha).1 ⟨Or.inl hf, (AX.out a ha).2⟩) (fun a ha hf => (AY.out a ha).1 ⟨Or.inl hf, (AY.out a ha).2⟩) (fun a ha hf => (AZ.out a ha).1 ⟨Or.inl hf, (AZ.out a ha).2⟩)
    have HBO : Hid (Both N v (fun j => More F u j ∧ j < v.heap.size) g m (G + 1) s1 X1 k1 Y1 k2 Z1 k3) := ⟨ha.tight, ES.out, fun j hj => ⟨by rcases hj.1 with hf | hf; exact (HO.out.fl j hf).1; omega, hj.2⟩, AX.out, AY.out, AZ.out⟩
    have HOO : Hid (Only F w v) := (Only.of_below DB.out (Nat.le_refl _) F).trans (ho.mono fun _ _ hf => Or.inl hf)
    clear ha ho FX2 FY2 FZ2
    go_simp
    refine hK.out _ _ (⟨E10.out.cell 0, E10.out.cell 1, E10.out.cell 2, E10.out.cell 3, E9.out.cell 0, E9.out.cell 1⟩) (fun hHeld => ?_)
    clear hK K
    try simp only [Act.put, List.setIfInBounds_toArray, List.set_cons_zero, List.set_cons_succ]
    refine wpAnyH_take (i := 6) (oi := ⟨some 66, _, _, _, _, _⟩) (v := ?_) rfl (by kernel_rfl) (by kernel_rfl) (by kernel_rfl) (fun _ _ _ h => h) (Or.inl ⟨by rfl, ?_⟩) (by assumption) ?_
    rotate_left
    · intro w hSw; go_simp; first | done | with_reducible rfl
    try simp only [Act.put, List.setIfInBounds_toArray, List.set_cons_zero, List.set_cons_succ]
    refine wpAnyH_take (i := 7) (oi := ⟨some 6, _, _, _, _, _⟩) (v := ?_) rfl (by kernel_rfl) (by kernel_rfl) (by kernel_rfl) (fun _ _ _ h => h) (Or.inl ⟨by rfl, ?_⟩) (by assumption) ?_
    rotate_left
    · intro w hSw; go_simp; first | done | with_reducible rfl
    try simp only [Act.put, List.setIfInBounds_toArray, List.set_cons_zero, List.set_cons_succ]
    refine wpAnyH_ready (rs := [8]) (by kernel_rfl) (by simp) ?_
    refine AllReadyH.cons (o := ⟨none, _, _, _, _, _⟩) rfl (fun K hK => ?_) AllReadyH.nil
    obtain ⟨r0, r1, r2, r3, rf0, rf1, rf2, rf3⟩ := E2.out.four
    go_simp
    obtain ⟨v2, hv2⟩ : ∃ v2, v2 = (((v.setCell ⟨w.heap.size + 1 + 1, 0, none⟩ (.int .i64 (m : Int))).setCell ⟨w.heap.size + 1 + 1, 1, none⟩ (.slice X1 s1.gens.length k1)).setCell ⟨w.heap.size + 1 + 1, 2, none⟩ (.slice Y1 s1.tk.length k2)).setCell ⟨w.heap.size + 1 + 1, 3, none⟩ (.slice Z1 s1.fr.length k3) := ⟨_, rfl⟩
    have O6 : Only (fun j => j = w.heap.size + 1 + 1) v v2 := by rw [hv2]; exact four_only _ _ _ _
    have G2 : Hid (Blk v2 (w.heap.size + 1 + 1) #[.int .i64 (m : Int), .slice X1 s1.gens.length k1, .slice Y1 s1.tk.length k2, .slice Z1 s1.fr.length k3] 31) := by
      have h1 := (((E2.out.set 0 (.int .i64 (m : Int))).set 1 (.slice X1 s1.gens.length k1)).set 2 (.slice Y1 s1.tk.length k2)).set 3 (.slice Z1 s1.fr.length k3)
      show Blk _ _ _ _
      rw [hv2]; exact h1
    have G10 := Lib.hid (E10.out.only O6 (by omega))
    have G9 := Lib.hid (E9.out.only O6 (by omega))
    have GB := Lib.hid (HBO.out.only O6 (fun j e hf => by rcases hf.1 with hf | hf; (have := HFL.out _ hf; omega); omega) (fun a ha e => by rcases FX.out a ha with h | h; (have := (HO.out.xF a h).2; omega); omega) (fun a ha e => by rcases FY.out a ha with h | h; (have := (HO.out.yF a h).2; omega); omega) (fun a ha e => by rcases FZ.out a ha with h | h; (have := (HO.out.zF a h).2; omega); omega))
    have GO := Lib.hid (HOO.out.trans (O6.mono fun j _ e => Or.inr (by omega)))
    rw [← hv2]
    clear hv2 O6 r0 r1 r2 r3 rf0 rf1 rf2 rf3
    refine hK.out _ _ (⟨G10.out.cell 0, G10.out.cell 1, G10.out.cell 2, G10.out.cell 3, G9.out.cell 0, G9.out.cell 1⟩) (fun hHeld => ?_)
    clear hK K
    try simp only [Act.put, List.setIfInBounds_toArray, List.set_cons_zero, List.set_cons_succ]
    refine wpAnyH_take (i := 9) (oi := ⟨some 8, _, _, _, _, _⟩) (v := ?_) rfl (by kernel_rfl) (by kernel_rfl) (by kernel_rfl) (fun _ _ _ h => h) (Or.inl ⟨by rfl, ?_⟩) (by assumption) ?_
    rotate_left
    · intro w hSw; go_simp; first | done | with_reducible rfl
    try simp only [Act.put, List.setIfInBounds_toArray, List.set_cons_zero, List.set_cons_succ]
    refine wpAnyH_done (by kernel_rfl) ?_ _
    refine NoPanic.normal ?_
    clear hHeld c0 c1 c2 c3 d0 d1
    obtain ⟨r0, r1, r2, r3, _⟩ := G2.out.four
    go_wp2_with fail
    rw [AE.out]
    exact bodyPost_ret (v := .tuple #[.pointer (some ⟨g, 0, none⟩), .agg #[.int .i64 (m : Int), .slice X1 s1.gens.length k1, .slice Y1 s1.tk.length k2, .slice Z1 s1.fr.length k3], .bool true]) (by simp [results, Try.results11, go_sem, r0, r1, r2, r3]) rfl ⟨g, _, X1, k1, Y1, k2, Z1, k3, rfl, GB.out, GO.out, fun a ha => (FX.out a ha).imp id (fun h => by omega), fun a ha => (FY.out a ha).imp id (fun h => by omega), fun a ha => (FZ.out a ha).imp id (fun h => by omega), fun j hj => by rcases hj.1 with hf | hf; exact Or.inl hf; exact Or.inr (by omega)⟩
set_option maxRecDepth 100000 in
set_option maxHeartbeats 4000000 in
theorem do3 {N : Nat} {w : World} {F : Nat → Prop} {g m G : Nat} {s : St} {X Y Z : Option Addr} {c d e : Nat} (h : Both N w F g m G s X c Y d Z e) (hG1 : 1 ≤ G) (hG : G ≤ 1000000000) (hN : N ≤ w.heap.size) (n x : Int) :
    Calls Try.prog 11 #[.pointer (some ⟨g, 0, none⟩), .agg #[.int .i64 (m : Int), .slice X s.gens.length c, .slice Y s.tk.length d, .slice Z s.fr.length e], .agg #[.int .i64 3, .int .i64 n, .int .i64 x]] w (doPost N w F m G s X Y Z 3 n x) := by
  obtain ⟨w0, hw0⟩ : ∃ w0, w0 = (((w.alloc (.cells #[.int .i64 (m : Int), .slice X s.gens.length c, .slice Y s.tk.length d, .slice Z s.fr.length e] 31)).alloc (.cells #[.int .i64 3, .int .i64 n, .int .i64 x] 37)).alloc (.cells #[.int .i64 0, .slice none 0 0, .slice none 0 0, .slice none 0 0] 31)).alloc (.cells #[.int .i64 n, .int .i64 x] 35) := ⟨_, rfl⟩
  have b0 : Below w.heap.size w w0 := by rw [hw0]; exact ((((bnew w _).alloc (by simp) _).alloc (by simp; omega) _).alloc (by simp; omega) _)
  have p0 : Blk w0 (w.heap.size) #[.int .i64 (m : Int), .slice X s.gens.length c, .slice Y s.tk.length d, .slice Z s.fr.length e] 31 := by
    have h := Blk.new w #[.int .i64 (m : Int), .slice X s.gens.length c, .slice Y s.tk.length d, .slice Z s.fr.length e] 31
    replace h := h.below (bnew (w.alloc (.cells #[.int .i64 (m : Int), .slice X s.gens.length c, .slice Y s.tk.length d, .slice Z s.fr.length e] 31)) (.cells #[.int .i64 3, .int .i64 n, .int .i64 x] 37)) (by simp <;> omega)
    replace h := h.below (bnew ((w.alloc (.cells #[.int .i64 (m : Int), .slice X s.gens.length c, .slice Y s.tk.length d, .slice Z s.fr.length e] 31)).alloc (.cells #[.int .i64 3, .int .i64 n, .int .i64 x] 37)) (.cells #[.int .i64 0, .slice none 0 0, .slice none 0 0, .slice none 0 0] 31)) (by simp <;> omega)
    replace h := h.below (bnew (((w.alloc (.cells #[.int .i64 (m : Int), .slice X s.gens.length c, .slice Y s.tk.length d, .slice Z s.fr.length e] 31)).alloc (.cells #[.int .i64 3, .int .i64 n, .int .i64 x] 37)).alloc (.cells #[.int .i64 0, .slice none 0 0, .slice none 0 0, .slice none 0 0] 31)) (.cells #[.int .i64 n, .int .i64 x] 35)) (by simp <;> omega)
    rw [hw0]; simpa using h
  have p1 : Blk w0 (w.heap.size + 1) #[.int .i64 3, .int .i64 n, .int .i64 x] 37 := by
    have h := Blk.new (w.alloc (.cells #[.int .i64 (m : Int), .slice X s.gens.length c, .slice Y s.tk.length d, .slice Z s.fr.length e] 31)) #[.int .i64 3, .int .i64 n, .int .i64 x] 37
    replace h := h.below (bnew ((w.alloc (.cells #[.int .i64 (m : Int), .slice X s.gens.length c, .slice Y s.tk.length d, .slice Z s.fr.length e] 31)).alloc (.cells #[.int .i64 3, .int .i64 n, .int .i64 x] 37)) (.cells #[.int .i64 0, .slice none 0 0, .slice none 0 0, .slice none 0 0] 31)) (by simp <;> omega)
    replace h := h.below (bnew (((w.alloc (.cells #[.int .i64 (m : Int), .slice X s.gens.length c, .slice Y s.tk.length d, .slice Z s.fr.length e] 31)).alloc (.cells #[.int .i64 3, .int .i64 n, .int .i64 x] 37)).alloc (.cells #[.int .i64 0, .slice none 0 0, .slice none 0 0, .slice none 0 0] 31)) (.cells #[.int .i64 n, .int .i64 x] 35)) (by simp <;> omega)
    rw [hw0]; simpa using h
  have p2 : Blk w0 (w.heap.size + 1 + 1) #[.int .i64 0, .slice none 0 0, .slice none 0 0, .slice none 0 0] 31 := by
    have h := Blk.new ((w.alloc (.cells #[.int .i64 (m : Int), .slice X s.gens.length c, .slice Y s.tk.length d, .slice Z s.fr.length e] 31)).alloc (.cells #[.int .i64 3, .int .i64 n, .int .i64 x] 37)) #[.int .i64 0, .slice none 0 0, .slice none 0 0, .slice none 0 0] 31
    replace h := h.below (bnew (((w.alloc (.cells #[.int .i64 (m : Int), .slice X s.gens.length c, .slice Y s.tk.length d, .slice Z s.fr.length e] 31)).alloc (.cells #[.int .i64 3, .int .i64 n, .int .i64 x] 37)).alloc (.cells #[.int .i64 0, .slice none 0 0, .slice none 0 0, .slice none 0 0] 31)) (.cells #[.int .i64 n, .int .i64 x] 35)) (by simp <;> omega)
    rw [hw0]; simpa using h
  have p3 : Blk w0 (w.heap.size + 1 + 1 + 1) #[.int .i64 n, .int .i64 x] 35 := by
    have h := Blk.new (((w.alloc (.cells #[.int .i64 (m : Int), .slice X s.gens.length c, .slice Y s.tk.length d, .slice Z s.fr.length e] 31)).alloc (.cells #[.int .i64 3, .int .i64 n, .int .i64 x] 37)).alloc (.cells #[.int .i64 0, .slice none 0 0, .slice none 0 0, .slice none 0 0] 31)) #[.int .i64 n, .int .i64 x] 35
    rw [hw0]; simpa using h
  have hz0 : w.heap.size + 1 + 1 + 1 < w0.heap.size := p3.lt
  have HB0 := Lib.hid b0; have P0 := Lib.hid p0; have P1 := Lib.hid p1; have P2 := Lib.hid p2; have P3 := Lib.hid p3
  have HI := Lib.hid h.are.inv; have HM := Lib.hid h.are.hi
  have HO := Lib.hid h
  have H0 := Lib.hid (h.below b0 (Nat.le_refl _))
  have HFL : Hid (∀ j, F j → j < w.heap.size) := fun j hj => (HO.out.fl j hj).2
  have AE := Lib.hid (act3 m s 3 n x (by omega) (by omega) (by omega))
  have hu := And.intro hG1 (And.intro hG hN)
  clear hu
  unfold doPost
  have HAT := Lib.hid (rat_any H0.out.spa HI.out n)
  unfold atPost at HAT
  obtain ⟨an, han⟩ : ∃ t, t = aN s n := ⟨_, rfl⟩
  obtain ⟨ag, hag⟩ : ∃ t, t = aG s n := ⟨_, rfl⟩
  obtain ⟨ae, hae⟩ : ∃ t, t = aE s n := ⟨_, rfl⟩
  rw [← han, ← hag, ← hae] at HAT
  have HAN := Lib.hid han; have HAG := Lib.hid hag; have HAE := Lib.hid hae
  clear h b0 p2 han hag hae
  obtain ⟨y0, y1, y2, yf0, yf1, yf2⟩ := p1.three
  obtain ⟨a0, a1, a2, a3, _⟩ := P0.out.four
  obtain ⟨z0, z1, zf0, zf1⟩ := p3.two
  have l0 : w.heap.size < w0.heap.size := by omega
  have l1 : w.heap.size + 1 < w0.heap.size := by omega
  clear p0 p1 p3
  go_enter Try.func11, Try.ntmps11
  go_upto_region 15 with (fail)
  rw [← hw0]
  clear hw0 y0 y1 y2 yf0 yf1 yf2
  go_wp2_with fail
  refine HAT.out.mono ?_
  rintro r v0 ⟨rfl, hb⟩
  have K0 := Lib.hid (P0.out.below hb P0.out.lt)
  have KZ := Lib.hid (P2.out.below hb P2.out.lt)
  have K9 := Lib.hid (P3.out.below hb P3.out.lt)
  have KV := Lib.hid (H0.out.below hb (Nat.le_refl _))
  have KB := Lib.hid (HB0.out.trans (hb.mono HB0.out.size))
  have lz0 : w0.heap.size ≤ v0.heap.size := hb.size
  clear hb a0 a1 a2 a3 z0 z1 zf0 zf1 HAT
  obtain ⟨v1, hv1⟩ : ∃ v1, v1 = v0.alloc (.cells #[.int .i64 an, .int .i64 ag] 35) := ⟨_, rfl⟩
  obtain ⟨g17, hg17⟩ : ∃ g17, g17 = v0.heap.size := ⟨_, rfl⟩
  have b1 : Below v0.heap.size v0 v1 := by rw [hv1]; exact bnew _ _
  have T17 : Hid (Blk v1 g17 #[.int .i64 an, .int .i64 ag] 35) := by show Blk _ _ _ _; rw [hv1, hg17]; exact Blk.new _ _ _
  have PA := Lib.hid (K0.out.below b1 K0.out.lt)
  have PZ := Lib.hid (KZ.out.below b1 KZ.out.lt)
  have P9 := Lib.hid (K9.out.below b1 K9.out.lt)
  have HV := Lib.hid (KV.out.below b1 (Nat.le_refl _))
  have HBv := Lib.hid (KB.out.trans (b1.mono (by omega)))
  have lz1 : v0.heap.size < v1.heap.size := by rw [hv1]; simp
  have ng : v0.heap.size ≤ g17 := by omega
  have ng2 : g17 < v1.heap.size := T17.out.lt
  clear b1
  go_upto_region 16 with (fail)
  rw [← hv1, ← hg17]
  clear hv1 hg17
  have DA := Lib.hid (show Blk v1.drew w.heap.size _ _ from PA.out)
  have DZ := Lib.hid (show Blk v1.drew (w.heap.size + 1 + 1) _ _ from PZ.out)
  have D9 := Lib.hid (show Blk v1.drew (w.heap.size + 1 + 1 + 1) _ _ from P9.out)
  have DT := Lib.hid (show Blk v1.drew g17 _ _ from T17.out)
  have DV := Lib.hid (HV.out.below ((Below.refl v1.heap.size v1).drew) (Nat.le_refl _))
  have DB := Lib.hid HBv.out.drew
  have hzd : v1.heap.size ≤ v1.drew.heap.size := Nat.le_refl _
  obtain ⟨c0, c1, c2, c3, _⟩ := PA.out.four
  obtain ⟨d0, d1, _, _⟩ := P9.out.two
  obtain ⟨e0, e1, _, _⟩ := T17.out.two
  refine wp_region_noPanic ?_
  refine wp_region_held_drew (S := fun v => v.cell? ⟨w.heap.size, 0, none⟩ = some (.int .i64 (m : Int)) ∧ v.cell? ⟨w.heap.size, 1, none⟩ = some (.slice X s.gens.length c) ∧ v.cell? ⟨w.heap.size, 2, none⟩ = some (.slice Y s.tk.length d) ∧ v.cell? ⟨w.heap.size, 3, none⟩ = some (.slice Z s.fr.length e) ∧ v.cell? ⟨w.heap.size + 1 + 1 + 1, 0, none⟩ = some (.int .i64 n) ∧ v.cell? ⟨w.heap.size + 1 + 1 + 1, 1, none⟩ = some (.int .i64 x) ∧ v.cell? ⟨g17, 0, none⟩ = some (.int .i64 an) ∧ v.cell? ⟨g17, 1, none⟩ = some (.int .i64 ag)) (by kernel_rfl) (⟨c0, c1, c2, c3, d0, d1, e0, e1⟩) (fun hHeld => ?_)
  generalize v1.drew = u at DA DZ D9 DT DV DB hzd hHeld ⊢
  refine wpAnyH_take (i := 0) (oi := ⟨some 76, _, _, _, _, _⟩) (v := ?_) rfl (by kernel_rfl) (by kernel_rfl) (by kernel_rfl) (fun _ _ _ h => h) (Or.inl ⟨by rfl, ?_⟩) (by assumption) ?_
  rotate_left
  · intro w hSw; go_simp; first | done | with_reducible rfl
  try simp only [Act.put, List.setIfInBounds_toArray, List.set_cons_zero, List.set_cons_succ]
  refine wpAnyH_take (i := 1) (oi := ⟨some 77, _, _, _, _, _⟩) (v := ?_) rfl (by kernel_rfl) (by kernel_rfl) (by kernel_rfl) (fun _ _ _ h => h) (Or.inl ⟨by rfl, ?_⟩) (by assumption) ?_
  rotate_left
  · intro w hSw; go_simp; first | done | with_reducible rfl
  try simp only [Act.put, List.setIfInBounds_toArray, List.set_cons_zero, List.set_cons_succ]
  refine wpAnyH_take (i := 2) (oi := ⟨some 78, _, _, _, _, _⟩) (v := ?_) rfl (by kernel_rfl) (by kernel_rfl) (by kernel_rfl) (fun _ _ _ h => h) (Or.inl ⟨by rfl, ?_⟩) (by assumption) ?_
  rotate_left
  · intro w hSw; go_simp; first | done | with_reducible rfl
  try simp only [Act.put, List.setIfInBounds_toArray, List.set_cons_zero, List.set_cons_succ]
  refine wpAnyH_take (i := 3) (oi := ⟨some 79, _, _, _, _, _⟩) (v := ?_) rfl (by kernel_rfl) (by kernel_rfl) (by kernel_rfl) (fun _ _ _ h => h) (Or.inl ⟨by rfl, ?_⟩) (by assumption) ?_
  rotate_left
  · intro w hSw; go_simp; first | done | with_reducible rfl
  try simp only [Act.put, List.setIfInBounds_toArray, List.set_cons_zero, List.set_cons_succ]
  refine wpAnyH_take (i := 4) (oi := ⟨some 80, _, _, _, _, _⟩) (v := ?_) rfl (by kernel_rfl) (by kernel_rfl) (by kernel_rfl) (fun _ _ _ h => h) (Or.inl ⟨by rfl, ?_⟩) (by assumption) ?_
  rotate_left
  · intro w hSw; go_simp; first | done | with_reducible rfl
  try simp only [Act.put, List.setIfInBounds_toArray, List.set_cons_zero, List.set_cons_succ]
  refine wpAnyH_take (i := 5) (oi := ⟨some 81, _, _, _, _, _⟩) (v := ?_) rfl (by kernel_rfl) (by kernel_rfl) (by kernel_rfl) (fun _ _ _ h => h) (Or.inl ⟨by rfl, ?_⟩) (by assumption) ?_
  rotate_left
  · intro w hSw; go_simp; first | done | with_reducible rfl
  try simp only [Act.put, List.setIfInBounds_toArray, List.set_cons_zero, List.set_cons_succ]
  refine wpAnyH_take (i := 6) (oi := ⟨some 82, _, _, _, _, _⟩) (v := ?_) rfl (by kernel_rfl) (by kernel_rfl) (by kernel_rfl) (fun _ _ _ h => h) (Or.inl ⟨by rfl, ?_⟩) (by assumption) ?_
  rotate_left
  · intro w hSw; go_simp; first | done | with_reducible rfl
  try simp only [Act.put, List.setIfInBounds_toArray, List.set_cons_zero, List.set_cons_succ]
  refine wpAnyH_ready (rs := [7]) (by kernel_rfl) (by simp) ?_
  refine AllReadyH.cons (o := ⟨some 83, _, _, _, _, _⟩) rfl (fun K hK => ?_) AllReadyH.nil
  go_simp
  refine (at_true DV.out.are n an ag ae HAN.out.symm HAG.out.symm HAE.out.symm).mono ?_
  unfold boolTo
  rintro r u1 ⟨rfl, hb⟩
  have DA1 := Lib.hid (DA.out.below hb DA.out.lt)
  have DZ1 := Lib.hid (DZ.out.below hb DZ.out.lt)
  have D91 := Lib.hid (D9.out.below hb D9.out.lt)
  have DT1 := Lib.hid (DT.out.below hb DT.out.lt)
  have DV1 := Lib.hid (DV.out.below hb (Nat.le_refl _))
  have DB1 := Lib.hid (DB.out.trans (hb.mono (by omega)))
  have hzu1 := hb.size
  clear hb
  go_simp
  refine hK.out _ _ (⟨DA1.out.cell 0, DA1.out.cell 1, DA1.out.cell 2, DA1.out.cell 3, D91.out.cell 0, D91.out.cell 1, DT1.out.cell 0, DT1.out.cell 1⟩) (fun hHeld => ?_)
  clear hK K
  try simp only [Act.put, List.setIfInBounds_toArray, List.set_cons_zero, List.set_cons_succ]
  refine wpAnyH_take (i := 8) (oi := ⟨some 84, _, _, _, _, _⟩) (v := ?_) rfl (by kernel_rfl) (by kernel_rfl) (by kernel_rfl) (fun _ _ _ h => h) (Or.inl ⟨by rfl, ?_⟩) (by assumption) ?_
  rotate_left
  · intro w hSw; go_simp; first | done | with_reducible rfl
  try simp only [Act.put, List.setIfInBounds_toArray, List.set_cons_zero, List.set_cons_succ]
  refine wpAnyH_take (i := 9) (oi := ⟨some 85, _, _, _, _, _⟩) (v := ?_) rfl (by kernel_rfl) (by kernel_rfl) (by kernel_rfl) (fun _ _ _ h => h) (Or.inl ⟨by rfl, ?_⟩) (by assumption) ?_
  rotate_left
  · intro w hSw; go_simp; first | done | with_reducible rfl
  try simp only [Act.put, List.setIfInBounds_toArray, List.set_cons_zero, List.set_cons_succ]
  refine wpAnyH_take (i := 10) (oi := ⟨some 86, _, _, _, _, _⟩) (v := ?_) rfl (by kernel_rfl) (by kernel_rfl) (by kernel_rfl) (fun _ _ _ h => h) (Or.inl ⟨by rfl, ?_⟩) (by assumption) ?_
  rotate_left
  · intro w hSw; go_simp; first | done | with_reducible rfl
  try simp only [Act.put, List.setIfInBounds_toArray, List.set_cons_zero, List.set_cons_succ]
  refine wpAnyH_take (i := 12) (oi := ⟨some 88, _, _, _, _, _⟩) (v := ?_) rfl (by kernel_rfl) (by kernel_rfl) (by kernel_rfl) (fun _ _ _ h => h) (Or.inl ⟨by rfl, ?_⟩) (by assumption) ?_
  rotate_left
  · intro w hSw; go_simp; first | done | with_reducible rfl
  try simp only [Act.put, List.setIfInBounds_toArray, List.set_cons_zero, List.set_cons_succ]
  refine wpAnyH_take (i := 13) (oi := ⟨some 89, _, _, _, _, _⟩) (v := ?_) rfl (by kernel_rfl) (by kernel_rfl) (by kernel_rfl) (fun _ _ _ h => h) (Or.inl ⟨by rfl, ?_⟩) (by assumption) ?_
  rotate_left
  · intro w hSw; go_simp; first | done | with_reducible rfl
  try simp only [Act.put, List.setIfInBounds_toArray, List.set_cons_zero, List.set_cons_succ]
  refine wpAnyH_ready (rs := [11]) (by kernel_rfl) (by simp) ?_
  refine AllReadyH.cons (o := ⟨some 87, _, _, _, _, _⟩) rfl (fun K hK => ?_) AllReadyH.nil
  go_simp
  refine (has_any DV1.out.are n x).mono ?_
  unfold boolTo
  rintro r u2 ⟨rfl, hb⟩
  have DA2 := Lib.hid (DA1.out.below hb DA1.out.lt)
  have DZ2 := Lib.hid (DZ1.out.below hb DZ1.out.lt)
  have D92 := Lib.hid (D91.out.below hb D91.out.lt)
  have DT2 := Lib.hid (DT1.out.below hb DT1.out.lt)
  have DV2 := Lib.hid (DV1.out.below hb (Nat.le_refl _))
  have DB2 := Lib.hid (DB1.out.trans (hb.mono (by omega)))
  have hzu2 := hb.size
  clear hb
  go_simp
  refine hK.out _ _ (⟨DA2.out.cell 0, DA2.out.cell 1, DA2.out.cell 2, DA2.out.cell 3, D92.out.cell 0, D92.out.cell 1, DT2.out.cell 0, DT2.out.cell 1⟩) (fun hHeld => ?_)
  clear hK K
  try simp only [Act.put, List.setIfInBounds_toArray, List.set_cons_zero, List.set_cons_succ]
  refine wpAnyH_ready (rs := [14]) (by kernel_rfl) (by simp) ?_
  refine AllReadyH.cons (o := ⟨some 90, _, _, _, _, _⟩) rfl (fun K hK => ?_) AllReadyH.nil
  go_simp
  refine (rhas_any DV2.out.spa HI.out n x).mono ?_
  unfold boolTo
  rintro r u3 ⟨rfl, hb⟩
  have DA3 := Lib.hid (DA2.out.below hb DA2.out.lt)
  have DZ3 := Lib.hid (DZ2.out.below hb DZ2.out.lt)
  have D93 := Lib.hid (D92.out.below hb D92.out.lt)
  have DT3 := Lib.hid (DT2.out.below hb DT2.out.lt)
  have DV3 := Lib.hid (DV2.out.below hb (Nat.le_refl _))
  have DB3 := Lib.hid (DB2.out.trans (hb.mono (by omega)))
  have hzu3 := hb.size
  clear hb
  go_simp
  refine hK.out _ _ (⟨DA3.out.cell 0, DA3.out.cell 1, DA3.out.cell 2, DA3.out.cell 3, D93.out.cell 0, D93.out.cell 1, DT3.out.cell 0, DT3.out.cell 1⟩) (fun hHeld => ?_)
  clear hK K
  try simp only [Act.put, List.setIfInBounds_toArray, List.set_cons_zero, List.set_cons_succ]
  refine wpAnyH_take (i := 15) (oi := ⟨some 91, _, _, _, _, _⟩) (v := ?_) rfl (by kernel_rfl) (by kernel_rfl) (by kernel_rfl) (fun _ _ _ h => h) (Or.inl ⟨by rfl, ?_⟩) (by assumption) ?_
  rotate_left
  · intro w hSw; go_simp; first | done | with_reducible rfl
  try simp only [Act.put, List.setIfInBounds_toArray, List.set_cons_zero, List.set_cons_succ]
  refine wpAnyH_take (i := 16) (oi := ⟨some 92, _, _, _, _, _⟩) (v := ?_) rfl (by kernel_rfl) (by kernel_rfl) (by kernel_rfl) (fun _ _ _ h => h) (Or.inl ⟨by rfl, ?_⟩) (by assumption) ?_
  rotate_left
  · intro w hSw; go_simp; first | done | with_reducible rfl
  try simp only [Act.put, List.setIfInBounds_toArray, List.set_cons_zero, List.set_cons_succ]
  refine wpAnyH_take (i := 17) (oi := ⟨some 6, _, _, _, _, _⟩) (v := ?_) rfl (by kernel_rfl) (by kernel_rfl) (by kernel_rfl) (fun _ _ _ h => h) (Or.inl ⟨by rfl, ?_⟩) (by assumption) ?_
  rotate_left
  · intro w hSw; go_simp; first | done | with_reducible rfl
  try simp only [Act.put, List.setIfInBounds_toArray, List.set_cons_zero, List.set_cons_succ]
  refine wpAnyH_ready (rs := [18]) (by kernel_rfl) (by simp) ?_
  refine AllReadyH.cons (o := ⟨none, _, _, _, _, _⟩) rfl (fun K hK => ?_) AllReadyH.nil
  obtain ⟨r0, r1, r2, r3, rf0, rf1, rf2, rf3⟩ := DZ3.out.four
  go_simp
  obtain ⟨v2, hv2⟩ : ∃ v2, v2 = (((u3.setCell ⟨w.heap.size + 1 + 1, 0, none⟩ (.int .i64 (m : Int))).setCell ⟨w.heap.size + 1 + 1, 1, none⟩ (.slice X s.gens.length c)).setCell ⟨w.heap.size + 1 + 1, 2, none⟩ (.slice Y s.tk.length d)).setCell ⟨w.heap.size + 1 + 1, 3, none⟩ (.slice Z s.fr.length e) := ⟨_, rfl⟩
  have O6 : Only (fun j => j = w.heap.size + 1 + 1) u3 v2 := by rw [hv2]; exact four_only _ _ _ _
  have G2 : Hid (Blk v2 (w.heap.size + 1 + 1) #[.int .i64 (m : Int), .slice X s.gens.length c, .slice Y s.tk.length d, .slice Z s.fr.length e] 31) := by
    have h1 := (((DZ3.out.set 0 (.int .i64 (m : Int))).set 1 (.slice X s.gens.length c)).set 2 (.slice Y s.tk.length d)).set 3 (.slice Z s.fr.length e)
    show Blk _ _ _ _
    rw [hv2]; exact h1
  have GA := Lib.hid (DA3.out.only O6 (by omega))
  have G9 := Lib.hid (D93.out.only O6 (by omega))
  have GT := Lib.hid (DT3.out.only O6 (by omega))
  have GB := Lib.hid (DV3.out.only O6 (fun j e hf => by have := HFL.out _ hf; omega) (fun a ha e => by have := (HO.out.xF a ha).2; omega) (fun a ha e => by have := (HO.out.yF a ha).2; omega) (fun a ha e => by have := (HO.out.zF a ha).2; omega))
  have GO : Hid (Only F w v2) := (Only.of_below DB3.out (Nat.le_refl _) F).trans (O6.mono fun j _ e => Or.inr (by omega))
  rw [← hv2]
  clear hv2 O6 r0 r1 r2 r3 rf0 rf1 rf2 rf3
  refine hK.out _ _ (⟨GA.out.cell 0, GA.out.cell 1, GA.out.cell 2, GA.out.cell 3, G9.out.cell 0, G9.out.cell 1, GT.out.cell 0, GT.out.cell 1⟩) (fun hHeld => ?_)
  clear hK K
  try simp only [Act.put, List.setIfInBounds_toArray, List.set_cons_zero, List.set_cons_succ]
  refine wpAnyH_take (i := 19) (oi := ⟨some 8, _, _, _, _, _⟩) (v := ?_) rfl (by kernel_rfl) (by kernel_rfl) (by kernel_rfl) (fun _ _ _ h => h) (Or.inl ⟨by rfl, ?_⟩) (by assumption) ?_
  rotate_left
  · intro w hSw; go_simp; first | done | with_reducible rfl
  try simp only [Act.put, List.setIfInBounds_toArray, List.set_cons_zero, List.set_cons_succ]
  refine wpAnyH_done (by kernel_rfl) ?_ _
  refine NoPanic.normal ?_
  clear hHeld c0 c1 c2 c3 d0 d1 e0 e1
  obtain ⟨r0, r1, r2, r3, _⟩ := G2.out.four
  go_wp2_with fail
  rw [AE.out]
  exact bodyPost_ret (v := .tuple #[.pointer (some ⟨g, 0, none⟩), .agg #[.int .i64 (m : Int), .slice X s.gens.length c, .slice Y s.tk.length d, .slice Z s.fr.length e], .bool true]) (by simp [results, Try.results11, go_sem, r0, r1, r2, r3]) rfl ⟨g, F, X, c, Y, d, Z, e, rfl, GB.out.more (Nat.le_succ _), GO.out, fun _ ha => Or.inl ha, fun _ ha => Or.inl ha, fun _ ha => Or.inl ha, fun j hj => Or.inl hj⟩
set_option maxRecDepth 100000 in
set_option maxHeartbeats 4000000 in
theorem do4 {N : Nat} {w : World} {F : Nat → Prop} {g m G : Nat} {s : St} {X Y Z : Option Addr} {c d e : Nat} (h : Both N w F g m G s X c Y d Z e) (hG1 : 1 ≤ G) (hG : G ≤ 1000000000) (hN : N ≤ w.heap.size) (a n x : Int) (q0 : a ≠ 0) (q1 : a ≠ 1) (q2 : a ≠ 2) (q3 : a ≠ 3) :
    Calls Try.prog 11 #[.pointer (some ⟨g, 0, none⟩), .agg #[.int .i64 (m : Int), .slice X s.gens.length c, .slice Y s.tk.length d, .slice Z s.fr.length e], .agg #[.int .i64 a, .int .i64 n, .int .i64 x]] w (doPost N w F m G s X Y Z a n x) := by
  obtain ⟨w0, hw0⟩ : ∃ w0, w0 = (((w.alloc (.cells #[.int .i64 (m : Int), .slice X s.gens.length c, .slice Y s.tk.length d, .slice Z s.fr.length e] 31)).alloc (.cells #[.int .i64 a, .int .i64 n, .int .i64 x] 37)).alloc (.cells #[.int .i64 0, .slice none 0 0, .slice none 0 0, .slice none 0 0] 31)).alloc (.cells #[.int .i64 n, .int .i64 x] 35) := ⟨_, rfl⟩
  have b0 : Below w.heap.size w w0 := by rw [hw0]; exact ((((bnew w _).alloc (by simp) _).alloc (by simp; omega) _).alloc (by simp; omega) _)
  have p0 : Blk w0 (w.heap.size) #[.int .i64 (m : Int), .slice X s.gens.length c, .slice Y s.tk.length d, .slice Z s.fr.length e] 31 := by
    have h := Blk.new w #[.int .i64 (m : Int), .slice X s.gens.length c, .slice Y s.tk.length d, .slice Z s.fr.length e] 31
    replace h := h.below (bnew (w.alloc (.cells #[.int .i64 (m : Int), .slice X s.gens.length c, .slice Y s.tk.length d, .slice Z s.fr.length e] 31)) (.cells #[.int .i64 a, .int .i64 n, .int .i64 x] 37)) (by simp <;> omega)
    replace h := h.below (bnew ((w.alloc (.cells #[.int .i64 (m : Int), .slice X s.gens.length c, .slice Y s.tk.length d, .slice Z s.fr.length e] 31)).alloc (.cells #[.int .i64 a, .int .i64 n, .int .i64 x] 37)) (.cells #[.int .i64 0, .slice none 0 0, .slice none 0 0, .slice none 0 0] 31)) (by simp <;> omega)
    replace h := h.below (bnew (((w.alloc (.cells #[.int .i64 (m : Int), .slice X s.gens.length c, .slice Y s.tk.length d, .slice Z s.fr.length e] 31)).alloc (.cells #[.int .i64 a, .int .i64 n, .int .i64 x] 37)).alloc (.cells #[.int .i64 0, .slice none 0 0, .slice none 0 0, .slice none 0 0] 31)) (.cells #[.int .i64 n, .int .i64 x] 35)) (by simp <;> omega)
    rw [hw0]; simpa using h
  have p1 : Blk w0 (w.heap.size + 1) #[.int .i64 a, .int .i64 n, .int .i64 x] 37 := by
    have h := Blk.new (w.alloc (.cells #[.int .i64 (m : Int), .slice X s.gens.length c, .slice Y s.tk.length d, .slice Z s.fr.length e] 31)) #[.int .i64 a, .int .i64 n, .int .i64 x] 37
    replace h := h.below (bnew ((w.alloc (.cells #[.int .i64 (m : Int), .slice X s.gens.length c, .slice Y s.tk.length d, .slice Z s.fr.length e] 31)).alloc (.cells #[.int .i64 a, .int .i64 n, .int .i64 x] 37)) (.cells #[.int .i64 0, .slice none 0 0, .slice none 0 0, .slice none 0 0] 31)) (by simp <;> omega)
    replace h := h.below (bnew (((w.alloc (.cells #[.int .i64 (m : Int), .slice X s.gens.length c, .slice Y s.tk.length d, .slice Z s.fr.length e] 31)).alloc (.cells #[.int .i64 a, .int .i64 n, .int .i64 x] 37)).alloc (.cells #[.int .i64 0, .slice none 0 0, .slice none 0 0, .slice none 0 0] 31)) (.cells #[.int .i64 n, .int .i64 x] 35)) (by simp <;> omega)
    rw [hw0]; simpa using h
  have p2 : Blk w0 (w.heap.size + 1 + 1) #[.int .i64 0, .slice none 0 0, .slice none 0 0, .slice none 0 0] 31 := by
    have h := Blk.new ((w.alloc (.cells #[.int .i64 (m : Int), .slice X s.gens.length c, .slice Y s.tk.length d, .slice Z s.fr.length e] 31)).alloc (.cells #[.int .i64 a, .int .i64 n, .int .i64 x] 37)) #[.int .i64 0, .slice none 0 0, .slice none 0 0, .slice none 0 0] 31
    replace h := h.below (bnew (((w.alloc (.cells #[.int .i64 (m : Int), .slice X s.gens.length c, .slice Y s.tk.length d, .slice Z s.fr.length e] 31)).alloc (.cells #[.int .i64 a, .int .i64 n, .int .i64 x] 37)).alloc (.cells #[.int .i64 0, .slice none 0 0, .slice none 0 0, .slice none 0 0] 31)) (.cells #[.int .i64 n, .int .i64 x] 35)) (by simp <;> omega)
    rw [hw0]; simpa using h
  have p3 : Blk w0 (w.heap.size + 1 + 1 + 1) #[.int .i64 n, .int .i64 x] 35 := by
    have h := Blk.new (((w.alloc (.cells #[.int .i64 (m : Int), .slice X s.gens.length c, .slice Y s.tk.length d, .slice Z s.fr.length e] 31)).alloc (.cells #[.int .i64 a, .int .i64 n, .int .i64 x] 37)).alloc (.cells #[.int .i64 0, .slice none 0 0, .slice none 0 0, .slice none 0 0] 31)) #[.int .i64 n, .int .i64 x] 35
    rw [hw0]; simpa using h
  have hz0 : w.heap.size + 1 + 1 + 1 < w0.heap.size := p3.lt
  have HB0 := Lib.hid b0; have P0 := Lib.hid p0; have P1 := Lib.hid p1; have P2 := Lib.hid p2; have P3 := Lib.hid p3
  have HI := Lib.hid h.are.inv; have HM := Lib.hid h.are.hi
  have HO := Lib.hid h
  have H0 := Lib.hid (h.below b0 (Nat.le_refl _))
  have HFL : Hid (∀ j, F j → j < w.heap.size) := fun j hj => (HO.out.fl j hj).2
  have AE := Lib.hid (act3 m s a n x q0 q1 q2)
  have hu := And.intro hG1 (And.intro hG hN)
  clear hu
  unfold doPost
  have HCP := Lib.hid (copy_any H0.out.are)
  unfold copyPost at HCP
  have i0 : (a == 0) = false := by rw [beq_eq_false_iff_ne]; exact q0
  have i1 : (a == 1) = false := by rw [beq_eq_false_iff_ne]; exact q1
  have i2 : (a == 2) = false := by rw [beq_eq_false_iff_ne]; exact q2
  have i3 : (a == 3) = false := by rw [beq_eq_false_iff_ne]; exact q3
  clear h b0 p2 q0 q1 q2 q3
  obtain ⟨y0, y1, y2, yf0, yf1, yf2⟩ := p1.three
  have l0 : w.heap.size < w0.heap.size := by omega
  have l1 : w.heap.size + 1 < w0.heap.size := by omega
  clear p0 p1 p3
  go_enter Try.func11, Try.ntmps11
  go_upto_region 17 with (fail)
  rw [← hw0]
  clear hw0 y0 y1 y2 yf0 yf1 yf2
  go_wp2_with fail
  refine HCP.out.mono ?_
  rintro r v0 ⟨g2, rfl, hc, hb⟩
  have KC := Lib.hid hc.tight
  have K0 := Lib.hid (P0.out.below hb P0.out.lt)
  have KZ := Lib.hid (P2.out.below hb P2.out.lt)
  have KV := Lib.hid (H0.out.below hb (Nat.le_refl _))
  have KB := Lib.hid (HB0.out.trans (hb.mono HB0.out.size))
  have lz0 : w0.heap.size ≤ v0.heap.size := hb.size
  have HTK := Lib.hid (take_any KV.out.are hG1)
  unfold takePost at HTK
  clear hc hb HCP
  go_wp2_with fail
  refine HTK.out.mono ?_
  rintro r v1 ⟨rfl, ha, ho⟩
  have C1 := Lib.hid (KC.out.only ho (fun j hj hf => by have := HFL.out _ hf; have := hj.1; omega))
  have J0 := Lib.hid (K0.out.only ho (fun hf => by have := HFL.out _ hf; omega))
  have JZ := Lib.hid (KZ.out.only ho (fun hf => by have := HFL.out _ hf; omega))
  have JS := Lib.hid (KV.out.spa.only ho (fun a ha hf => (HO.out.xF a ha).1 hf) (fun a ha hf => (HO.out.yF a ha).1 hf) (fun a ha hf => (HO.out.zF a ha).1 hf))
  have JO : Hid (Only F w v1) := (Only.of_below KB.out (Nat.le_refl _) F).trans (ho.mono fun _ _ hf => Or.inl hf)
  have lz1 : v0.heap.size ≤ v1.heap.size := ho.size
  have HFR := Lib.hid (free_any ha.tight hG 0 1)
  unfold freePost at HFR
  have HFM : Hid (∀ j, (More F v0 j ∧ j < v1.heap.size) → F j ∨ (v0.heap.size ≤ j ∧ j < v1.heap.size)) := fun j hj => by
    rcases hj.1 with hf | hf
    · exact Or.inl hf
    · exact Or.inr ⟨hf, hj.2⟩
  clear ha ho HTK
  go_wp2_with fail
  refine HFR.out.mono ?_
  rintro r v2 ⟨rfl, _, ho⟩
  have C2 := Lib.hid (C1.out.only ho (fun j hj hf => by rcases HFM.out _ hf with h | h; (have := HFL.out _ h; have := hj.1; omega); (have := hj.2; omega)))
  have PA := Lib.hid (J0.out.only ho (fun hf => by rcases HFM.out _ hf with h | h; (have := HFL.out _ h; omega); omega))
  have PZ := Lib.hid (JZ.out.only ho (fun hf => by rcases HFM.out _ hf with h | h; (have := HFL.out _ h; omega); omega))
  have LS := Lib.hid (JS.out.only ho (fun a ha hf => by rcases HFM.out _ hf with h | h; exact (HO.out.xF a ha).1 h; (have := (HO.out.xF a ha).2; omega)) (fun a ha hf => by rcases HFM.out _ hf with h | h; exact (HO.out.yF a ha).1 h; (have := (HO.out.yF a ha).2; omega)) (fun a ha hf => by rcases HFM.out _ hf with h | h; exact (HO.out.zF a ha).1 h; (have := (HO.out.zF a ha).2; omega)))
  have LO : Hid (Only F w v2) := JO.out.trans (ho.mono fun j _ hf => by rcases HFM.out _ hf with h | h; exact Or.inl h; exact Or.inr (by omega))
  have lz2 : v1.heap.size ≤ v2.heap.size := ho.size
  have LB : Hid (Both N v2 (fun j => w0.heap.size ≤ j ∧ j < v0.heap.size) g2 m (G + 1) s X c Y d Z e) := ⟨C2.out.more (Nat.le_succ _), LS.out, fun j hj => ⟨by have := hj.1; omega, by have := hj.2; omega⟩,
    fun a ha => ⟨fun hf => by have := (HO.out.xF a ha).2; have := hf.1; omega, by have := (HO.out.xF a ha).2; omega⟩, fun a ha => ⟨fun hf => by have := (HO.out.yF a ha).2; have := hf.1; omega, by have := (HO.out.yF a ha).2; omega⟩, fun a ha => ⟨fun hf => by have := (HO.out.zF a ha).2; have := hf.1; omega, by have := (HO.out.zF a ha).2; omega⟩⟩
  clear ho HFR
  obtain ⟨c0, c1, c2, c3, _⟩ := PA.out.four
  go_wp2_with fail
  have DA := Lib.hid (show Blk v2.drew w.heap.size _ _ from PA.out)
  have DZ := Lib.hid (show Blk v2.drew (w.heap.size + 1 + 1) _ _ from PZ.out)
  have DV := Lib.hid (LB.out.below ((Below.refl v2.heap.size v2).drew) (Nat.le_refl _))
  have DO := Lib.hid LO.out.drew
  have hzd : v2.heap.size ≤ v2.drew.heap.size := Nat.le_refl _
  refine wp_region_noPanic ?_
  refine wp_region_held_drew (S := fun v => v.cell? ⟨w.heap.size, 0, none⟩ = some (.int .i64 (m : Int)) ∧ v.cell? ⟨w.heap.size, 1, none⟩ = some (.slice X s.gens.length c) ∧ v.cell? ⟨w.heap.size, 2, none⟩ = some (.slice Y s.tk.length d) ∧ v.cell? ⟨w.heap.size, 3, none⟩ = some (.slice Z s.fr.length e)) (by kernel_rfl) (⟨c0, c1, c2, c3⟩) (fun hHeld => ?_)
  generalize v2.drew = u at DA DZ DV DO hzd hHeld ⊢
  refine wpAnyH_take (i := 0) (oi := ⟨some 104, _, _, _, _, _⟩) (v := ?_) rfl (by kernel_rfl) (by kernel_rfl) (by kernel_rfl) (fun _ _ _ h => h) (Or.inl ⟨by rfl, ?_⟩) (by assumption) ?_
  rotate_left
  · intro w hSw; go_simp; first | done | with_reducible rfl
  try simp only [Act.put, List.setIfInBounds_toArray, List.set_cons_zero, List.set_cons_succ]
  refine wpAnyH_take (i := 1) (oi := ⟨some 105, _, _, _, _, _⟩) (v := ?_) rfl (by kernel_rfl) (by kernel_rfl) (by kernel_rfl) (fun _ _ _ h => h) (Or.inl ⟨by rfl, ?_⟩) (by assumption) ?_
  rotate_left
  · intro w hSw; go_simp; first | done | with_reducible rfl
  try simp only [Act.put, List.setIfInBounds_toArray, List.set_cons_zero, List.set_cons_succ]
  refine wpAnyH_take (i := 2) (oi := ⟨some 6, _, _, _, _, _⟩) (v := ?_) rfl (by kernel_rfl) (by kernel_rfl) (by kernel_rfl) (fun _ _ _ h => h) (Or.inl ⟨by rfl, ?_⟩) (by assumption) ?_
  rotate_left
  · intro w hSw; go_simp; first | done | with_reducible rfl
  try simp only [Act.put, List.setIfInBounds_toArray, List.set_cons_zero, List.set_cons_succ]
  refine wpAnyH_ready (rs := [3]) (by kernel_rfl) (by simp) ?_
  refine AllReadyH.cons (o := ⟨none, _, _, _, _, _⟩) rfl (fun K hK => ?_) AllReadyH.nil
  obtain ⟨r0, r1, r2, r3, rf0, rf1, rf2, rf3⟩ := DZ.out.four
  go_simp
  obtain ⟨v3, hv3⟩ : ∃ v3, v3 = (((u.setCell ⟨w.heap.size + 1 + 1, 0, none⟩ (.int .i64 (m : Int))).setCell ⟨w.heap.size + 1 + 1, 1, none⟩ (.slice X s.gens.length c)).setCell ⟨w.heap.size + 1 + 1, 2, none⟩ (.slice Y s.tk.length d)).setCell ⟨w.heap.size + 1 + 1, 3, none⟩ (.slice Z s.fr.length e) := ⟨_, rfl⟩
  have O6 : Only (fun j => j = w.heap.size + 1 + 1) u v3 := by rw [hv3]; exact four_only _ _ _ _
  have G2 : Hid (Blk v3 (w.heap.size + 1 + 1) #[.int .i64 (m : Int), .slice X s.gens.length c, .slice Y s.tk.length d, .slice Z s.fr.length e] 31) := by
    have h1 := (((DZ.out.set 0 (.int .i64 (m : Int))).set 1 (.slice X s.gens.length c)).set 2 (.slice Y s.tk.length d)).set 3 (.slice Z s.fr.length e)
    show Blk _ _ _ _
    rw [hv3]; exact h1
  have GA := Lib.hid (DA.out.only O6 (by omega))
  have GB := Lib.hid (DV.out.only O6 (fun j e hf => by have := hf.1; omega) (fun a ha e => by have := (HO.out.xF a ha).2; omega) (fun a ha e => by have := (HO.out.yF a ha).2; omega) (fun a ha e => by have := (HO.out.zF a ha).2; omega))
  have GO := Lib.hid (DO.out.trans (O6.mono fun j _ e => Or.inr (by omega)))
  rw [← hv3]
  clear hv3 O6 r0 r1 r2 r3 rf0 rf1 rf2 rf3
  refine hK.out _ _ (⟨GA.out.cell 0, GA.out.cell 1, GA.out.cell 2, GA.out.cell 3⟩) (fun hHeld => ?_)
  clear hK K
  try simp only [Act.put, List.setIfInBounds_toArray, List.set_cons_zero, List.set_cons_succ]
  refine wpAnyH_take (i := 4) (oi := ⟨some 8, _, _, _, _, _⟩) (v := ?_) rfl (by kernel_rfl) (by kernel_rfl) (by kernel_rfl) (fun _ _ _ h => h) (Or.inl ⟨by rfl, ?_⟩) (by assumption) ?_
  rotate_left
  · intro w hSw; go_simp; first | done | with_reducible rfl
  try simp only [Act.put, List.setIfInBounds_toArray, List.set_cons_zero, List.set_cons_succ]
  refine wpAnyH_done (by kernel_rfl) ?_ _
  refine NoPanic.normal ?_
  clear hHeld c0 c1 c2 c3
  obtain ⟨r0, r1, r2, r3, _⟩ := G2.out.four
  go_wp2_with fail
  rw [AE.out]
  exact bodyPost_ret (v := .tuple #[.pointer (some ⟨g2, 0, none⟩), .agg #[.int .i64 (m : Int), .slice X s.gens.length c, .slice Y s.tk.length d, .slice Z s.fr.length e], .bool true]) (by simp [results, Try.results11, go_sem, r0, r1, r2, r3]) rfl ⟨g2, _, X, c, Y, d, Z, e, rfl, GB.out, GO.out, fun _ ha => Or.inl ha, fun _ ha => Or.inl ha, fun _ ha => Or.inl ha, fun j hj => Or.inr (by have := hj.1; omega)⟩
theorem do_any {N : Nat} {w : World} {F : Nat → Prop} {g m G : Nat} {s : St} {X Y Z : Option Addr} {c d e : Nat} (h : Both N w F g m G s X c Y d Z e) (hG1 : 1 ≤ G) (hG : G ≤ 1000000000) (hN : N ≤ w.heap.size) (a n x : Int) :
    Calls Try.prog 11 #[.pointer (some ⟨g, 0, none⟩), .agg #[.int .i64 (m : Int), .slice X s.gens.length c, .slice Y s.tk.length d, .slice Z s.fr.length e], .agg #[.int .i64 a, .int .i64 n, .int .i64 x]] w (doPost N w F m G s X Y Z a n x) := by
  by_cases q0 : a = 0
  · subst q0; exact do0 h hG1 hG hN n x
  · by_cases q1 : a = 1
    · subst q1; exact do1 h hG1 hG hN n x
    · by_cases q2 : a = 2
      · subst q2; exact do2 h hG1 hG hN n x
      · by_cases q3 : a = 3
        · subst q3; exact do3 h hG1 hG hN n x
        · exact do4 h hG1 hG hN a n x q0 q1 q2 q3
end Go.Proofs.Ytighehonkookhaa.Nt
