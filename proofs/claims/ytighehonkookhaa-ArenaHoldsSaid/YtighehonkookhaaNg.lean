/- Proves what the specification's New and the methods Copy, At and Has of its arena return. Conditions: as each theorem names them. -/
import Derived.Test.YtighehonkookhaaNf
namespace Go.Proofs.Ytighehonkookhaa.Ng
open Go.RowKit Ap Mi Nm Nw Na Nb Rg Nc Nd Nx Nf

theorem elBo : Elm Try.prog 29 4 (.bool false) 1 where
  sl := Try.underlying29
  info := by kernel_rfl
  small := by
    have h : (Try.prog.info? 4).map (·.bytes) = some 1 := by kernel_rfl
    intro i hi; rw [hi] at h; simp at h; omega
  cells := rfl
  pos := by omega
theorem ints_len (l : List Nat) : (ints l).length = l.length := by unfold ints; simp
theorem bools_len (l : List Bool) : (bools l).length = l.length := by unfold bools; simp
/-- The lists of the specification's arena, as its slices hold them. -/
structure Spa (w : World) (s : St) (X : Option Addr) (c : Nat) (Y : Option Addr) (d : Nat) (Z : Option Addr) (e : Nat) : Prop where
  g : Rs w 1 X s.gens.length c (ints s.gens)
  t : Rs w 1 Y s.tk.length d (bools s.tk)
  f : Rs w 1 Z s.fr.length e (ints s.fr)
theorem Spa.below {w w' : World} {s : St} {X Y Z : Option Addr} {c d e B : Nat} (h : Spa w s X c Y d Z e) (hb : Below B w w') (hB : w.heap.size ≤ B) : Spa w' s X c Y d Z e := ⟨h.g.below hb hB, h.t.below hb hB, h.f.below hb hB⟩
theorem Spa.only {w w' : World} {s : St} {X Y Z : Option Addr} {c d e : Nat} {F : Nat → Prop} (h : Spa w s X c Y d Z e) (ho : Only F w w') (hX : ∀ a, X = some a → ¬ F a.block) (hY : ∀ a, Y = some a → ¬ F a.block) (hZ : ∀ a, Z = some a → ¬ F a.block) : Spa w' s X c Y d Z e :=
  ⟨h.g.only ho hX, h.t.only ho hY, h.f.only ho hZ⟩
theorem Spa.start (w : World) : Spa w ⟨[], [], []⟩ none 0 none 0 none 0 := ⟨Rs.nil _ _, Rs.nil _ _, Rs.nil _ _⟩
/-- Where a row lies: where another one does, or in new memory. -/
def Frm (N M : Nat) (A A' : Option Addr) : Prop := ∀ a, A' = some a → A = some a ∨ (N ≤ a.block ∧ a.block < M)
theorem Frm.same (N M : Nat) (A : Option Addr) : Frm N M A A := fun _ h => Or.inl h
theorem Frm.mine {B N sz : Nat} {w : World} {A A' : Option Addr} {n c : Nat} {xs : List Value} (h : Mine B sz w A' n c xs) (hN : N ≤ B) : Frm N w.heap.size A A' := fun _ ha => Or.inr ⟨Nat.le_trans hN (h.base ha).1, (h.base ha).2.1⟩

/-- What New leaves. -/
def rnewPost (w : World) (n : Int) : Ending → World → Prop := fun r w' =>
  (((1 ≤ n ∧ n ≤ 1048576) ∧ r = .returned (.tuple #[.agg #[.int .i64 n, .slice none 0 0, .slice none 0 0, .slice none 0 0], .int .i64 0])) ∨
  ((n < 1 ∨ 1048576 < n) ∧ r = .returned (.tuple #[.agg #[.int .i64 0, .slice none 0 0, .slice none 0 0, .slice none 0 0], .int .i64 2]))) ∧ Below w.heap.size w w'
set_option maxRecDepth 100000 in
set_option maxHeartbeats 400000 in
theorem rnew_any (n : Int) (w : World) : Calls Try.prog 10 #[.int .i64 n] w (rnewPost w n) := by
  by_cases h0 : n < 1
  · have HN : Hid (n < 1 ∨ 1048576 < n) := Or.inl h0
    go_enter Try.func10, Try.ntmps10
    go_wp2_with fail
    exact bodyPost_ret (v := .tuple #[.agg #[.int .i64 0, .slice none 0 0, .slice none 0 0, .slice none 0 0], .int .i64 2]) (by simp [results, Try.results10, go_sem]) rfl ⟨Or.inr ⟨HN.out, rfl⟩, bnew _ _⟩
  · by_cases h1 : 1048576 < n
    · have HN : Hid (n < 1 ∨ 1048576 < n) := Or.inr h1
      have h0' : 1 ≤ n := by omega
      clear h0
      go_enter Try.func10, Try.ntmps10
      go_wp2_with fail
      exact bodyPost_ret (v := .tuple #[.agg #[.int .i64 0, .slice none 0 0, .slice none 0 0, .slice none 0 0], .int .i64 2]) (by simp [results, Try.results10, go_sem]) rfl ⟨Or.inr ⟨HN.out, rfl⟩, bnew _ _⟩
    · have HN : Hid (1 ≤ n ∧ n ≤ 1048576) := ⟨by omega, by omega⟩
      have h0' : 1 ≤ n := by omega
      have h1' : n ≤ 1048576 := by omega
      clear h0 h1
      go_enter Try.func10, Try.ntmps10
      go_wp2_with fail
      exact bodyPost_ret (v := .tuple #[.agg #[.int .i64 n, .slice none 0 0, .slice none 0 0, .slice none 0 0], .int .i64 0]) (by simp [results, Try.results10, go_sem]) rfl ⟨Or.inl ⟨HN.out, rfl⟩, bnew _ _⟩

/-- What Copy leaves: rows of its own. -/
structure Fresh (N : Nat) (w : World) (s : St) (X : Option Addr) (c : Nat) (Y : Option Addr) (d : Nat) (Z : Option Addr) (e : Nat) : Prop where
  g : Mine N 1 w X s.gens.length c (ints s.gens)
  t : Mine N 1 w Y s.tk.length d (bools s.tk)
  f : Mine N 1 w Z s.fr.length e (ints s.fr)
  gt : ∀ a b, X = some a → Y = some b → a.block ≠ b.block
  gf : ∀ a b, X = some a → Z = some b → a.block ≠ b.block
  tf : ∀ a b, Y = some a → Z = some b → a.block ≠ b.block
theorem Fresh.only {N : Nat} {w w' : World} {s : St} {X Y Z : Option Addr} {c d e : Nat} {F : Nat → Prop} (h : Fresh N w s X c Y d Z e) (ho : Only F w w') (hF : ∀ j, F j → j < N ∨ w.heap.size ≤ j) : Fresh N w' s X c Y d Z e :=
  ⟨h.g.only ho (fun a ha hf => by have := h.g.base ha; rcases hF _ hf with h | h <;> omega), h.t.only ho (fun a ha hf => by have := h.t.base ha; rcases hF _ hf with h | h <;> omega), h.f.only ho (fun a ha hf => by have := h.f.base ha; rcases hF _ hf with h | h <;> omega), h.gt, h.gf, h.tf⟩
theorem Fresh.spa {N : Nat} {w : World} {s : St} {X Y Z : Option Addr} {c d e : Nat} (h : Fresh N w s X c Y d Z e) : Spa w s X c Y d Z e := ⟨Rs.mine h.g, Rs.mine h.t, Rs.mine h.f⟩
theorem Fresh.mono {N N' : Nat} {w : World} {s : St} {X Y Z : Option Addr} {c d e : Nat} (h : Fresh N w s X c Y d Z e) (hN : N' ≤ N) : Fresh N' w s X c Y d Z e := ⟨h.g.mono hN, h.t.mono hN, h.f.mono hN, h.gt, h.gf, h.tf⟩
def rcopyPost (w : World) (m : Nat) (s : St) : Ending → World → Prop := fun r w' =>
  ∃ X c Y d Z e, r = .returned (.agg #[.int .i64 (m : Int), .slice X s.gens.length c, .slice Y s.tk.length d, .slice Z s.fr.length e]) ∧ Fresh w.heap.size w' s X c Y d Z e ∧ Below w.heap.size w w'
set_option maxRecDepth 100000 in
set_option maxHeartbeats 1000000 in
theorem rcopy_any {w : World} {m G : Nat} {s : St} {X Y Z : Option Addr} {c d e : Nat} (h : Spa w s X c Y d Z e) (hi : Inv m G s) (hm : m ≤ 1048576) :
    Calls Try.prog 34 #[.agg #[.int .i64 (m : Int), .slice X s.gens.length c, .slice Y s.tk.length d, .slice Z s.fr.length e]] w (rcopyPost w m s) := by
  have hle := hi.le; have hfr := hi.frl; have htl : s.tk.length ≤ s.gens.length := by have := hi.tl; omega
  obtain ⟨w0, hw0⟩ : ∃ w0, w0 = (w.alloc (.cells #[.int .i64 (m : Int), .slice X s.gens.length c, .slice Y s.tk.length d, .slice Z s.fr.length e] 31)).alloc (.cells #[.int .i64 0, .slice none 0 0, .slice none 0 0, .slice none 0 0] 31) := ⟨_, rfl⟩
  have b0 : Below w.heap.size w w0 := by rw [hw0]; exact ((bnew w _).alloc (by simp) _)
  have p1 : Blk w0 w.heap.size #[.int .i64 (m : Int), .slice X s.gens.length c, .slice Y s.tk.length d, .slice Z s.fr.length e] 31 := by rw [hw0]; exact (Blk.new w _ _).below (bnew _ _) (by simp)
  have p2 : Blk w0 (w.heap.size + 1) #[.int .i64 0, .slice none 0 0, .slice none 0 0, .slice none 0 0] 31 := by
    have := Blk.new (w.alloc (.cells #[.int .i64 (m : Int), .slice X s.gens.length c, .slice Y s.tk.length d, .slice Z s.fr.length e] 31)) #[.int .i64 0, .slice none 0 0, .slice none 0 0, .slice none 0 0] 31
    rw [hw0]; simpa using this
  have h0 := h.below b0 (Nat.le_refl _)
  have hz0 : w.heap.size + 1 < w0.heap.size := p2.lt
  have HB0 := Lib.hid b0; have P1 := Lib.hid p1; have P2 := Lib.hid p2; have H0 := Lib.hid h0
  obtain ⟨c0, c1, c2, c3, _⟩ := p1.four
  clear h hi b0 p1 p2 h0
  unfold rcopyPost
  go_enter Try.func34, Try.ntmps34
  go_wp2_with fail
  rw [← hw0]
  clear hw0
  have P1d := Lib.hid (show Blk w0.drew w.heap.size _ _ from P1.out)
  have P2d := Lib.hid (show Blk w0.drew (w.heap.size + 1) _ _ from P2.out)
  have H0d : Hid (Spa w0.drew s X c Y d Z e) := H0.out.below ((Below.refl w0.heap.size w0).drew) (Nat.le_refl _)
  have Od := Lib.hid HB0.out.drew
  have hzd : w.heap.size + 1 < w0.drew.heap.size := hz0
  refine wp_region_noPanic ?_
  refine wp_region_held_drew (S := fun v => v.cell? ⟨w.heap.size, 0, none⟩ = some (.int .i64 (m : Int)) ∧ v.cell? ⟨w.heap.size, 1, none⟩ = some (.slice X s.gens.length c) ∧ v.cell? ⟨w.heap.size, 2, none⟩ = some (.slice Y s.tk.length d) ∧ v.cell? ⟨w.heap.size, 3, none⟩ = some (.slice Z s.fr.length e)) (by kernel_rfl) (⟨c0, c1, c2, c3⟩) (fun hHeld => ?_)
  generalize w0.drew = u1 at P1d P2d H0d Od hzd hHeld ⊢
  have T1 := Lib.hid P1d.out; have R1 := Lib.hid P2d.out; have A1 := Lib.hid H0d.out; have W1 := Lib.hid Od.out
  refine wpAnyH_take (i := 0) (oi := ⟨some 3, _, _, _, _, _⟩) (v := ?_) rfl (by kernel_rfl) (by kernel_rfl) (by kernel_rfl) (fun _ _ _ h => h) (Or.inl ⟨by rfl, ?_⟩) (by assumption) ?_
  rotate_left
  · intro w hSw; go_simp; first | done | with_reducible rfl
  try simp only [Act.put, List.setIfInBounds_toArray, List.set_cons_zero, List.set_cons_succ]
  refine wpAnyH_take (i := 1) (oi := ⟨some 4, _, _, _, _, _⟩) (v := ?_) rfl (by kernel_rfl) (by kernel_rfl) (by kernel_rfl) (fun _ _ _ h => h) (Or.inl ⟨by rfl, ?_⟩) (by assumption) ?_
  rotate_left
  · intro w hSw; go_simp; first | done | with_reducible rfl
  try simp only [Act.put, List.setIfInBounds_toArray, List.set_cons_zero, List.set_cons_succ]
  refine wpAnyH_take (i := 2) (oi := ⟨some 5, _, _, _, _, _⟩) (v := ?_) rfl (by kernel_rfl) (by kernel_rfl) (by kernel_rfl) (fun _ _ _ h => h) (Or.inl ⟨by rfl, ?_⟩) (by assumption) ?_
  rotate_left
  · intro w hSw; go_simp; first | done | with_reducible rfl
  try simp only [Act.put, List.setIfInBounds_toArray, List.set_cons_zero, List.set_cons_succ]
  refine wpAnyH_take (i := 3) (oi := ⟨some 6, _, _, _, _, _⟩) (v := ?_) rfl (by kernel_rfl) (by kernel_rfl) (by kernel_rfl) (fun _ _ _ h => h) (Or.inl ⟨by rfl, ?_⟩) (by assumption) ?_
  rotate_left
  · intro w hSw; go_simp; first | done | with_reducible rfl
  try simp only [Act.put, List.setIfInBounds_toArray, List.set_cons_zero, List.set_cons_succ]
  refine wpAnyH_take (i := 5) (oi := ⟨some 8, _, _, _, _, _⟩) (v := ?_) rfl (by kernel_rfl) (by kernel_rfl) (by kernel_rfl) (fun _ _ _ h => h) (Or.inl ⟨by rfl, ?_⟩) (by assumption) ?_
  rotate_left
  · intro w hSw; go_simp; first | done | with_reducible rfl
  try simp only [Act.put, List.setIfInBounds_toArray, List.set_cons_zero, List.set_cons_succ]
  refine wpAnyH_take (i := 6) (oi := ⟨some 9, _, _, _, _, _⟩) (v := ?_) rfl (by kernel_rfl) (by kernel_rfl) (by kernel_rfl) (fun _ _ _ h => h) (Or.inl ⟨by rfl, ?_⟩) (by assumption) ?_
  rotate_left
  · intro w hSw; go_simp; first | done | with_reducible rfl
  try simp only [Act.put, List.setIfInBounds_toArray, List.set_cons_zero, List.set_cons_succ]
  refine wpAnyH_take (i := 8) (oi := ⟨some 11, _, _, _, _, _⟩) (v := ?_) rfl (by kernel_rfl) (by kernel_rfl) (by kernel_rfl) (fun _ _ _ h => h) (Or.inl ⟨by rfl, ?_⟩) (by assumption) ?_
  rotate_left
  · intro w hSw; go_simp; first | done | with_reducible rfl
  try simp only [Act.put, List.setIfInBounds_toArray, List.set_cons_zero, List.set_cons_succ]
  refine wpAnyH_take (i := 9) (oi := ⟨some 12, _, _, _, _, _⟩) (v := ?_) rfl (by kernel_rfl) (by kernel_rfl) (by kernel_rfl) (fun _ _ _ h => h) (Or.inl ⟨by rfl, ?_⟩) (by assumption) ?_
  rotate_left
  · intro w hSw; go_simp; first | done | with_reducible rfl
  try simp only [Act.put, List.setIfInBounds_toArray, List.set_cons_zero, List.set_cons_succ]
  refine wpAnyH_ready (rs := [4]) (by kernel_rfl) (by simp) ?_
  refine AllReadyH.cons (o := ⟨some 7, _, _, _, _, _⟩) rfl (fun K hK => ?_) AllReadyH.nil
  refine step_mine (by kernel_rfl) _ _ elI _ rfl rfl (Mine.nil (w.heap.size + 1 + 1) 1 u1) _ rfl s.gens.length _ (A1.out.g.src Try.underlying28 (by omega) (ints_one _)) (by omega) (by omega) (by omega) ?_
  intro X1 k1 u2 m1 g1 q1
  have Q1 : Hid (∀ a, X1 = some a → u1.heap.size ≤ a.block) := fun a ha => by rcases q1 with h | h; (rw [h] at ha; cases ha); exact h a ha
  have B1 : Below u1.heap.size u1 u2 := below_of_grown' g1 (Nat.le_refl _) (fun k e => by cases e)
  simp only [Nat.zero_add, List.nil_append] at m1 ⊢
  have M1 := Lib.hid m1
  have L1 : Hid (∀ a, X1 = some a → a.block < u2.heap.size) := fun a ha => (m1.base ha).2.1
  have T2 := Lib.hid (T1.out.below B1 (by have := T1.out.lt; omega))
  have R2 := Lib.hid (R1.out.below B1 (by have := R1.out.lt; omega))
  have A2 : Hid (Spa u2 s X c Y d Z e) := A1.out.below B1 (Nat.le_refl _)
  have W2 : Hid (Below w.heap.size w u2) := W1.out.trans (B1.mono (by omega))
  have z2 := B1.size
  clear m1 g1 B1 q1
  refine hK.out _ _ (⟨T2.out.cell 0, T2.out.cell 1, T2.out.cell 2, T2.out.cell 3⟩) (fun hHeld => ?_)
  clear hK K
  try simp only [Act.put, List.setIfInBounds_toArray, List.set_cons_zero, List.set_cons_succ]
  refine wpAnyH_ready (rs := [7]) (by kernel_rfl) (by simp) ?_
  refine AllReadyH.cons (o := ⟨some 10, _, _, _, _, _⟩) rfl (fun K hK => ?_) AllReadyH.nil
  refine step_mine (by kernel_rfl) _ _ elBo _ rfl rfl (Mine.nil (w.heap.size + 1 + 1) 1 u2) _ rfl s.tk.length _ (A2.out.t.src Try.underlying29 (by omega) (bools_one _)) (by omega) (by omega) (by omega) ?_
  intro X2 k2 u3 m2 g2 q2
  have Q2 : Hid (∀ a, X2 = some a → u2.heap.size ≤ a.block) := fun a ha => by rcases q2 with h | h; (rw [h] at ha; cases ha); exact h a ha
  have B2 : Below u2.heap.size u2 u3 := below_of_grown' g2 (Nat.le_refl _) (fun k e => by cases e)
  simp only [Nat.zero_add, List.nil_append] at m2 ⊢
  have M2 := Lib.hid m2
  have L2 : Hid (∀ a, X2 = some a → a.block < u3.heap.size) := fun a ha => (m2.base ha).2.1
  have T3 := Lib.hid (T2.out.below B2 (by have := T2.out.lt; omega))
  have R3 := Lib.hid (R2.out.below B2 (by have := R2.out.lt; omega))
  have A3 : Hid (Spa u3 s X c Y d Z e) := A2.out.below B2 (Nat.le_refl _)
  have W3 : Hid (Below w.heap.size w u3) := W2.out.trans (B2.mono (by omega))
  have z3 := B2.size
  have M1 := Lib.hid (M1.out.below B2 (Nat.le_refl _))
  clear m2 g2 B2 q2
  refine hK.out _ _ (⟨T3.out.cell 0, T3.out.cell 1, T3.out.cell 2, T3.out.cell 3⟩) (fun hHeld => ?_)
  clear hK K
  try simp only [Act.put, List.setIfInBounds_toArray, List.set_cons_zero, List.set_cons_succ]
  refine wpAnyH_ready (rs := [10]) (by kernel_rfl) (by simp) ?_
  refine AllReadyH.cons (o := ⟨some 13, _, _, _, _, _⟩) rfl (fun K hK => ?_) AllReadyH.nil
  refine step_mine (by kernel_rfl) _ _ elI _ rfl rfl (Mine.nil (w.heap.size + 1 + 1) 1 u3) _ rfl s.fr.length _ (A3.out.f.src Try.underlying28 (by omega) (ints_one _)) (by omega) (by omega) (by omega) ?_
  intro X3 k3 u4 m3 g3 q3
  have Q3 : Hid (∀ a, X3 = some a → u3.heap.size ≤ a.block) := fun a ha => by rcases q3 with h | h; (rw [h] at ha; cases ha); exact h a ha
  have B3 : Below u3.heap.size u3 u4 := below_of_grown' g3 (Nat.le_refl _) (fun k e => by cases e)
  simp only [Nat.zero_add, List.nil_append] at m3 ⊢
  have M3 := Lib.hid m3
  have L3 : Hid (∀ a, X3 = some a → a.block < u4.heap.size) := fun a ha => (m3.base ha).2.1
  have T4 := Lib.hid (T3.out.below B3 (by have := T3.out.lt; omega))
  have R4 := Lib.hid (R3.out.below B3 (by have := R3.out.lt; omega))
  have A4 : Hid (Spa u4 s X c Y d Z e) := A3.out.below B3 (Nat.le_refl _)
  have W4 : Hid (Below w.heap.size w u4) := W3.out.trans (B3.mono (by omega))
  have z4 := B3.size
  have M1 := Lib.hid (M1.out.below B3 (Nat.le_refl _))
  have M2 := Lib.hid (M2.out.below B3 (Nat.le_refl _))
  clear m3 g3 B3 q3
  refine hK.out _ _ (⟨T4.out.cell 0, T4.out.cell 1, T4.out.cell 2, T4.out.cell 3⟩) (fun hHeld => ?_)
  clear hK K
  try simp only [Act.put, List.setIfInBounds_toArray, List.set_cons_zero, List.set_cons_succ]
  refine wpAnyH_take (i := 11) (oi := ⟨some 14, _, _, _, _, _⟩) (v := ?_) rfl (by kernel_rfl) (by kernel_rfl) (by kernel_rfl) (fun _ _ _ h => h) (Or.inl ⟨by rfl, ?_⟩) (by assumption) ?_
  rotate_left
  · intro w hSw; go_simp; first | done | with_reducible rfl
  try simp only [Act.put, List.setIfInBounds_toArray, List.set_cons_zero, List.set_cons_succ]
  refine wpAnyH_ready (rs := [12]) (by kernel_rfl) (by simp) ?_
  refine AllReadyH.cons (o := ⟨none, _, _, _, _, _⟩) rfl (fun K hK => ?_) AllReadyH.nil
  obtain ⟨r0, r1, r2, r3, rf0, rf1, rf2, rf3⟩ := R4.out.four
  go_simp
  have O5 : Only (fun j => j = w.heap.size + 1) u4 ((((u4.setCell ⟨w.heap.size + 1, 0, none⟩ (.int .i64 (m : Int))).setCell ⟨w.heap.size + 1, 1, none⟩ (.slice X1 s.gens.length k1)).setCell ⟨w.heap.size + 1, 2, none⟩ (.slice X2 s.tk.length k2)).setCell ⟨w.heap.size + 1, 3, none⟩ (.slice X3 s.fr.length k3)) := ((((Only.refl (fun j => j = w.heap.size + 1) u4).put (ad := ⟨w.heap.size + 1, 0, none⟩) rfl _).put (ad := ⟨w.heap.size + 1, 1, none⟩) rfl _).put (ad := ⟨w.heap.size + 1, 2, none⟩) rfl _).put (ad := ⟨w.heap.size + 1, 3, none⟩) rfl _
  have O5' := Lib.hid O5
  have R5 := Lib.hid ((((R4.out.set 0 (.int .i64 (m : Int))).set 1 (.slice X1 s.gens.length k1)).set 2 (.slice X2 s.tk.length k2)).set 3 (.slice X3 s.fr.length k3))
  have T5 := Lib.hid (T4.out.only O5 (by omega))
  clear O5 r0 r1 r2 r3 rf0 rf1 rf2 rf3
  refine hK.out _ _ (⟨T5.out.cell 0, T5.out.cell 1, T5.out.cell 2, T5.out.cell 3⟩) (fun hHeld => ?_)
  clear hK K
  try simp only [Act.put, List.setIfInBounds_toArray, List.set_cons_zero, List.set_cons_succ]
  refine wpAnyH_done (by kernel_rfl) ?_ _
  refine NoPanic.normal ?_
  obtain ⟨u5, hu5⟩ : ∃ u5, u5 = (((u4.setCell ⟨w.heap.size + 1, 0, none⟩ (.int .i64 (m : Int))).setCell ⟨w.heap.size + 1, 1, none⟩ (.slice X1 s.gens.length k1)).setCell ⟨w.heap.size + 1, 2, none⟩ (.slice X2 s.tk.length k2)).setCell ⟨w.heap.size + 1, 3, none⟩ (.slice X3 s.fr.length k3) := ⟨_, rfl⟩
  rw [← hu5] at O5' R5
  rw [← hu5]
  clear hu5
  have R5' : Hid (Blk u5 (w.heap.size + 1) #[.int .i64 (m : Int), .slice X1 s.gens.length k1, .slice X2 s.tk.length k2, .slice X3 s.fr.length k3] 31) := R5.out
  obtain ⟨r0, r1, r2, r3, _⟩ := R5'.out.four
  go_wp2_with fail
  refine bodyPost_ret (v := .agg #[.int .i64 (m : Int), .slice X1 s.gens.length k1, .slice X2 s.tk.length k2, .slice X3 s.fr.length k3]) (by simp [results, Try.results34, go_sem, r0, r1, r2, r3]) rfl ⟨X1, k1, X2, k2, X3, k3, rfl, ?_, ?_⟩
  · have f4 : Fresh (w.heap.size + 1 + 1) u4 s X1 k1 X2 k2 X3 k3 := ⟨M1.out, M2.out, M3.out, fun a b ha hb => ?_, fun a b ha hb => ?_, fun a b ha hb => ?_⟩
    · exact (f4.only O5'.out (fun j e => Or.inl (by omega))).mono (by omega)
    · have h1 := L1.out a ha; have h2 := Q2.out b hb; omega
    · have h1 := L1.out a ha; have h2 := Q3.out b hb; omega
    · have h1 := L2.out a ha; have h2 := Q3.out b hb; omega
  · exact W4.out.trans (O5'.out.below (fun j e => by omega) (by omega))
end Go.Proofs.Ytighehonkookhaa.Ng
