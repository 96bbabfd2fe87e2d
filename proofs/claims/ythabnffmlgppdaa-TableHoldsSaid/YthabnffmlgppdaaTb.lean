/- Proves what the method copy of the specification's table returns: rows of its own. Conditions: as the theorem names them. -/
import Derived.Test.YthabnffmlgppdaaTa
import Derived.Test.YthabnffmlgppdaaRg
namespace Go.Proofs.Ythabnffmlgppdaa.Tb
open Go.RowKit Ap Mi Nw Rg Hm Tm Tn To Ta

theorem below_grown {w w' : World} {row : Option Nat} {B : Nat} (h : w.grownBy w' row) (hB : B ≤ w.heap.size) (hr : ∀ k, row = some k → B ≤ k) : Below B w w' := (Below.refl B w).grown h hB hr
theorem elS : Elm Try.prog 28 9 (.string ⟨#[]⟩) 1 where
  sl := Try.underlying28
  info := by kernel_rfl
  small := by
    have h : (Try.prog.info? 9).map (·.bytes) = some 16 := by kernel_rfl
    intro i hi; rw [hi] at h; simp at h; omega
  cells := rfl
  pos := by omega
theorem elI : Elm Try.prog 29 3 (.int .i64 0) 1 where
  sl := Try.underlying29
  info := by kernel_rfl
  small := by
    have h : (Try.prog.info? 3).map (·.bytes) = some 8 := by kernel_rfl
    intro i hi; rw [hi] at h; simp at h; omega
  cells := rfl
  pos := by omega
theorem kc_one (c : List (Cell Key)) : ∀ u ∈ kc c, u.oneCell' = true := fun u hu => by
  unfold kc at hu
  obtain ⟨o, _, rfl⟩ := List.mem_map.1 hu
  rfl
theorem nc_one (c : List (Cell Key)) : ∀ u ∈ nc c, u.oneCell' = true := fun u hu => by
  unfold nc at hu
  obtain ⟨o, _, rfl⟩ := List.mem_map.1 hu
  rfl
/-- A table with rows of its own. -/
structure Own (N : Nat) (w : World) (c : List (Cell Key)) (X : Option Addr) (p : Nat) (Y : Option Addr) (q : Nat) : Prop where
  ks : Mine N 1 w X c.length p (kc c)
  ns : Mine N 1 w Y c.length q (nc c)
  ne : ∀ a b, X = some a → Y = some b → a.block ≠ b.block
theorem Own.tb {N : Nat} {w : World} {c : List (Cell Key)} {X Y : Option Addr} {p q : Nat} (h : Own N w c X p Y q) : Tb w c X p Y q := ⟨Rs.mine h.ks, Rs.mine h.ns⟩
theorem Own.mono {N N' : Nat} {w : World} {c : List (Cell Key)} {X Y : Option Addr} {p q : Nat} (h : Own N w c X p Y q) (hN : N' ≤ N) : Own N' w c X p Y q := ⟨h.ks.mono hN, h.ns.mono hN, h.ne⟩
theorem Own.only {N : Nat} {w w' : World} {c : List (Cell Key)} {X Y : Option Addr} {p q : Nat} {F : Nat → Prop} (h : Own N w c X p Y q) (ho : Only F w w') (hF : ∀ j, F j → j < N ∨ w.heap.size ≤ j) : Own N w' c X p Y q :=
  ⟨h.ks.only ho (fun a ha hf => by have := h.ks.base ha; rcases hF _ hf with h | h <;> omega), h.ns.only ho (fun a ha hf => by have := h.ns.base ha; rcases hF _ hf with h | h <;> omega), h.ne⟩
theorem Own.below {N B : Nat} {w w' : World} {c : List (Cell Key)} {X Y : Option Addr} {p q : Nat} (h : Own N w c X p Y q) (hb : Below B w w') (hB : w.heap.size ≤ B) : Own N w' c X p Y q :=
  h.only (Only.of_below hb hB (fun _ => False)) (fun _ hf => hf.elim)
def copyPost (w : World) (seed : Int) (c : List (Cell Key)) : Ending → World → Prop := fun r w' =>
  ∃ X p Y q, r = .returned (.agg #[.int .u64 seed, .slice X c.length p, .slice Y c.length q]) ∧ Own w.heap.size w' c X p Y q ∧ Below w.heap.size w w'
set_option maxRecDepth 100000 in
set_option maxHeartbeats 1000000 in
theorem copy_any {w : World} {c : List (Cell Key)} {X Y : Option Addr} {p q : Nat} {seed : Int} (h : Tb w c X p Y q) (hn : c.length ≤ 1000000) :
    Calls Try.prog 39 #[.agg #[.int .u64 seed, .slice X c.length p, .slice Y c.length q]] w (copyPost w seed c) := by
  obtain ⟨w0, hw0⟩ : ∃ w0, w0 = (w.alloc (.cells #[.int .u64 seed, .slice X c.length p, .slice Y c.length q] 31)).alloc (.cells #[.int .u64 0, .slice none 0 0, .slice none 0 0] 31) := ⟨_, rfl⟩
  have b0 : Below w.heap.size w w0 := by rw [hw0]; exact ((bnew w _).alloc (by simp) _)
  have p1 : Blk w0 w.heap.size #[.int .u64 seed, .slice X c.length p, .slice Y c.length q] 31 := by rw [hw0]; exact (Blk.new w _ _).below (bnew _ _) (by simp)
  have p2 : Blk w0 (w.heap.size + 1) #[.int .u64 0, .slice none 0 0, .slice none 0 0] 31 := by
    have := Blk.new (w.alloc (.cells #[.int .u64 seed, .slice X c.length p, .slice Y c.length q] 31)) #[.int .u64 0, .slice none 0 0, .slice none 0 0] 31
    rw [hw0]; simpa using this
  have h0 := h.below b0 (Nat.le_refl _)
  have hz0 : w.heap.size + 1 < w0.heap.size := p2.lt
  have HB0 := Lib.hid b0; have P1 := Lib.hid p1; have P2 := Lib.hid p2; have H0 := Lib.hid h0
  obtain ⟨c0, c1, c2, _⟩ := p1.three
  clear h b0 p1 p2 h0
  unfold copyPost
  go_enter Try.func39, Try.ntmps39
  go_wp2_with fail
  rw [← hw0]
  clear hw0
  have P1d := Lib.hid (show Blk w0.drew w.heap.size _ _ from P1.out)
  have P2d := Lib.hid (show Blk w0.drew (w.heap.size + 1) _ _ from P2.out)
  have H0d : Hid (Tb w0.drew c X p Y q) := H0.out.below ((Below.refl w0.heap.size w0).drew) (Nat.le_refl _)
  have Od := Lib.hid HB0.out.drew
  have hzd : w.heap.size + 1 < w0.drew.heap.size := hz0
  refine wp_region_noPanic ?_
  refine wp_region_held_drew (S := fun v => v.cell? ⟨w.heap.size, 0, none⟩ = some (.int .u64 seed) ∧ v.cell? ⟨w.heap.size, 1, none⟩ = some (.slice X c.length p) ∧ v.cell? ⟨w.heap.size, 2, none⟩ = some (.slice Y c.length q)) (by kernel_rfl) (⟨c0, c1, c2⟩) (fun hHeld => ?_)
  generalize w0.drew = u1 at P1d P2d H0d Od hzd hHeld ⊢
  have T1 := Lib.hid P1d.out; have R1 := Lib.hid P2d.out; have A1 := Lib.hid H0d.out; have W1 := Lib.hid Od.out
  refine wpAnyH_take (i := 0) (oi := ⟨some 3, _, _, _, _, _⟩) (v := ?_) rfl (by kernel_rfl) (by kernel_rfl) (by kernel_rfl) (fun _ _ _ h => h) (Or.inl ⟨by rfl, ?_⟩) (by assumption) ?_
  rotate_left
  · intro w hSw; go_simp; first | done | with_reducible rfl
  try simp only [Act.put, List.setIfInBounds_toArray, List.set_cons_zero, List.set_cons_succ]
  refine wpAnyH_take (i := 1) (oi := ⟨some 4, _, _, _, _, _⟩) (v := ?_) rfl (by kernel_rfl) (by kernel_rfl) (by kernel_rfl) (fun _ _ _ h => h) (Or.inl ⟨by rfl, ?_⟩) (by assumption) ?_
  rotate_left
  · intro w hSw; go_simp; first | done | with_reducible rfl
  try simp only [Act.put, List.setIfInBounds_toArray, List.set_cons_zero, List.set_cons_succ]
  refine wpAnyH_take (i := 2) (oi := ⟨some 5, _, _, _, _, _⟩) (v := ?_) rfl (by kernel_rfl) (by kernel_rfl) (by kernel_rfl) (fun _ _ _ h => h) (Or.inl ⟨by rfl, ?_⟩) (by assumption) ?_
  rotate_left
  · intro w hSw; go_simp; first | done | with_reducible rfl
  try simp only [Act.put, List.setIfInBounds_toArray, List.set_cons_zero, List.set_cons_succ]
  refine wpAnyH_take (i := 3) (oi := ⟨some 6, _, _, _, _, _⟩) (v := ?_) rfl (by kernel_rfl) (by kernel_rfl) (by kernel_rfl) (fun _ _ _ h => h) (Or.inl ⟨by rfl, ?_⟩) (by assumption) ?_
  rotate_left
  · intro w hSw; go_simp; first | done | with_reducible rfl
  try simp only [Act.put, List.setIfInBounds_toArray, List.set_cons_zero, List.set_cons_succ]
  refine wpAnyH_take (i := 5) (oi := ⟨some 8, _, _, _, _, _⟩) (v := ?_) rfl (by kernel_rfl) (by kernel_rfl) (by kernel_rfl) (fun _ _ _ h => h) (Or.inl ⟨by rfl, ?_⟩) (by assumption) ?_
  rotate_left
  · intro w hSw; go_simp; first | done | with_reducible rfl
  try simp only [Act.put, List.setIfInBounds_toArray, List.set_cons_zero, List.set_cons_succ]
  refine wpAnyH_take (i := 6) (oi := ⟨some 9, _, _, _, _, _⟩) (v := ?_) rfl (by kernel_rfl) (by kernel_rfl) (by kernel_rfl) (fun _ _ _ h => h) (Or.inl ⟨by rfl, ?_⟩) (by assumption) ?_
  rotate_left
  · intro w hSw; go_simp; first | done | with_reducible rfl
  try simp only [Act.put, List.setIfInBounds_toArray, List.set_cons_zero, List.set_cons_succ]
  refine wpAnyH_ready (rs := [4]) (by kernel_rfl) (by simp) ?_
  refine AllReadyH.cons (o := ⟨some 7, _, _, _, _, _⟩) rfl (fun K hK => ?_) AllReadyH.nil
  refine step_mine (by kernel_rfl) _ _ elS _ rfl rfl (Mine.nil (w.heap.size + 1 + 1) 1 u1) _ rfl c.length _ (A1.out.ks.src Try.underlying28 (by omega) (kc_one _)) (by omega) (by omega) (by omega) ?_
  intro X1 k1 u2 m1 g1 q1
  have Q1 : Hid (∀ a, X1 = some a → u1.heap.size ≤ a.block) := fun a ha => by rcases q1 with h | h; (rw [h] at ha; cases ha); exact h a ha
  have B1 : Below u1.heap.size u1 u2 := below_grown g1 (Nat.le_refl _) (fun k e => by cases e)
  simp only [Nat.zero_add, List.nil_append] at m1 ⊢
  have M1 := Lib.hid m1
  have L1 : Hid (∀ a, X1 = some a → a.block < u2.heap.size) := fun a ha => (m1.base ha).2.1
  have T2 := Lib.hid (T1.out.below B1 (by have := T1.out.lt; omega))
  have R2 := Lib.hid (R1.out.below B1 (by have := R1.out.lt; omega))
  have A2 : Hid (Tb u2 c X p Y q) := A1.out.below B1 (Nat.le_refl _)
  have W2 : Hid (Below w.heap.size w u2) := W1.out.trans (B1.mono (by omega))
  have z2 := B1.size
  clear m1 g1 B1 q1
  refine hK.out _ _ (⟨T2.out.cell 0, T2.out.cell 1, T2.out.cell 2⟩) (fun hHeld => ?_)
  clear hK K
  try simp only [Act.put, List.setIfInBounds_toArray, List.set_cons_zero, List.set_cons_succ]
  refine wpAnyH_ready (rs := [7]) (by kernel_rfl) (by simp) ?_
  refine AllReadyH.cons (o := ⟨some 10, _, _, _, _, _⟩) rfl (fun K hK => ?_) AllReadyH.nil
  refine step_mine (by kernel_rfl) _ _ elI _ rfl rfl (Mine.nil (w.heap.size + 1 + 1) 1 u2) _ rfl c.length _ (A2.out.ns.src Try.underlying29 (by omega) (nc_one _)) (by omega) (by omega) (by omega) ?_
  intro X2 k2 u3 m2 g2 q2
  have Q2 : Hid (∀ a, X2 = some a → u2.heap.size ≤ a.block) := fun a ha => by rcases q2 with h | h; (rw [h] at ha; cases ha); exact h a ha
  have B2 : Below u2.heap.size u2 u3 := below_grown g2 (Nat.le_refl _) (fun k e => by cases e)
  simp only [Nat.zero_add, List.nil_append] at m2 ⊢
  have M2 := Lib.hid m2
  have L2 : Hid (∀ a, X2 = some a → a.block < u3.heap.size) := fun a ha => (m2.base ha).2.1
  have T3 := Lib.hid (T2.out.below B2 (by have := T2.out.lt; omega))
  have R3 := Lib.hid (R2.out.below B2 (by have := R2.out.lt; omega))
  have A3 : Hid (Tb u3 c X p Y q) := A2.out.below B2 (Nat.le_refl _)
  have W3 : Hid (Below w.heap.size w u3) := W2.out.trans (B2.mono (by omega))
  have z3 := B2.size
  have M1 := Lib.hid (M1.out.below B2 (Nat.le_refl _))
  clear m2 g2 B2 q2
  refine hK.out _ _ (⟨T3.out.cell 0, T3.out.cell 1, T3.out.cell 2⟩) (fun hHeld => ?_)
  clear hK K
  try simp only [Act.put, List.setIfInBounds_toArray, List.set_cons_zero, List.set_cons_succ]
  refine wpAnyH_take (i := 8) (oi := ⟨some 11, _, _, _, _, _⟩) (v := ?_) rfl (by kernel_rfl) (by kernel_rfl) (by kernel_rfl) (fun _ _ _ h => h) (Or.inl ⟨by rfl, ?_⟩) (by assumption) ?_
  rotate_left
  · intro w hSw; go_simp; first | done | with_reducible rfl
  try simp only [Act.put, List.setIfInBounds_toArray, List.set_cons_zero, List.set_cons_succ]
  refine wpAnyH_ready (rs := [9]) (by kernel_rfl) (by simp) ?_
  refine AllReadyH.cons (o := ⟨none, _, _, _, _, _⟩) rfl (fun K hK => ?_) AllReadyH.nil
  obtain ⟨r0, r1, r2, rf0, rf1, rf2⟩ := R3.out.three
  go_simp
  have O5 : Only (fun j => j = w.heap.size + 1) u3 (((u3.setCell ⟨w.heap.size + 1, 0, none⟩ (.int .u64 seed)).setCell ⟨w.heap.size + 1, 1, none⟩ (.slice X1 c.length k1)).setCell ⟨w.heap.size + 1, 2, none⟩ (.slice X2 c.length k2)) := (((Only.refl (fun j => j = w.heap.size + 1) u3).put (ad := ⟨w.heap.size + 1, 0, none⟩) rfl _).put (ad := ⟨w.heap.size + 1, 1, none⟩) rfl _).put (ad := ⟨w.heap.size + 1, 2, none⟩) rfl _
  have O5' := Lib.hid O5
  have R5 := Lib.hid (((R3.out.set 0 (.int .u64 seed)).set 1 (.slice X1 c.length k1)).set 2 (.slice X2 c.length k2))
  have T5 := Lib.hid (T3.out.only O5 (by omega))
  clear O5 r0 r1 r2 rf0 rf1 rf2
  refine hK.out _ _ (⟨T5.out.cell 0, T5.out.cell 1, T5.out.cell 2⟩) (fun hHeld => ?_)
  clear hK K
  try simp only [Act.put, List.setIfInBounds_toArray, List.set_cons_zero, List.set_cons_succ]
  refine wpAnyH_done (by kernel_rfl) ?_ _
  refine NoPanic.normal ?_
  obtain ⟨u5, hu5⟩ : ∃ u5, u5 = ((u3.setCell ⟨w.heap.size + 1, 0, none⟩ (.int .u64 seed)).setCell ⟨w.heap.size + 1, 1, none⟩ (.slice X1 c.length k1)).setCell ⟨w.heap.size + 1, 2, none⟩ (.slice X2 c.length k2) := ⟨_, rfl⟩
  rw [← hu5] at O5' R5
  rw [← hu5]
  clear hu5
  have R5' : Hid (Blk u5 (w.heap.size + 1) #[.int .u64 seed, .slice X1 c.length k1, .slice X2 c.length k2] 31) := R5.out
  obtain ⟨r0, r1, r2, _⟩ := R5'.out.three
  go_wp2_with fail
  refine bodyPost_ret (v := .agg #[.int .u64 seed, .slice X1 c.length k1, .slice X2 c.length k2]) (by simp [results, Try.results39, go_sem, r0, r1, r2]) rfl ⟨X1, k1, X2, k2, rfl, ?_, ?_⟩
  · have f4 : Own (w.heap.size + 1 + 1) u3 c X1 k1 X2 k2 := ⟨M1.out, M2.out, fun a b ha hb => by have h1 := L1.out a ha; have h2 := Q2.out b hb; omega⟩
    exact (f4.only O5'.out (fun j e => Or.inl (by omega))).mono (by omega)
  · exact W3.out.trans (O5'.out.below (fun j e => by omega) (by omega))
end Go.Proofs.Ythabnffmlgppdaa.Tb
