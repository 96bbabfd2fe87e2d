/- Proves what the method Free of an arena returns, and what it leaves in memory. Conditions: as each theorem names them. -/
import Derived.Test.YtighehonkookhaaNd
import Derived.IntWalk
import Derived.Deep.RegionHeld3
namespace Go.Proofs.Ytighehonkookhaa.Nx
open Go.RowKit Ap Mi Nm Nw Na Nb Rg Nc Nd

/-- What Free leaves. -/
def freePost (F : Nat → Prop) (w : World) (g m G : Nat) (s : St) (n x : Int) : Ending → World → Prop := fun e w' =>
  e = .returned (.int .i64 (frE s n x)) ∧ Are (More F w) w' g m (G + 1) (frS s n x) ∧ Only F w w'
/-- What freeing a slot finds, and what the two stores of its first statement leave. -/
theorem free_facts {F : Nat → Prop} {w : World} {g m G : Nat} {s : St} (h : Are F w g m G s) {k x : Nat} (hb : hasB s (k : Int) (x : Int) = true) :
    ∃ gA oA c B d, Blk w g #[.int .i64 (m : Int), .slice (some ⟨gA, oA, none⟩) s.gens.length c, .slice B s.fr.length d] 50 ∧ gA < w.heap.size ∧ gA ≠ g ∧ F gA ∧ F g ∧ k < s.gens.length ∧ x ≤ G ∧
      Mine 0 2 w (some ⟨gA, oA, none⟩) s.gens.length c (sl s.gens s.tk) ∧ Mine 0 1 w B s.fr.length d (ints s.fr) ∧ (∀ b, B = some b → F b.block ∧ b.block ≠ g ∧ b.block ≠ gA) ∧
      (∃ v, w.cell? ⟨gA, oA + k * 2, none⟩ = some v) ∧ (∃ v, w.cell? ⟨gA, oA + k * 2 + 1, none⟩ = some v) ∧ w.frozen? ⟨gA, oA + k * 2, none⟩ = false ∧ w.frozen? ⟨gA, oA + k * 2 + 1, none⟩ = false ∧
      (∀ W, Mine 0 2 W (some ⟨gA, oA, none⟩) s.gens.length c (sl s.gens s.tk) → Mine 0 2 ((W.setCell ⟨gA, oA + k * 2, none⟩ (.int .i64 ((x : Int) + 1))).setCell ⟨gA, oA + k * 2 + 1, none⟩ (.bool false)) (some ⟨gA, oA, none⟩) s.gens.length c (sl (s.gens.set k (x + 1)) (s.tk.set k false))) := by
  obtain ⟨hi, hg⟩ := has_spec hb
  obtain ⟨_, hi2⟩ := ist_spec hi
  rw [Int.toNat_natCast] at hi2
  have htl := h.inv.tl
  have hk : k < s.gens.length := by rw [← htl]; exact (List.getElem?_eq_some_iff.1 hi2).1
  have hx : x ≤ G := by have := genAt_le h.inv (k : Int); omega
  obtain ⟨A, c, B, d, h1, h2, h3, h4, h5, h6, h7⟩ := h.has
  obtain ⟨e0, e1⟩ := sl_get s.gens s.tk htl k hk
  obtain ⟨gA, oA, rfl, _, lA⟩ := mine_place h3 (by have := (List.getElem?_eq_some_iff.1 e0).1; omega)
  have c0 := mine_cell h3 e0
  have c1 := mine_cell h3 e1
  rw [← Nat.add_assoc] at c1
  refine ⟨gA, oA, c, B, d, h1, lA, (h5 _ rfl).2, (h5 _ rfl).1, h2, hk, hx, h3, h4, fun b hb => ⟨(h6 b hb).1, (h6 b hb).2, fun e => h7 _ b rfl hb e.symm⟩, ⟨_, c0.1⟩, ⟨_, c1.1⟩, c0.2, c1.2, fun W hW => ?_⟩
  have s0 := mine_put hW (k * 2) (.int .i64 ((x + 1 : Nat) : Int)) (List.getElem?_eq_some_iff.1 e0).1 (sl_setG _ _ _ _)
  have s1 := mine_put s0 (k * 2 + 1) (.bool false) (by rw [sl_len _ _ (by simpa using htl)]; simp; omega) (sl_setT _ _ _ _ (by simpa using hk))
  rw [← Nat.add_assoc] at s1
  exact s1
theorem frS_nat {s : St} {k x : Nat} (hb : hasB s (k : Int) (x : Int) = true) : frS s (k : Int) (x : Int) = ⟨s.gens.set k (x + 1), s.tk.set k false, s.fr ++ [k]⟩ := by
  rw [(fr_yes hb).1]; rfl

set_option maxRecDepth 100000 in
set_option maxHeartbeats 1000000 in
theorem free_no {F : Nat → Prop} {w : World} {g m G : Nat} {s : St} (h : Are F w g m G s) (n x : Int) (hb : hasB s n x = false) :
    Calls Try.prog 16 #[.pointer (some ⟨g, 0, none⟩), .agg #[.int .i64 n, .int .i64 x]] w fun e w' => e = .returned (.int .i64 9) ∧ Below w.heap.size w w' := by
  have lg := h.lt
  have HA := Lib.hid (at_any (h.below (bnew w (.cells #[.int .i64 n, .int .i64 x] 35)) (Nat.le_refl _)) n)
  have HB0 := Lib.hid (Blk.new w #[.int .i64 n, .int .i64 x] 35)
  cases hi : ist s n
  · obtain ⟨q0, q1, q2⟩ := ans_no hi
    unfold atPost at HA
    rw [q0, q1, q2] at HA
    clear h hb q0 q1 q2 hi
    go_enter Try.func16, Try.ntmps16
    go_wp2_with fail
    refine HA.out.mono ?_
    rintro e w1 ⟨rfl, hb⟩
    have HB := Lib.hid hb
    clear hb
    go_wp2_with fail
    go_ret
    exact ⟨rfl, ((bnew w _).trans (HB.out.mono (by simp))).alloc (by have := HB.out.size; simp at this; omega) _⟩
  · obtain ⟨q0, q1, q2⟩ := ans_yes hi
    unfold atPost at HA
    rw [q0, q1, q2] at HA
    have hyx : ¬ (genAt s n : Int) = x := fun e => by rw [has_mk hi e] at hb; cases hb
    obtain ⟨y, hy⟩ : ∃ y, y = genAt s n := ⟨_, rfl⟩
    rw [← hy] at HA hyx
    have hyx' : ((y : Int) == x) = false := by rw [beq_eq_false_iff_ne]; exact hyx
    clear h hb q0 q1 q2 hi hy
    go_enter Try.func16, Try.ntmps16
    go_wp2_with fail
    refine HA.out.mono ?_
    rintro e w1 ⟨rfl, hb⟩
    have HB := Lib.hid hb
    have b1 := HB0.out.below hb (by simp)
    obtain ⟨d0, d1, d2, d3⟩ := b1.two
    have hz := b1.lt
    clear hb b1
    go_wp2_with fail
    go_ret
    exact ⟨rfl, ((bnew w _).trans (HB.out.mono (by simp))).alloc (by have := HB.out.size; simp at this; omega) _⟩

set_option maxRecDepth 100000 in
set_option maxHeartbeats 1000000 in
theorem free_yes {F : Nat → Prop} {w : World} {g m G : Nat} {s : St} (h : Are F w g m G s) (hG : G ≤ 1000000000) (k x : Nat) (hb : hasB s (k : Int) (x : Int) = true) :
    Calls Try.prog 16 #[.pointer (some ⟨g, 0, none⟩), .agg #[.int .i64 (k : Int), .int .i64 (x : Int)]] w (fun e w' => e = .returned (.int .i64 0) ∧ Are (More F w) w' g m (G + 1) (frS s (k : Int) (x : Int)) ∧ Only F w w') := by
  have lg := h.lt
  have HH := Lib.hid h
  have HE := Lib.hid (frS_nat hb)
  have HI := Lib.hid (fr_inv h.inv (k : Int) (x : Int))
  have h0 := h.tight.below (bnew w (.cells #[.int .i64 (k : Int), .int .i64 (x : Int)] 35)) (Nat.le_refl _)
  have HA := Lib.hid (at_any h0 (k : Int))
  have HB0 := Lib.hid (Blk.new w #[.int .i64 (k : Int), .int .i64 (x : Int)] 35)
  have H0 := Lib.hid h0
  have HHB := Lib.hid hb
  obtain ⟨hi, hgx⟩ := has_spec hb
  obtain ⟨q0, q1, q2⟩ := ans_yes hi
  unfold atPost at HA
  rw [q0, q1, q2, hgx] at HA
  clear h h0 hb hi q0 q1 q2 hgx
  go_enter Try.func16, Try.ntmps16
  go_wp2_with fail
  refine HA.out.mono ?_
  rintro e w1 ⟨rfl, hb⟩
  have HB := Lib.hid hb
  have b1 := HB0.out.below hb (by simp)
  have HB1 := Lib.hid b1
  obtain ⟨d0, d1, d2, d3⟩ := b1.two
  have hz := b1.lt
  have H1 := Lib.hid (H0.out.below hb (Nat.le_refl _))
  clear hb b1
  go_wp2_with fail
  obtain ⟨w2, hw2⟩ : ∃ w2, w2 = w1.alloc (.cells #[.int .i64 (k : Int), .int .i64 (x : Int)] 35) := ⟨_, rfl⟩
  have b2 : Below w1.heap.size w1 w2 := by rw [hw2]; exact bnew _ _
  have H2 := Lib.hid (H1.out.below b2 (Nat.le_refl _))
  have HB2 := Lib.hid (HB1.out.below b2 hz)
  have O2 : Hid (Only F w w2) := Only.of_below (((bnew w (.cells #[.int .i64 (k : Int), .int .i64 (x : Int)] 35)).trans (HB.out.mono (by simp))).trans (b2.mono (by omega))) (Nat.le_refl _) F
  rw [← hw2]
  clear hw2 b2
  obtain ⟨gA, oA, c, B, d, k1, k2, k3, k4, k5, k6, k7, k8, k9, k10, ⟨v1, k11⟩, ⟨v2, k12⟩, k13, k14, k15⟩ := free_facts H2.out HHB.out
  obtain ⟨c0, c1, c2, f0, f1, f2⟩ := k1.three
  obtain ⟨d0, d1, df0, df1⟩ := HB2.out.two
  have n1 : ¬ gA = g := k3
  have n2 : ¬ g = gA := fun e => k3 e.symm
  have n3 : ¬ gA = w.heap.size := by have := k4.2; omega
  have n4 : ¬ w.heap.size = gA := by omega
  have hle := H2.out.inv.le; have hhi := H2.out.hi
  have i1 : (k : Int) < (s.gens.length : Int) := by omega
  have HG := Lib.hid k1; have HM := Lib.hid k8; have HN := Lib.hid k9; have HBF := Lib.hid k10; have HP := Lib.hid k15; have HFA := Lib.hid k4; have HFG := Lib.hid k5
  have hwr : IntKind.i64.wrap ((x : Int) + 1) = (x : Int) + 1 := IntWalk.i64_in _ (by omega)
  clear k1 k8 k9 k10 k15 k4 k5
  have hS : (fun v => v.cell? ⟨g, 1, none⟩ = some (.slice (some ⟨gA, oA, none⟩) s.gens.length c) ∧ v.cell? ⟨w.heap.size, 0, none⟩ = some (.int .i64 (k : Int)) ∧ v.cell? ⟨w.heap.size, 1, none⟩ = some (.int .i64 (x : Int))) w2.drew := ⟨c1, d0, d1⟩
  have HGd := Lib.hid (show Blk w2.drew g _ _ from HG.out)
  have HMd := Lib.hid (mine_drew HM.out)
  have HNd := Lib.hid (mine_drew HN.out)
  have HBd := Lib.hid (show Blk w2.drew w.heap.size _ _ from HB2.out)
  have O2d := Lib.hid O2.out.drew
  have lzd : w2.heap.size ≤ w2.drew.heap.size := Nat.le_refl _
  refine wp_region_noPanic ?_
  refine wp_region_G 11 (fun v => v.cell? ⟨g, 1, none⟩ = some (.slice (some ⟨gA, oA, none⟩) s.gens.length c) ∧ v.cell? ⟨w.heap.size, 0, none⟩ = some (.int .i64 (k : Int)) ∧ v.cell? ⟨w.heap.size, 1, none⟩ = some (.int .i64 (x : Int))) (by kernel_rfl) ?_
  generalize w2.drew = u2 at HGd HMd HNd HBd O2d lzd hS ⊢
  have k11' : ∃ v, u2.cell? ⟨gA, oA + k * 2, none⟩ = some v := by obtain ⟨e0, _⟩ := sl_get s.gens s.tk H2.out.inv.tl k k6; exact ⟨_, (mine_cell HMd.out e0).1⟩
  have k12' : ∃ v, u2.cell? ⟨gA, oA + k * 2 + 1, none⟩ = some v := by obtain ⟨_, e1⟩ := sl_get s.gens s.tk H2.out.inv.tl k k6; exact ⟨_, by have := (mine_cell HMd.out e1).1; rwa [← Nat.add_assoc] at this⟩
  have k13' : u2.frozen? ⟨gA, oA + k * 2, none⟩ = false := by obtain ⟨e0, _⟩ := sl_get s.gens s.tk H2.out.inv.tl k k6; exact (mine_cell HMd.out e0).2
  have k14' : u2.frozen? ⟨gA, oA + k * 2 + 1, none⟩ = false := by obtain ⟨_, e1⟩ := sl_get s.gens s.tk H2.out.inv.tl k k6; have := (mine_cell HMd.out e1).2; rwa [← Nat.add_assoc] at this
  obtain ⟨v3, k11'⟩ := k11'
  obtain ⟨v4, k12'⟩ := k12'
  clear k11 k12 k13 k14 c0 c1 c2 f0 f1 f2 d0 d1 df0 df1
  obtain ⟨c0, c1, c2, f0, f1, f2⟩ := HGd.out.three
  obtain ⟨d0, d1, df0, df1⟩ := HBd.out.two
  refine wpAnyG_take (i := 0) (oi := ⟨some 20, _, _, _, _, _⟩) (v := ?_) rfl (by kernel_rfl) (by kernel_rfl) (by kernel_rfl) (by kernel_rfl) (by kernel_rfl) (fun _ _ _ h => h) (Or.inl ⟨by rfl, ?_⟩) (hS) ?_
  rotate_left
  · intro w hSw; go_simp; first | done | with_reducible rfl
  try simp only [Act.put, List.setIfInBounds_toArray, List.set_cons_zero, List.set_cons_succ]
  refine wpAnyG_take (i := 1) (oi := ⟨some 21, _, _, _, _, _⟩) (v := ?_) rfl (by kernel_rfl) (by kernel_rfl) (by kernel_rfl) (by kernel_rfl) (by kernel_rfl) (fun _ _ _ h => h) (Or.inl ⟨by rfl, ?_⟩) (hS) ?_
  rotate_left
  · intro w hSw; go_simp; first | done | with_reducible rfl
  try simp only [Act.put, List.setIfInBounds_toArray, List.set_cons_zero, List.set_cons_succ]
  refine wpAnyG_take (i := 2) (oi := ⟨some 22, _, _, _, _, _⟩) (v := ?_) rfl (by kernel_rfl) (by kernel_rfl) (by kernel_rfl) (by kernel_rfl) (by kernel_rfl) (fun _ _ _ h => h) (Or.inl ⟨by rfl, ?_⟩) (hS) ?_
  rotate_left
  · intro w hSw; go_simp; first | done | with_reducible rfl
  try simp only [Act.put, List.setIfInBounds_toArray, List.set_cons_zero, List.set_cons_succ]
  refine wpAnyG_take (i := 3) (oi := ⟨some 23, _, _, _, _, _⟩) (v := ?_) rfl (by kernel_rfl) (by kernel_rfl) (by kernel_rfl) (by kernel_rfl) (by kernel_rfl) (fun _ _ _ h => h) (Or.inl ⟨by rfl, ?_⟩) (hS) ?_
  rotate_left
  · intro w hSw; go_simp; first | done | with_reducible rfl
  try simp only [Act.put, List.setIfInBounds_toArray, List.set_cons_zero, List.set_cons_succ]
  refine wpAnyG_take (i := 4) (oi := ⟨some 24, _, _, _, _, _⟩) (v := ?_) rfl (by kernel_rfl) (by kernel_rfl) (by kernel_rfl) (by kernel_rfl) (by kernel_rfl) (fun _ _ _ h => h) (Or.inl ⟨by rfl, ?_⟩) (hS) ?_
  rotate_left
  · intro w hSw; go_simp; first | done | with_reducible rfl
  try simp only [Act.put, List.setIfInBounds_toArray, List.set_cons_zero, List.set_cons_succ]
  refine wpAnyG_take (i := 5) (oi := ⟨some 25, _, _, _, _, _⟩) (v := ?_) rfl (by kernel_rfl) (by kernel_rfl) (by kernel_rfl) (by kernel_rfl) (by kernel_rfl) (fun _ _ _ h => h) (Or.inl ⟨by rfl, ?_⟩) (hS) ?_
  rotate_left
  · intro w hSw; go_simp; first | done | with_reducible rfl
  try simp only [Act.put, List.setIfInBounds_toArray, List.set_cons_zero, List.set_cons_succ]
  refine wpAnyG_take (i := 6) (oi := ⟨some 26, _, _, _, _, _⟩) (v := ?_) rfl (by kernel_rfl) (by kernel_rfl) (by kernel_rfl) (by kernel_rfl) (by kernel_rfl) (fun _ _ _ h => h) (Or.inl ⟨by rfl, ?_⟩) (hS) ?_
  rotate_left
  · intro w hSw; go_simp; first | done | with_reducible rfl
  try simp only [Act.put, List.setIfInBounds_toArray, List.set_cons_zero, List.set_cons_succ]
  refine wpAnyG_take (i := 7) (oi := ⟨some 27, _, _, _, _, _⟩) (v := ?_) rfl (by kernel_rfl) (by kernel_rfl) (by kernel_rfl) (by kernel_rfl) (by kernel_rfl) (fun _ _ _ h => h) (Or.inl ⟨by rfl, ?_⟩) (hS) ?_
  rotate_left
  · intro w hSw; go_simp; first | done | with_reducible rfl
  try simp only [Act.put, List.setIfInBounds_toArray, List.set_cons_zero, List.set_cons_succ]
  refine wpAnyG_take (i := 8) (oi := ⟨some 28, _, _, _, _, _⟩) (v := ?_) rfl (by kernel_rfl) (by kernel_rfl) (by kernel_rfl) (by kernel_rfl) (by kernel_rfl) (fun _ _ _ h => h) (Or.inl ⟨by rfl, ?_⟩) (hS) ?_
  rotate_left
  · intro w hSw; go_simp; first | done | with_reducible rfl
  try simp only [Act.put, List.setIfInBounds_toArray, List.set_cons_zero, List.set_cons_succ]
  refine wpAnyG_take (i := 9) (oi := ⟨some 29, _, _, _, _, _⟩) (v := ?_) rfl (by kernel_rfl) (by kernel_rfl) (by kernel_rfl) (by kernel_rfl) (by kernel_rfl) (fun _ _ _ h => h) (Or.inl ⟨by rfl, ?_⟩) (hS) ?_
  rotate_left
  · intro w hSw; go_simp; first | done | with_reducible rfl
  try simp only [Act.put, List.setIfInBounds_toArray, List.set_cons_zero, List.set_cons_succ]
  refine wpAnyG_take (i := 10) (oi := ⟨some 30, _, _, _, _, _⟩) (v := ?_) rfl (by kernel_rfl) (by kernel_rfl) (by kernel_rfl) (by kernel_rfl) (by kernel_rfl) (fun _ _ _ h => h) (Or.inl ⟨by rfl, ?_⟩) (hS) ?_
  rotate_left
  · intro w hSw; go_simp; first | done | with_reducible rfl
  try simp only [Act.put, List.setIfInBounds_toArray, List.set_cons_zero, List.set_cons_succ]
  refine wpAnyG_ready (rs := [11]) (by kernel_rfl) (by simp) ?_
  refine AllReadyG.cons (o := ⟨none, _, _, _, _, _⟩) rfl (fun K hK => ?_) AllReadyG.nil
  go_simp
  refine hK.out _ _ (fun h => absurd h (by omega)) ?_
  clear hK K
  try simp only [Act.put, List.setIfInBounds_toArray, List.set_cons_zero, List.set_cons_succ]
  refine wpAnyG_done (by kernel_rfl) ?_ _
  refine NoPanic.normal ?_
  have HM3 := Lib.hid (HP.out u2 HMd.out)
  obtain ⟨w3, hw3⟩ : ∃ w3, w3 = (u2.setCell ⟨gA, oA + k * 2, none⟩ (.int .i64 ((x : Int) + 1))).setCell ⟨gA, oA + k * 2 + 1, none⟩ (.bool false) := ⟨_, rfl⟩
  have O3' : Only (fun j => j = gA) u2 w3 := by rw [hw3]; exact ((Only.refl (fun j => j = gA) u2).put (ad := ⟨gA, oA + k * 2, none⟩) rfl _).put (ad := ⟨gA, oA + k * 2 + 1, none⟩) rfl _
  have HG3 := Lib.hid (HGd.out.only O3' n2)
  have HB3 := Lib.hid (HBd.out.only O3' n4)
  have HN3 := Lib.hid (HNd.out.only O3' (fun b hb e => (HBF.out b hb).2.2 e))
  have O3 := Lib.hid (O2d.out.trans (O3'.mono fun j _ e => Or.inl (by rw [e]; exact HFA.out.1)))
  rw [← hw3] at HM3
  try rw [← hw3]
  have lz3 : u2.heap.size ≤ w3.heap.size := O3'.size
  clear hS c0 c1 c2 f0 f1 f2 d0 d1 df0 df1 O3' hw3 k11' k12' k13' k14' hwr
  obtain ⟨c0, c1, c2, f0, f1, f2⟩ := HG3.out.three
  obtain ⟨d0, d1, df0, df1⟩ := HB3.out.two
  have hfr := H2.out.inv.frl
  go_wp2_with fail
  have HGe := Lib.hid (show Blk w3.drew g _ _ from HG3.out)
  have HMe := Lib.hid (mine_drew HM3.out)
  have HNe := Lib.hid (mine_drew HN3.out)
  have HBe := Lib.hid (show Blk w3.drew w.heap.size _ _ from HB3.out)
  have O3e := Lib.hid O3.out.drew
  have lze : w3.heap.size ≤ w3.drew.heap.size := Nat.le_refl _
  have hS : (fun v => v.cell? ⟨g, 2, none⟩ = some (.slice B s.fr.length d) ∧ v.cell? ⟨w.heap.size, 0, none⟩ = some (.int .i64 (k : Int))) w3.drew := ⟨c2, d0⟩
  refine wp_region_noPanic ?_
  refine wp_region_G 11 (fun v => v.cell? ⟨g, 2, none⟩ = some (.slice B s.fr.length d) ∧ v.cell? ⟨w.heap.size, 0, none⟩ = some (.int .i64 (k : Int))) (by kernel_rfl) ?_
  generalize w3.drew = u3 at HGe HMe HNe HBe O3e lze hS ⊢
  refine wpAnyG_take (i := 0) (oi := ⟨some 31, _, _, _, _, _⟩) (v := ?_) rfl (by kernel_rfl) (by kernel_rfl) (by kernel_rfl) (by kernel_rfl) (by kernel_rfl) (fun _ _ _ h => h) (Or.inl ⟨by rfl, ?_⟩) (hS) ?_
  rotate_left
  · intro w hSw; go_simp; first | done | with_reducible rfl
  try simp only [Act.put, List.setIfInBounds_toArray, List.set_cons_zero, List.set_cons_succ]
  refine wpAnyG_take (i := 1) (oi := ⟨some 32, _, _, _, _, _⟩) (v := ?_) rfl (by kernel_rfl) (by kernel_rfl) (by kernel_rfl) (by kernel_rfl) (by kernel_rfl) (fun _ _ _ h => h) (Or.inl ⟨by rfl, ?_⟩) (hS) ?_
  rotate_left
  · intro w hSw; go_simp; first | done | with_reducible rfl
  try simp only [Act.put, List.setIfInBounds_toArray, List.set_cons_zero, List.set_cons_succ]
  refine wpAnyG_take (i := 2) (oi := ⟨some 33, _, _, _, _, _⟩) (v := ?_) rfl (by kernel_rfl) (by kernel_rfl) (by kernel_rfl) (by kernel_rfl) (by kernel_rfl) (fun _ _ _ h => h) (Or.inl ⟨by rfl, ?_⟩) (hS) ?_
  rotate_left
  · intro w hSw; go_simp; first | done | with_reducible rfl
  try simp only [Act.put, List.setIfInBounds_toArray, List.set_cons_zero, List.set_cons_succ]
  refine wpAnyG_take (i := 3) (oi := ⟨some 34, _, _, _, _, _⟩) (v := ?_) rfl (by kernel_rfl) (by kernel_rfl) (by kernel_rfl) (by kernel_rfl) (by kernel_rfl) (fun _ _ _ h => h) (Or.inl ⟨by rfl, ?_⟩) (hS) ?_
  rotate_left
  · intro w hSw; go_simp; first | done | with_reducible rfl
  try simp only [Act.put, List.setIfInBounds_toArray, List.set_cons_zero, List.set_cons_succ]
  refine wpAnyG_take (i := 4) (oi := ⟨some 35, _, _, _, _, _⟩) (v := ?_) rfl (by kernel_rfl) (by kernel_rfl) (by kernel_rfl) (by kernel_rfl) (by kernel_rfl) (fun _ _ _ h => h) (Or.inl ⟨by rfl, ?_⟩) (hS) ?_
  rotate_left
  · intro w hSw; go_simp; first | done | with_reducible rfl
  try simp only [Act.put, List.setIfInBounds_toArray, List.set_cons_zero, List.set_cons_succ]
  refine wpAnyG_take (i := 5) (oi := ⟨some 36, _, _, _, _, _⟩) (v := ?_) rfl (by kernel_rfl) (by kernel_rfl) (by kernel_rfl) (by kernel_rfl) (by kernel_rfl) (fun _ _ _ h => h) (Or.inl ⟨by rfl, ?_⟩) (hS) ?_
  rotate_left
  · intro w hSw; go_simp; first | done | with_reducible rfl
  try simp only [Act.put, List.setIfInBounds_toArray, List.set_cons_zero, List.set_cons_succ]
  refine wpAnyG_take (i := 6) (oi := ⟨some 37, _, _, _, _, _⟩) (v := ?_) rfl (by kernel_rfl) (by kernel_rfl) (by kernel_rfl) (by kernel_rfl) (by kernel_rfl) (fun _ _ _ h => h) (Or.inl ⟨by rfl, ?_⟩) (hS) ?_
  rotate_left
  · intro w hSw; go_simp; first | done | with_reducible rfl
  try simp only [Act.put, List.setIfInBounds_toArray, List.set_cons_zero, List.set_cons_succ]
  refine wpAnyG_ready (rs := [7]) (by kernel_rfl) (by simp) ?_
  refine AllReadyG.cons (o := ⟨some 38, _, _, _, _, _⟩) rfl (fun K hK => ?_) AllReadyG.nil
  go_simp
  have HG4 := Lib.hid (HGe.out.below (bnew u3 (.cells #[.int .i64 (k : Int)] 3)) HGe.out.lt)
  have HB4 := Lib.hid (HBe.out.below (bnew u3 (.cells #[.int .i64 (k : Int)] 3)) HBe.out.lt)
  have HN4 := Lib.hid (HNe.out.below (bnew u3 (.cells #[.int .i64 (k : Int)] 3)) (Nat.le_refl _))
  have HM4 := Lib.hid (HMe.out.below (bnew u3 (.cells #[.int .i64 (k : Int)] 3)) (Nat.le_refl _))
  have hS1 : (fun v => v.cell? ⟨g, 2, none⟩ = some (.slice B s.fr.length d) ∧ v.cell? ⟨w.heap.size, 0, none⟩ = some (.int .i64 (k : Int))) (u3.alloc (.cells #[.int .i64 (k : Int)] 3)) := ⟨HG4.out.cell 2, HB4.out.cell 0⟩
  refine hK.out _ _ (fun _ => hS1) ?_
  clear hK K
  try simp only [Act.put, List.setIfInBounds_toArray, List.set_cons_zero, List.set_cons_succ]
  refine wpAnyG_ready (rs := [8]) (by kernel_rfl) (by simp) ?_
  refine AllReadyG.cons (o := ⟨some 39, _, _, _, _, _⟩) rfl (fun K hK => ?_) AllReadyG.nil
  refine step_mine (by kernel_rfl) _ _ elI _ rfl rfl HN4.out _ rfl 1 _ (src_lit Try.underlying28 #[.int .i64 (k : Int)] 1 1 rfl (by simp [Value.oneCell'])) (by omega) (by omega) (Nat.zero_le _) ?_
  intro B' d' w5 m1 g1 q1
  have HM1 := Lib.hid m1; have HQ1 := Lib.hid q1
  have HO5 := Lib.hid (O3e.out.trans (((Only.of_below (bnew u3 (.cells #[.int .i64 (k : Int)] 3)) (Nat.le_refl _) F).trans ((only_row g1 (fun a ha => (HBF.out a ha).1.1)).mono fun _ _ hf => Or.inl hf)).mono fun _ _ hf => Or.inl hf))
  have HG5 := Lib.hid (blk_row HG4.out g1 (fun a ha => (HBF.out a ha).2.1))
  have HB5 := Lib.hid (blk_row HB4.out g1 (fun a ha => by have := (HBF.out a ha).1.2; omega))
  have HM5 : Hid (Mine 0 2 w5 (some ⟨gA, oA, none⟩) s.gens.length c (sl (s.gens.set k (x + 1)) (s.tk.set k false))) := HM4.out.only (Only.of_grown g1 (F := fun j => ∃ b, B = some b ∧ b.block = j) (fun k e => by rw [Option.map_eq_some_iff] at e; exact e)) (fun a ha hf => by obtain ⟨b, hb, e⟩ := hf; injection ha with ha; subst ha; exact (HBF.out b hb).2.2 e)
  have hS2 : (fun v => v.cell? ⟨g, 2, none⟩ = some (.slice B s.fr.length d) ∧ v.cell? ⟨w.heap.size, 0, none⟩ = some (.int .i64 (k : Int))) w5 := ⟨HG5.out.cell 2, HB5.out.cell 0⟩
  have lz5 : u3.heap.size + 1 ≤ w5.heap.size := by have := g1.size; simpa using this
  have HF5 : Hid (∀ b, B' = some b → More F w b.block ∧ b.block ≠ g ∧ b.block ≠ gA) := fun b hb => by
    rcases HQ1.out with h | h
    · rw [h] at hb; exact ⟨Or.inl (HBF.out b hb).1.1, (HBF.out b hb).2.1, (HBF.out b hb).2.2⟩
    · have h' := h b hb; have hz : u3.heap.size + 1 ≤ b.block := by simpa using h'
      have := HFG.out.2; have := HFA.out.2; have := O2.out.size
      exact ⟨Or.inr (by omega), by omega, by omega⟩
  have e2 : w5.cell? ⟨g, 2, none⟩ = some (.slice B s.fr.length d) := HG5.out.cell 2
  have ef2 : w5.frozen? ⟨g, 2, none⟩ = false := HG5.out.frozen 2
  clear m1 g1 q1
  refine hK.out _ _ (fun _ => hS2) ?_
  clear hK K
  try simp only [Act.put, List.setIfInBounds_toArray, List.set_cons_zero, List.set_cons_succ]
  refine wpAnyG_take (i := 9) (oi := ⟨some 40, _, _, _, _, _⟩) (v := ?_) rfl (by kernel_rfl) (by kernel_rfl) (by kernel_rfl) (by kernel_rfl) (by kernel_rfl) (fun _ _ _ h => h) (Or.inl ⟨by rfl, ?_⟩) (hS2) ?_
  rotate_left
  · intro w hSw; go_simp; first | done | with_reducible rfl
  try simp only [Act.put, List.setIfInBounds_toArray, List.set_cons_zero, List.set_cons_succ]
  refine wpAnyG_take (i := 10) (oi := ⟨some 41, _, _, _, _, _⟩) (v := ?_) rfl (by kernel_rfl) (by kernel_rfl) (by kernel_rfl) (by kernel_rfl) (by kernel_rfl) (fun _ _ _ h => h) (Or.inl ⟨by rfl, ?_⟩) (hS2) ?_
  rotate_left
  · intro w hSw; go_simp; first | done | with_reducible rfl
  try simp only [Act.put, List.setIfInBounds_toArray, List.set_cons_zero, List.set_cons_succ]
  refine wpAnyG_ready (rs := [11]) (by kernel_rfl) (by simp) ?_
  refine AllReadyG.cons (o := ⟨none, _, _, _, _, _⟩) rfl (fun K hK => ?_) AllReadyG.nil
  go_simp
  refine hK.out _ _ (fun h => absurd h (by omega)) ?_
  clear hK K
  try simp only [Act.put, List.setIfInBounds_toArray, List.set_cons_zero, List.set_cons_succ]
  refine wpAnyG_done (by kernel_rfl) ?_ _
  refine NoPanic.normal ?_
  go_wp2_with fail
  go_ret
  rw [HE.out]
  refine ⟨rfl, ⟨⟨some ⟨gA, oA, none⟩, c, B', d', ?_, Or.inl HFG.out.1, ?_, ?_, fun a ha => by injection ha with ha; subst ha; exact ⟨Or.inl HFA.out.1, n1⟩, fun b hb => ⟨(HF5.out b hb).1, (HF5.out b hb).2.1⟩, fun a b ha hb e => by injection ha with ha; subst ha; exact (HF5.out b hb).2.2 e.symm⟩, by have := HI.out; rw [HE.out] at this; exact this, HH.out.lo, HH.out.hi⟩, HO5.out.put (ad := ⟨g, 2, none⟩) HFG.out.1 _⟩
  · rw [List.length_append, List.length_set]; exact HG5.out.set 2 _
  · rw [List.length_set]
    exact HM5.out.only (only_own (F := fun j => j = g) rfl _) (fun a ha e => by injection ha with ha; subst ha; exact n1 e)
  · rw [List.length_append, ints_snoc]
    exact HM1.out.only (only_own (F := fun j => j = g) rfl _) (fun b hb e => (HF5.out b hb).2.1 e)
theorem free_any {F : Nat → Prop} {w : World} {g m G : Nat} {s : St} (h : Are F w g m G s) (hG : G ≤ 1000000000) (n x : Int) :
    Calls Try.prog 16 #[.pointer (some ⟨g, 0, none⟩), .agg #[.int .i64 n, .int .i64 x]] w (freePost F w g m G s n x) := by
  unfold freePost
  cases hb : hasB s n x
  · obtain ⟨q0, q1⟩ := fr_no hb
    rw [q0, q1]
    refine (free_no h n x hb).mono ?_
    rintro e w1 ⟨rfl, hbw⟩
    exact ⟨rfl, ((h.below hbw (Nat.le_refl _)).mono (fun _ _ hf => Or.inl hf)).more (Nat.le_succ _), Only.of_below hbw (Nat.le_refl _) F⟩
  · obtain ⟨h1, h2⟩ := has_spec hb
    obtain ⟨h3, _⟩ := ist_spec h1
    obtain ⟨k, rfl⟩ : ∃ k : Nat, n = (k : Int) := ⟨n.toNat, by omega⟩
    obtain ⟨y, rfl⟩ : ∃ y : Nat, x = (y : Int) := ⟨genAt s (k : Int), h2.symm⟩
    rw [(fr_yes hb).2]
    exact free_yes h hG k y hb
end Go.Proofs.Ytighehonkookhaa.Nx
