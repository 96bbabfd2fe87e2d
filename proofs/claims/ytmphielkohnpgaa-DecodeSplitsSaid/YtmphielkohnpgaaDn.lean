/- Proves what Next of a decoder returns, and what it leaves in memory. Conditions: few bytes. -/
import Derived.Test.YtmphielkohnpgaaDd
import Derived.Deep.RegionHeld3
namespace Go.Proofs.Ytmphielkohnpgaa.Dn
open Go.RowKit Vm Ap Vw Va Vc Gc Fm Fw Mi Mb Fr Dm Dd

/-- What Next leaves. -/
def nextPost (F : Nat → Prop) (w : World) (g : Nat) (m : Int) (s : St) : Ending → World → Prop := fun e w' =>
  ∃ V vc, e = .returned (.tuple #[.agg #[.int .u8 ((nxG m s).1.toNat : Int), .slice V (nxG m s).2.1.length vc], .int .i64 ((nxG m s).2.2 : Int)]) ∧ MineB w.heap.size w' V (nxG m s).2.1 vc ∧ Dec F w' g m (nxS m s) ∧ Only F w w'
/-- The first k bytes are no longer held. -/
theorem dec_cut {F : Nat → Prop} {w : World} {g : Nat} {m : Int} {A : Option Addr} {hd : Bs} {c : Nat} (h1 : w.heap[g]? = some (.cells #[.int .i64 m, .slice A hd.length c, .bool true, .bool false] 59 (0, 0))) (h2 : F g) (h3 : MineB 0 w A hd c) (h4 : ∀ a, A = some a → F a.block ∧ a.block ≠ g) (k : Nat) (hk : k ≤ hd.length) :
    Dec F (w.setCell ⟨g, 1, none⟩ (.slice (cutA A k c) (hd.length - k) (c - k))) g m ⟨hd.drop k, false⟩ := by
  have h5 : ∀ a, cutA A k c = some a → F a.block ∧ a.block ≠ g := fun a ha => by
    obtain ⟨a0, e0, eb⟩ := cutA_block ha
    rw [← eb]; exact h4 a0 e0
  exact ⟨cutA A k c, c - k, by rw [List.length_drop]; exact dec_held h1, h2, mine_other (mine_cut h3 k hk) (fun a ha => (h5 a ha).2) _, h5⟩
/-- Nothing is held, and the decoder is closed. -/
theorem dec_end {F : Nat → Prop} {w : World} {g : Nat} {m : Int} {A : Option Addr} {n c : Nat} (h1 : w.heap[g]? = some (.cells #[.int .i64 m, .slice A n c, .bool true, .bool false] 59 (0, 0))) (h2 : F g) :
    Dec F ((w.setCell ⟨g, 1, none⟩ (.slice none 0 0)).setCell ⟨g, 3, none⟩ (.bool true)) g m ⟨[], true⟩ :=
  ⟨none, 0, dec_shut (dec_held h1), h2, Mine.nil _ _ _, fun a ha => by cases ha⟩
theorem cut_same (b o c : Nat) : cutA (some ⟨b, o, none⟩) c c = some ⟨b, o, none⟩ := by rw [cutA, if_pos rfl]
theorem cut_more (b o : Nat) {c s : Nat} (h : c ≠ s) : cutA (some ⟨b, o, none⟩) s c = some ⟨b, o + s, none⟩ := by rw [cutA, if_neg h, Option.map_some, Vw.add_plain]
/-- The result is laid: nothing of it concerns the decoder. -/
theorem dec_out {F : Nat → Prop} {w : World} {r g : Nat} {m : Int} {s : St} (h : Dec (fun j => F j ∧ j < r) w g m s) (x y : Value) : Dec F ((w.setCell ⟨r, 0, none⟩ x).setCell ⟨r, 1, none⟩ y) g m s :=
  (h.only (G := fun j => j = r) (((Only.refl (fun j => j = r) w).setCell (ad := ⟨r, 0, none⟩) (Or.inl rfl) _).setCell (ad := ⟨r, 1, none⟩) (Or.inl rfl) _) (fun j hj e => by have := hj.2; omega)).mono (fun _ _ hf => hf.1)
theorem mine_out {w : World} {B r g i : Nat} {V : Option Addr} {p : Bs} {vc : Nat} (h : MineB B w V p vc) (hr : r < B) (hg : g < B) (x y u : Value) : MineB B (((w.setCell ⟨g, i, none⟩ u).setCell ⟨r, 0, none⟩ x).setCell ⟨r, 1, none⟩ y) V p vc :=
  h.only (F := fun j => j = r ∨ j = g) ((((Only.refl (fun j => j = r ∨ j = g) w).setCell (ad := ⟨g, i, none⟩) (Or.inl (Or.inr rfl)) _).setCell (ad := ⟨r, 0, none⟩) (Or.inl (Or.inl rfl)) _).setCell (ad := ⟨r, 1, none⟩) (Or.inl (Or.inl rfl)) _) (fun a ha hf => by
    have := (h.base ha).1
    rcases hf with hf | hf <;> omega)
theorem mine_one {w : World} {B g i : Nat} {V : Option Addr} {p : Bs} {vc : Nat} (h : MineB B w V p vc) (hg : g < B) (u : Value) : MineB B (w.setCell ⟨g, i, none⟩ u) V p vc :=
  h.only (F := fun j => j = g) ((Only.refl (fun j => j = g) w).setCell (ad := ⟨g, i, none⟩) (Or.inl rfl) _) (fun a ha hf => by
    have := (h.base ha).1
    omega)
theorem mine_two {w : World} {B r : Nat} {V : Option Addr} {p : Bs} {vc : Nat} (h : MineB B w V p vc) (hr : r < B) (x y : Value) : MineB B ((w.setCell ⟨r, 0, none⟩ x).setCell ⟨r, 1, none⟩ y) V p vc := mine_one (mine_one h hr x) hr y
set_option maxRecDepth 100000 in
set_option maxHeartbeats 4000000 in
theorem next_any {F : Nat → Prop} {w : World} {g : Nat} {m : Int} {s : St} (hm : okM m) (h : Dec F w g m s) (hs : s.held.length ≤ 100000000) :
    Calls Try.prog 15 #[.pointer (some ⟨g, 0, none⟩)] w (nextPost F w g m s) := by
  obtain ⟨w0, hw0⟩ : ∃ w0, w0 = w.alloc (.cells #[.int .u8 0, .slice none 0 0] 39) := ⟨_, rfl⟩
  have B0 : Below w.heap.size w w0 := by rw [hw0]; exact below_new _ _
  have hce0 : Cel w0 w.heap.size (.int .u8 0) (.slice none 0 0) := by rw [hw0]; exact Cel.new _ _ _ _
  have h0 := h.tight.below B0 (Nat.le_refl _)
  have HC := Lib.hid (check_any h0)
  have HD0 := Lib.hid h0
  have HDL := Lib.hid h.lt
  have HB0 := Lib.hid B0
  have CR := Lib.hid hce0
  obtain ⟨A, c, h1, h2, h3, h4⟩ := h0.has
  have H1 := Lib.hid h1; have H2 := Lib.hid h2; have H3 := Lib.hid h3; have H4 := Lib.hid h4
  have CC := Lib.hid (cells_of h1)
  have hlen := h3.le
  have hcm := h3.max
  unfold maxLen at hcm
  have hm1 : 0 ≤ m := by unfold okM at hm; omega
  have hm2 : m ≤ 2097152 := by unfold okM at hm; omega
  have HM := Lib.hid hm
  have HRB := Lib.hid (rb_mine h3)
  clear h h0 h1 h2 h3 h4 hm B0 hce0
  cases hb : s.shut
  case true =>
    have HG : Hid (nxG m s = (0, [], 14)) := by show _ = _; unfold nxG; rw [hb]; rfl
    have HS : Hid (nxS m s = s) := by show _ = _; unfold nxS; rw [hb]; rfl
    have HE : Hid (feedE s = 14) := by show _ = _; unfold feedE; rw [hb]; rfl
    rw [HE.out] at HC
    obtain ⟨cx0, cx1, cf0, cf1⟩ := CR.out
    go_enter Try.func15, Try.ntmps15
    go_wp2_with fail
    rw [← hw0]
    clear hw0
    refine HC.out.mono ?_
    rintro e w' ⟨rfl, rfl⟩
    go_wp2_with fail
    refine bodyPost_ret (v := .tuple #[.agg #[.int .u8 0, .slice none 0 0], .int .i64 14]) (by simp [results, Try.results15, go_sem, cx0, cx1]) rfl ⟨none, 0, by rw [HG.out]; rfl, by rw [HG.out]; exact Mine.nil _ _ _, ?_, ?_⟩
    · rw [HS.out]
      exact (HD0.out.only (G := fun j => j = w.heap.size) (((Only.refl (fun j => j = w.heap.size) w0).setCell (ad := ⟨w.heap.size, 0, none⟩) (Or.inl rfl) _).setCell (ad := ⟨w.heap.size, 1, none⟩) (Or.inl rfl) _) (fun j hj e => by have := hj.2; omega)).mono (fun _ _ hf => hf.1)
    · exact Only.of_below ((HB0.out.setCell (Nat.le_refl _) _).setCell (Nat.le_refl _) _) (Nat.le_refl _) _
  case false =>
    have HE : Hid (feedE s = 0) := by show _ = _; unfold feedE; rw [hb]; rfl
    rw [HE.out] at HC
    obtain ⟨⟨cd, p, sz, er⟩, hr⟩ : ∃ r, readV s.held m = r := ⟨_, rfl⟩
    have HR := Lib.hid hr
    have HG : Hid (∀ v, Below w0.heap.size w0 v → Calls Try.prog 30 #[.slice A s.held.length c, .int .i64 m] v (readPostM v (readV s.held m))) := fun v hv =>
      fread_m A s.held c m v (HRB.out.below hv (Nat.le_refl _)) (by omega) hlen (by omega) (by omega)
    have hf0 : ∀ v, Below w0.heap.size w0 v → v.cell? ⟨g, 0, none⟩ = some (.int .i64 m) := fun v hv => by rw [hv.cell (p := ⟨g, 0, none⟩) HD0.out.lt]; exact CC.out.c0
    have hf1 : ∀ v, Below w0.heap.size w0 v → v.cell? ⟨g, 1, none⟩ = some (.slice A s.held.length c) := fun v hv => by rw [hv.cell (p := ⟨g, 1, none⟩) HD0.out.lt]; exact CC.out.c1
    clear hr
    go_enter Try.func15, Try.ntmps15
    go_wp2_with fail
    rw [← hw0]
    clear hw0
    refine HC.out.mono ?_
    rintro e w' ⟨rfl, rfl⟩
    go_wp2_with fail
    refine wp_region_noPanic ?_
    refine wp_region_held_drew (S := fun v => Below w0.heap.size w0 v) (by kernel_rfl) ((Below.refl _ _).drew) (fun hHeld => ?_)
    refine wpAnyH_take (i := 0) (oi := ⟨some 15, _, _, _, _, _⟩) (v := ?_) rfl (by kernel_rfl) (by kernel_rfl) (by kernel_rfl) (fun _ _ _ h => h) (Or.inl ⟨by rfl, ?_⟩) (by assumption) ?_
    rotate_left
    · intro w hSw; go_simp; first | done | with_reducible rfl
    try simp only [Act.put, List.setIfInBounds_toArray, List.set_cons_zero, List.set_cons_succ]
    refine wpAnyH_take (i := 1) (oi := ⟨some 16, _, _, _, _, _⟩) (v := ?_) rfl (by kernel_rfl) (by kernel_rfl) (by kernel_rfl) (fun _ _ _ h => h) (Or.inl ⟨by rfl, ?_⟩) (by assumption) ?_
    rotate_left
    · intro w hSw; go_simp; first | done | with_reducible rfl
    try simp only [Act.put, List.setIfInBounds_toArray, List.set_cons_zero, List.set_cons_succ]
    refine wpAnyH_take (i := 2) (oi := ⟨some 17, _, _, _, _, _⟩) (v := ?_) rfl (by kernel_rfl) (by kernel_rfl) (by kernel_rfl) (fun _ _ _ h => h) (Or.inl ⟨by rfl, ?_⟩) (by assumption) ?_
    rotate_left
    · intro w hSw; go_simp; first | done | with_reducible rfl
    try simp only [Act.put, List.setIfInBounds_toArray, List.set_cons_zero, List.set_cons_succ]
    refine wpAnyH_take (i := 3) (oi := ⟨some 18, _, _, _, _, _⟩) (v := ?_) rfl (by kernel_rfl) (by kernel_rfl) (by kernel_rfl) (fun _ _ _ h => h) (Or.inl ⟨by rfl, ?_⟩) (by assumption) ?_
    rotate_left
    · intro w hSw; go_simp; first | done | with_reducible rfl
    try simp only [Act.put, List.setIfInBounds_toArray, List.set_cons_zero, List.set_cons_succ]
    refine wpAnyH_take (i := 4) (oi := ⟨some 19, _, _, _, _, _⟩) (v := ?_) rfl (by kernel_rfl) (by kernel_rfl) (by kernel_rfl) (fun _ _ _ h => h) (Or.inl ⟨by rfl, ?_⟩) (by assumption) ?_
    rotate_left
    · intro w hSw; go_simp; first | done | with_reducible rfl
    try simp only [Act.put, List.setIfInBounds_toArray, List.set_cons_zero, List.set_cons_succ]
    refine wpAnyH_take (i := 5) (oi := ⟨some 20, _, _, _, _, _⟩) (v := ?_) rfl (by kernel_rfl) (by kernel_rfl) (by kernel_rfl) (fun _ _ _ h => h) (Or.inl ⟨by rfl, ?_⟩) (by assumption) ?_
    rotate_left
    · intro w hSw; go_simp; first | done | with_reducible rfl
    try simp only [Act.put, List.setIfInBounds_toArray, List.set_cons_zero, List.set_cons_succ]
    refine wpAnyH_take (i := 6) (oi := ⟨some 21, _, _, _, _, _⟩) (v := ?_) rfl (by kernel_rfl) (by kernel_rfl) (by kernel_rfl) (fun _ _ _ h => h) (Or.inl ⟨by rfl, ?_⟩) (by assumption) ?_
    rotate_left
    · intro w hSw; go_simp; first | done | with_reducible rfl
    try simp only [Act.put, List.setIfInBounds_toArray, List.set_cons_zero, List.set_cons_succ]
    refine wpAnyH_take (i := 7) (oi := ⟨some 22, _, _, _, _, _⟩) (v := ?_) rfl (by kernel_rfl) (by kernel_rfl) (by kernel_rfl) (fun _ _ _ h => h) (Or.inl ⟨by rfl, ?_⟩) (by assumption) ?_
    rotate_left
    · intro w hSw; go_simp; first | done | with_reducible rfl
    try simp only [Act.put, List.setIfInBounds_toArray, List.set_cons_zero, List.set_cons_succ]
    refine wpAnyH_ready (rs := [8, 13]) (by kernel_rfl) (by simp) ?_
    refine AllReadyH.cons (o := ⟨some 23, _, _, _, _, _⟩) rfl (fun K hK => ?wa) (AllReadyH.cons (o := ⟨some 5, _, _, _, _, _⟩) rfl (fun K hK => ?wb) AllReadyH.nil)
    case' wa =>
      go_simp
      refine (HG.out _ hHeld).mono ?_
      rintro e w1 ⟨V, vc, rfl, hv, hbw⟩
      have HB1 := Lib.hid (step0 hHeld hbw)
      have HV1 := Lib.hid (hv.mono hHeld.size)
      rw [HR.out] at HV1
      simp only at HV1
      clear hv hbw
      rw [HR.out]
      go_simp
      refine hK.out _ _ HB1.out (fun hHeld => ?_)
      clear hK K
      try simp only [Act.put, List.setIfInBounds_toArray, List.set_cons_zero, List.set_cons_succ]
      refine wpAnyH_take (i := 9) (oi := ⟨some 14, _, _, _, _, _⟩) (v := ?_) rfl (by kernel_rfl) (by kernel_rfl) (by kernel_rfl) (fun _ _ _ h => h) (Or.inl ⟨by rfl, ?_⟩) (by assumption) ?_
      rotate_left
      · intro w hSw; go_simp; first | done | with_reducible rfl
      try simp only [Act.put, List.setIfInBounds_toArray, List.set_cons_zero, List.set_cons_succ]
      refine wpAnyH_take (i := 10) (oi := ⟨some 24, _, _, _, _, _⟩) (v := ?_) rfl (by kernel_rfl) (by kernel_rfl) (by kernel_rfl) (fun _ _ _ h => h) (Or.inl ⟨by rfl, ?_⟩) (by assumption) ?_
      rotate_left
      · intro w hSw; go_simp; first | done | with_reducible rfl
      try simp only [Act.put, List.setIfInBounds_toArray, List.set_cons_zero, List.set_cons_succ]
      refine wpAnyH_take (i := 11) (oi := ⟨some 25, _, _, _, _, _⟩) (v := ?_) rfl (by kernel_rfl) (by kernel_rfl) (by kernel_rfl) (fun _ _ _ h => h) (Or.inl ⟨by rfl, ?_⟩) (by assumption) ?_
      rotate_left
      · intro w hSw; go_simp; first | done | with_reducible rfl
      try simp only [Act.put, List.setIfInBounds_toArray, List.set_cons_zero, List.set_cons_succ]
      refine wpAnyH_take (i := 12) (oi := ⟨some 26, _, _, _, _, _⟩) (v := ?_) rfl (by kernel_rfl) (by kernel_rfl) (by kernel_rfl) (fun _ _ _ h => h) (Or.inl ⟨by rfl, ?_⟩) (by assumption) ?_
      rotate_left
      · intro w hSw; go_simp; first | done | with_reducible rfl
      try simp only [Act.put, List.setIfInBounds_toArray, List.set_cons_zero, List.set_cons_succ]
      have hce := Cel.new w1 (.int .u8 0) (.slice none 0 0) 39
      refine wpAnyH_ready (rs := [13]) (by kernel_rfl) (by simp) ?_
      refine AllReadyH.cons (o := ⟨some 5, _, _, _, _, _⟩) rfl (fun K hK => ?_) AllReadyH.nil
      go_simp
      refine hK.out _ _ (HB1.out.alloc HB1.out.size _) (fun hHeld => ?_)
      clear hK K
      try simp only [Act.put, List.setIfInBounds_toArray, List.set_cons_zero, List.set_cons_succ]
      have hB2 := HB1.out.alloc HB1.out.size (.cells #[.int .u8 0, .slice none 0 0] 39)
      have HV2 := Lib.hid (HV1.out.below (below_new w1 (.cells #[.int .u8 0, .slice none 0 0] 39)) (Nat.le_refl _))
      have HNV : Hid (∀ a, V = some a → a.block ≠ w1.heap.size) := fun a e => by have := (HV1.out.base e).2.1; omega
      have HGQ : Hid (w0.heap.size ≤ w1.heap.size) := HB1.out.size
      generalize w1.heap.size = q at *
      generalize w1.alloc (.cells #[.int .u8 0, .slice none 0 0] 39) = w2 at *
      clear HV1 HB1
      have CQ0 := Lib.hid hce
      have HB2 := Lib.hid hB2
      obtain ⟨cy0, cy1, cf0, cf1⟩ := hce
      refine wpAnyH_ready (rs := [14]) (by kernel_rfl) (by simp) ?_
      refine AllReadyH.cons (o := ⟨none, _, _, _, _, _⟩) rfl (fun K hK => ?_) AllReadyH.nil
      go_simp
      refine hK.out _ _ ((HB2.out.setCell HGQ.out _).setCell HGQ.out _) (fun hHeld => ?_)
      clear hK K
      try simp only [Act.put, List.setIfInBounds_toArray, List.set_cons_zero, List.set_cons_succ]
      refine wpAnyH_take (i := 15) (oi := ⟨some 6, _, _, _, _, _⟩) (v := ?_) rfl (by kernel_rfl) (by kernel_rfl) (by kernel_rfl) (fun _ _ _ h => h) (Or.inl ⟨by rfl, ?_⟩) (by assumption) ?_
      rotate_left
      · intro w hSw; go_simp; first | done | with_reducible rfl
      try simp only [Act.put, List.setIfInBounds_toArray, List.set_cons_zero, List.set_cons_succ]
      refine wpAnyH_take (i := 16) (oi := ⟨some 7, _, _, _, _, _⟩) (v := ?_) rfl (by kernel_rfl) (by kernel_rfl) (by kernel_rfl) (fun _ _ _ h => h) (Or.inl ⟨by rfl, ?_⟩) (by assumption) ?_
      rotate_left
      · intro w hSw; go_simp; first | done | with_reducible rfl
      try simp only [Act.put, List.setIfInBounds_toArray, List.set_cons_zero, List.set_cons_succ]
      refine wpAnyH_done (by kernel_rfl) ?_ _
      refine NoPanic.normal ?_
      have CQ := Lib.hid (CQ0.out.set (.int .u8 (cd.toNat : Int)) (.slice V p.length vc))
      have HV3 := Lib.hid (HV2.out.only (((Only.refl (fun j => j = q) w2).setCell (ad := ⟨q, 0, none⟩) (Or.inl rfl) (.int .u8 (cd.toNat : Int))).setCell (ad := ⟨q, 1, none⟩) (Or.inl rfl) (.slice V p.length vc)) (fun a e hf => HNV.out a e hf))
      have HB3 : Hid (Below w0.heap.size w0 ((w2.setCell ⟨q, 0, none⟩ (.int .u8 (cd.toNat : Int))).setCell ⟨q, 1, none⟩ (.slice V p.length vc))) := (HB2.out.setCell HGQ.out _).setCell HGQ.out _
      clear hB2 hHeld HV2 HB2 CQ0 cy0 cy1 cf0 cf1
      generalize (w2.setCell ⟨q, 0, none⟩ (.int .u8 (cd.toNat : Int))).setCell ⟨q, 1, none⟩ (.slice V p.length vc) = w3 at *
    case' wb =>
      go_simp
      refine hK.out _ _ (hHeld.alloc hHeld.size _) (fun hHeld => ?_)
      clear hK K
      try simp only [Act.put, List.setIfInBounds_toArray, List.set_cons_zero, List.set_cons_succ]
      have hce0 := (Cel.new w0 (.int .u8 0) (.slice none 0 0) 39).below ((Below.refl _ _).drew) (Nat.le_refl _)
      have HZ : Hid ((w0.alloc (.cells #[.int .u8 0, .slice none 0 0] 39)).drew.heap.size = w0.heap.size + 1) := by show _ = _; simp
      generalize hw1 : (w0.alloc (.cells #[.int .u8 0, .slice none 0 0] 39)).drew = w1 at *
      refine wpAnyH_ready (rs := [8]) (by kernel_rfl) (by simp) ?_
      refine AllReadyH.cons (o := ⟨some 23, _, _, _, _, _⟩) rfl (fun K hK => ?_) AllReadyH.nil
      go_simp
      refine (HG.out _ hHeld).mono ?_
      rintro e w2 ⟨V, vc, rfl, hv, hbw⟩
      have hB2 := step0 hHeld hbw
      have HNV : Hid (∀ a, V = some a → a.block ≠ w0.heap.size) := fun a e => by have := (hv.base e).1; have := HZ.out; omega
      have HV2 := Lib.hid (hv.mono hHeld.size)
      rw [HR.out] at HV2
      simp only at HV2
      have hce := hce0.below hbw (Nat.le_refl _)
      clear hv hbw hce0
      rw [HR.out]
      go_simp
      refine hK.out _ _ hB2 (fun hHeld => ?_)
      clear hK K
      try simp only [Act.put, List.setIfInBounds_toArray, List.set_cons_zero, List.set_cons_succ]
      refine wpAnyH_take (i := 9) (oi := ⟨some 14, _, _, _, _, _⟩) (v := ?_) rfl (by kernel_rfl) (by kernel_rfl) (by kernel_rfl) (fun _ _ _ h => h) (Or.inl ⟨by rfl, ?_⟩) (by assumption) ?_
      rotate_left
      · intro w hSw; go_simp; first | done | with_reducible rfl
      try simp only [Act.put, List.setIfInBounds_toArray, List.set_cons_zero, List.set_cons_succ]
      refine wpAnyH_take (i := 10) (oi := ⟨some 24, _, _, _, _, _⟩) (v := ?_) rfl (by kernel_rfl) (by kernel_rfl) (by kernel_rfl) (fun _ _ _ h => h) (Or.inl ⟨by rfl, ?_⟩) (by assumption) ?_
      rotate_left
      · intro w hSw; go_simp; first | done | with_reducible rfl
      try simp only [Act.put, List.setIfInBounds_toArray, List.set_cons_zero, List.set_cons_succ]
      refine wpAnyH_take (i := 11) (oi := ⟨some 25, _, _, _, _, _⟩) (v := ?_) rfl (by kernel_rfl) (by kernel_rfl) (by kernel_rfl) (fun _ _ _ h => h) (Or.inl ⟨by rfl, ?_⟩) (by assumption) ?_
      rotate_left
      · intro w hSw; go_simp; first | done | with_reducible rfl
      try simp only [Act.put, List.setIfInBounds_toArray, List.set_cons_zero, List.set_cons_succ]
      refine wpAnyH_take (i := 12) (oi := ⟨some 26, _, _, _, _, _⟩) (v := ?_) rfl (by kernel_rfl) (by kernel_rfl) (by kernel_rfl) (fun _ _ _ h => h) (Or.inl ⟨by rfl, ?_⟩) (by assumption) ?_
      rotate_left
      · intro w hSw; go_simp; first | done | with_reducible rfl
      try simp only [Act.put, List.setIfInBounds_toArray, List.set_cons_zero, List.set_cons_succ]
      clear hw1 HZ
      have HGQ : Hid (w0.heap.size ≤ w0.heap.size) := Nat.le_refl _
      change Cel w2 w0.heap.size _ _ at hce
      have CQ0 := Lib.hid hce
      have HB2 := Lib.hid hB2
      obtain ⟨cy0, cy1, cf0, cf1⟩ := hce
      refine wpAnyH_ready (rs := [14]) (by kernel_rfl) (by simp) ?_
      refine AllReadyH.cons (o := ⟨none, _, _, _, _, _⟩) rfl (fun K hK => ?_) AllReadyH.nil
      go_simp
      refine hK.out _ _ ((HB2.out.setCell HGQ.out _).setCell HGQ.out _) (fun hHeld => ?_)
      clear hK K
      try simp only [Act.put, List.setIfInBounds_toArray, List.set_cons_zero, List.set_cons_succ]
      refine wpAnyH_take (i := 15) (oi := ⟨some 6, _, _, _, _, _⟩) (v := ?_) rfl (by kernel_rfl) (by kernel_rfl) (by kernel_rfl) (fun _ _ _ h => h) (Or.inl ⟨by rfl, ?_⟩) (by assumption) ?_
      rotate_left
      · intro w hSw; go_simp; first | done | with_reducible rfl
      try simp only [Act.put, List.setIfInBounds_toArray, List.set_cons_zero, List.set_cons_succ]
      refine wpAnyH_take (i := 16) (oi := ⟨some 7, _, _, _, _, _⟩) (v := ?_) rfl (by kernel_rfl) (by kernel_rfl) (by kernel_rfl) (fun _ _ _ h => h) (Or.inl ⟨by rfl, ?_⟩) (by assumption) ?_
      rotate_left
      · intro w hSw; go_simp; first | done | with_reducible rfl
      try simp only [Act.put, List.setIfInBounds_toArray, List.set_cons_zero, List.set_cons_succ]
      refine wpAnyH_done (by kernel_rfl) ?_ _
      refine NoPanic.normal ?_
      have CQ := Lib.hid (CQ0.out.set (.int .u8 (cd.toNat : Int)) (.slice V p.length vc))
      have HV3 := Lib.hid (HV2.out.only (((Only.refl (fun j => j = w0.heap.size) w2).setCell (ad := ⟨w0.heap.size, 0, none⟩) (Or.inl rfl) (.int .u8 (cd.toNat : Int))).setCell (ad := ⟨w0.heap.size, 1, none⟩) (Or.inl rfl) (.slice V p.length vc)) (fun a e hf => HNV.out a e hf))
      have HB3 : Hid (Below w0.heap.size w0 ((w2.setCell ⟨w0.heap.size, 0, none⟩ (.int .u8 (cd.toNat : Int))).setCell ⟨w0.heap.size, 1, none⟩ (.slice V p.length vc))) := (HB2.out.setCell HGQ.out _).setCell HGQ.out _
      clear hB2 hHeld HV2 HB2 CQ0 cy0 cy1 cf0 cf1
      generalize (w2.setCell ⟨w0.heap.size, 0, none⟩ (.int .u8 (cd.toNat : Int))).setCell ⟨w0.heap.size, 1, none⟩ (.slice V p.length vc) = w3 at *
      obtain ⟨q, hq⟩ : ∃ q, q = w0.heap.size := ⟨_, rfl⟩
      rw [← hq] at CQ HNV
      rw [← hq]
      clear HGQ
      have HGQ : Hid (w0.heap.size ≤ q) := by show _ ≤ _; omega
      clear hq
    all_goals
      have H13 : Hid (w3.heap[g]? = some (.cells #[.int .i64 m, .slice A s.held.length c, .bool true, .bool false] 59 (0, 0))) := by show _ = _; rw [HB3.out.block g HD0.out.lt, ← hb]; exact H1.out
      have H33 := Lib.hid (H3.out.below HB3.out (Nat.le_refl _))
      obtain ⟨c0, c1, c2, c3, f1, f3⟩ := cells_of H13.out
      have CR3 := Lib.hid (CR.out.below HB3.out (Nat.le_refl _))
      obtain ⟨cx0, cx1, cf0, cf1⟩ := CR3.out
      obtain ⟨cy0, cy1, _, _⟩ := CQ.out
      have HDL' := HDL.out
      have hq1 := HGQ.out
      have hq2 := CR.out.lt
      have n1 : ¬ g = q := by omega
      have n2 : ¬ w.heap.size = q := by omega
      have n3 : ¬ w.heap.size = g := by omega
      have O3 : Hid (Only F w w3) := Only.of_below (HB0.out.trans (HB3.out.mono HB0.out.size)) (Nat.le_refl _) _
      have HNG : Hid (nxG m s = (cd, p, er)) := by show _ = _; unfold nxG; rw [hb, HR.out]; rfl
      have HNS : Hid (nxS m s = if er = 0 then ⟨s.held.drop sz, false⟩ else if er = 6 then ⟨s.held.drop 1, false⟩ else if er = 5 then ⟨[], true⟩ else s) := by show _ = _; unfold nxS; rw [hb, HR.out]; rfl
      have HRR := Lib.hid (rb_mine H33.out)
      have HGR : Hid (w.heap.size < w0.heap.size) := hq2
      have HGG : Hid (g < w0.heap.size) := by show _ < _; omega
      clear HG hf0 hf1 HDL' hq1 hq2 hHeld
      rcases read_errs s.held HM.out with ⟨e0, hs0, hsl, hpl⟩ | ⟨_, e4⟩ | ⟨_, e5⟩ | ⟨_, e6, hpos⟩
      case' inl =>
        rw [HR.out] at e0 hs0 hsl
        simp only at e0 hs0 hsl
        subst e0
        obtain ⟨b, o, rfl, _, _⟩ := HRR.out (by omega)
        clear hpl
        have HC3 := Lib.hid (dec_cut (F := fun j => F j ∧ j < w.heap.size) H13.out H2.out H33.out H4.out sz hsl)
        by_cases hcs : c = sz
        · subst hcs
          rw [cut_same, show s.held.length - c = 0 from by omega, show c - c = 0 from by omega] at HC3
          go_wp2_with fail
          refine bodyPost_ret (v := .tuple #[.agg #[.int .u8 (cd.toNat : Int), .slice V p.length vc], .int .i64 0]) (by simp [results, Try.results15, go_sem, cx0, cx1]) rfl ⟨V, vc, by rw [HNG.out]; rfl, ?_, ?_, ?_⟩
          · rw [HNG.out]; exact (mine_out HV3.out HGR.out HGG.out _ _ _).mono HB0.out.size
          · rw [HNS.out]; exact dec_out HC3.out _ _
          · exact ((O3.out.setCell (ad := ⟨g, 1, none⟩) (Or.inl H2.out.1) _).setCell (ad := ⟨w.heap.size, 0, none⟩) (Or.inr (Nat.le_refl _)) _).setCell (ad := ⟨w.heap.size, 1, none⟩) (Or.inr (Nat.le_refl _)) _
        · rw [cut_more _ _ hcs] at HC3
          go_wp2_with fail
          refine bodyPost_ret (v := .tuple #[.agg #[.int .u8 (cd.toNat : Int), .slice V p.length vc], .int .i64 0]) (by simp [results, Try.results15, go_sem, cx0, cx1]) rfl ⟨V, vc, by rw [HNG.out]; rfl, ?_, ?_, ?_⟩
          · rw [HNG.out]; exact (mine_out HV3.out HGR.out HGG.out _ _ _).mono HB0.out.size
          · rw [HNS.out]; exact dec_out HC3.out _ _
          · exact ((O3.out.setCell (ad := ⟨g, 1, none⟩) (Or.inl H2.out.1) _).setCell (ad := ⟨w.heap.size, 0, none⟩) (Or.inr (Nat.le_refl _)) _).setCell (ad := ⟨w.heap.size, 1, none⟩) (Or.inr (Nat.le_refl _)) _
      case' inr.inl =>
        rw [HR.out] at e4
        simp only [Prod.mk.injEq] at e4
        obtain ⟨rfl, rfl, rfl, rfl⟩ := e4
        go_wp2_with fail
        refine bodyPost_ret (v := .tuple #[.agg #[.int .u8 0, .slice V 0 vc], .int .i64 4]) (by simp [results, Try.results15, go_sem, cx0, cx1]) rfl ⟨V, vc, by rw [HNG.out]; rfl, ?_, ?_, ?_⟩
        · rw [HNG.out]; exact (mine_two HV3.out HGR.out _ _).mono HB0.out.size
        · rw [HNS.out]; exact dec_out (HD0.out.below HB3.out (Nat.le_refl _)) _ _
        · exact (O3.out.setCell (ad := ⟨w.heap.size, 0, none⟩) (Or.inr (Nat.le_refl _)) _).setCell (ad := ⟨w.heap.size, 1, none⟩) (Or.inr (Nat.le_refl _)) _
      case' inr.inr.inl =>
        rw [HR.out] at e5
        simp only [Prod.mk.injEq] at e5
        obtain ⟨rfl, rfl, rfl, rfl⟩ := e5
        have HC3 := Lib.hid (dec_end (F := fun j => F j ∧ j < w.heap.size) H13.out H2.out)
        go_wp2_with fail
        refine bodyPost_ret (v := .tuple #[.agg #[.int .u8 0, .slice V 0 vc], .int .i64 5]) (by simp [results, Try.results15, go_sem, cx0, cx1]) rfl ⟨V, vc, by rw [HNG.out]; rfl, ?_, ?_, ?_⟩
        · rw [HNG.out]; exact (mine_out (mine_one HV3.out HGG.out _) HGR.out HGG.out _ _ _).mono HB0.out.size
        · rw [HNS.out]; exact dec_out HC3.out _ _
        · exact (((O3.out.setCell (ad := ⟨g, 1, none⟩) (Or.inl H2.out.1) _).setCell (ad := ⟨g, 3, none⟩) (Or.inl H2.out.1) _).setCell (ad := ⟨w.heap.size, 0, none⟩) (Or.inr (Nat.le_refl _)) _).setCell (ad := ⟨w.heap.size, 1, none⟩) (Or.inr (Nat.le_refl _)) _
      case' inr.inr.inr =>
        rw [HR.out] at e6
        simp only [Prod.mk.injEq] at e6
        obtain ⟨rfl, rfl, rfl, rfl⟩ := e6
        obtain ⟨b, o, rfl, _, _⟩ := HRR.out hpos
        have HC3 := Lib.hid (dec_cut (F := fun j => F j ∧ j < w.heap.size) H13.out H2.out H33.out H4.out 1 hpos)
        by_cases hcs : c = 1
        · subst hcs
          rw [cut_same, show s.held.length - 1 = 0 from by omega] at HC3
          go_wp2_with fail
          refine bodyPost_ret (v := .tuple #[.agg #[.int .u8 0, .slice V 0 vc], .int .i64 6]) (by simp [results, Try.results15, go_sem, cx0, cx1]) rfl ⟨V, vc, by rw [HNG.out]; rfl, ?_, ?_, ?_⟩
          · rw [HNG.out]; exact (mine_out HV3.out HGR.out HGG.out _ _ _).mono HB0.out.size
          · rw [HNS.out]; exact dec_out HC3.out _ _
          · exact ((O3.out.setCell (ad := ⟨g, 1, none⟩) (Or.inl H2.out.1) _).setCell (ad := ⟨w.heap.size, 0, none⟩) (Or.inr (Nat.le_refl _)) _).setCell (ad := ⟨w.heap.size, 1, none⟩) (Or.inr (Nat.le_refl _)) _
        · rw [cut_more _ _ hcs] at HC3
          go_wp2_with fail
          refine bodyPost_ret (v := .tuple #[.agg #[.int .u8 0, .slice V 0 vc], .int .i64 6]) (by simp [results, Try.results15, go_sem, cx0, cx1]) rfl ⟨V, vc, by rw [HNG.out]; rfl, ?_, ?_, ?_⟩
          · rw [HNG.out]; exact (mine_out HV3.out HGR.out HGG.out _ _ _).mono HB0.out.size
          · rw [HNS.out]; exact dec_out HC3.out _ _
          · exact ((O3.out.setCell (ad := ⟨g, 1, none⟩) (Or.inl H2.out.1) _).setCell (ad := ⟨w.heap.size, 0, none⟩) (Or.inr (Nat.le_refl _)) _).setCell (ad := ⟨w.heap.size, 1, none⟩) (Or.inr (Nat.le_refl _)) _
end Go.Proofs.Ytmphielkohnpgaa.Dn
