/- Proves what Need of a decoder returns: how many bytes are missing at least; nothing older changes. Conditions: few bytes. -/
import Derived.Test.YtmphielkohnpgaaDn
import Derived.Test.YtmphielkohnpgaaVg
namespace Go.Proofs.Ytmphielkohnpgaa.De
open Go.RowKit Vm Ap Vw Va Vc Vg Gc Fm Fw Mi Mb Fr Dm Dd Dn

theorem read_four {l : Bs} {m : Int} (hm : okM m) (h : (readV l m).2.2.2 = 4) (h0 : getE l = 0) : (getN l : Int) ≤ m + 1 ∧ l.length - getS l < getN l := by
  by_cases h3 : getN l = 0
  · rw [read_zero hm h0 h3] at h; simp at h
  · by_cases h4 : m + 1 < (getN l : Int)
    · rw [read_long hm h0 h3 h4] at h; simp at h
    · by_cases h5 : l.length - getS l < getN l
      · exact ⟨by omega, h5⟩
      · rw [read_ok hm h0 h3 h4 h5] at h; simp at h
def intOfN (n : Nat) (w : World) : Ending → World → Prop := fun e w' => e = .returned (.int .i64 (n : Int)) ∧ Below w.heap.size w w'
set_option maxRecDepth 100000 in
set_option maxHeartbeats 4000000 in
theorem need_any {F : Nat → Prop} {w0 : World} {g : Nat} {m : Int} {s : St} (hm : okM m) (h : Dec F w0 g m s) (hs : s.held.length ≤ 100000000) :
    Calls Try.prog 19 #[.pointer (some ⟨g, 0, none⟩)] w0 (intOfN (need m s) w0) := by
  have HC := Lib.hid (check_any h)
  have HD0 := Lib.hid h
  obtain ⟨A, c, h1, h2, h3, h4⟩ := h.has
  have CC := Lib.hid (cells_of h1)
  have hlen := h3.le
  have hcm := h3.max
  unfold maxLen at hcm
  have hm1 : 0 ≤ m := by unfold okM at hm; omega
  have hm2 : m ≤ 2097152 := by unfold okM at hm; omega
  have HM := Lib.hid hm
  have HRB := Lib.hid (rb_mine h3)
  clear h h1 h2 h3 h4 hm
  cases hb : s.shut
  case true =>
    have HN : Hid (need m s = 0) := by show _ = _; unfold need; rw [hb]; rfl
    have HE : Hid (feedE s = 14) := by show _ = _; unfold feedE; rw [hb]; rfl
    rw [HE.out] at HC
    go_enter Try.func19, Try.ntmps19
    go_wp2_with fail
    refine HC.out.mono ?_
    rintro e w' ⟨rfl, rfl⟩
    go_wp2_with fail
    go_ret
    exact ⟨by rw [HN.out]; rfl, Below.refl _ _⟩
  case false =>
    have HE : Hid (feedE s = 0) := by show _ = _; unfold feedE; rw [hb]; rfl
    rw [HE.out] at HC
    obtain ⟨⟨cd, p, sz, er⟩, hr⟩ : ∃ r, readV s.held m = r := ⟨_, rfl⟩
    have HR := Lib.hid hr
    have HG : Hid (∀ v, Below w0.heap.size w0 v → Calls Try.prog 30 #[.slice A s.held.length c, .int .i64 m] v (readPostM v (readV s.held m))) := fun v hv =>
      fread_m A s.held c m v (HRB.out.below hv (Nat.le_refl _)) (by omega) hlen (by omega) (by omega)
    have hf0 : ∀ v, Below w0.heap.size w0 v → v.cell? ⟨g, 0, none⟩ = some (.int .i64 m) := fun v hv => by rw [hv.cell (p := ⟨g, 0, none⟩) HD0.out.lt]; exact CC.out.c0
    have hf1 : ∀ v, Below w0.heap.size w0 v → v.cell? ⟨g, 1, none⟩ = some (.slice A s.held.length c) := fun v hv => by rw [hv.cell (p := ⟨g, 1, none⟩) HD0.out.lt]; exact CC.out.c1
    clear hr
    go_enter Try.func19, Try.ntmps19
    go_wp2_with fail
    refine HC.out.mono ?_
    rintro e w' ⟨rfl, rfl⟩
    go_wp2_with fail
    refine wp_region_noPanic ?_
    refine wp_region_held_drew (S := fun v => Below w0.heap.size w0 v) (by kernel_rfl) ((Below.refl _ _).drew) (fun hHeld => ?_)
    refine wpAnyH_take (i := 0) (oi := ⟨some 13, _, _, _, _, _⟩) (v := ?_) rfl (by kernel_rfl) (by kernel_rfl) (by kernel_rfl) (fun _ _ _ h => h) (Or.inl ⟨by rfl, ?_⟩) (by assumption) ?_
    rotate_left
    · intro w hSw; go_simp; first | done | with_reducible rfl
    try simp only [Act.put, List.setIfInBounds_toArray, List.set_cons_zero, List.set_cons_succ]
    refine wpAnyH_take (i := 1) (oi := ⟨some 14, _, _, _, _, _⟩) (v := ?_) rfl (by kernel_rfl) (by kernel_rfl) (by kernel_rfl) (fun _ _ _ h => h) (Or.inl ⟨by rfl, ?_⟩) (by assumption) ?_
    rotate_left
    · intro w hSw; go_simp; first | done | with_reducible rfl
    try simp only [Act.put, List.setIfInBounds_toArray, List.set_cons_zero, List.set_cons_succ]
    refine wpAnyH_take (i := 2) (oi := ⟨some 15, _, _, _, _, _⟩) (v := ?_) rfl (by kernel_rfl) (by kernel_rfl) (by kernel_rfl) (fun _ _ _ h => h) (Or.inl ⟨by rfl, ?_⟩) (by assumption) ?_
    rotate_left
    · intro w hSw; go_simp; first | done | with_reducible rfl
    try simp only [Act.put, List.setIfInBounds_toArray, List.set_cons_zero, List.set_cons_succ]
    refine wpAnyH_take (i := 3) (oi := ⟨some 16, _, _, _, _, _⟩) (v := ?_) rfl (by kernel_rfl) (by kernel_rfl) (by kernel_rfl) (fun _ _ _ h => h) (Or.inl ⟨by rfl, ?_⟩) (by assumption) ?_
    rotate_left
    · intro w hSw; go_simp; first | done | with_reducible rfl
    try simp only [Act.put, List.setIfInBounds_toArray, List.set_cons_zero, List.set_cons_succ]
    refine wpAnyH_take (i := 4) (oi := ⟨some 17, _, _, _, _, _⟩) (v := ?_) rfl (by kernel_rfl) (by kernel_rfl) (by kernel_rfl) (fun _ _ _ h => h) (Or.inl ⟨by rfl, ?_⟩) (by assumption) ?_
    rotate_left
    · intro w hSw; go_simp; first | done | with_reducible rfl
    try simp only [Act.put, List.setIfInBounds_toArray, List.set_cons_zero, List.set_cons_succ]
    refine wpAnyH_take (i := 5) (oi := ⟨some 18, _, _, _, _, _⟩) (v := ?_) rfl (by kernel_rfl) (by kernel_rfl) (by kernel_rfl) (fun _ _ _ h => h) (Or.inl ⟨by rfl, ?_⟩) (by assumption) ?_
    rotate_left
    · intro w hSw; go_simp; first | done | with_reducible rfl
    try simp only [Act.put, List.setIfInBounds_toArray, List.set_cons_zero, List.set_cons_succ]
    refine wpAnyH_take (i := 6) (oi := ⟨some 19, _, _, _, _, _⟩) (v := ?_) rfl (by kernel_rfl) (by kernel_rfl) (by kernel_rfl) (fun _ _ _ h => h) (Or.inl ⟨by rfl, ?_⟩) (by assumption) ?_
    rotate_left
    · intro w hSw; go_simp; first | done | with_reducible rfl
    try simp only [Act.put, List.setIfInBounds_toArray, List.set_cons_zero, List.set_cons_succ]
    refine wpAnyH_take (i := 7) (oi := ⟨some 20, _, _, _, _, _⟩) (v := ?_) rfl (by kernel_rfl) (by kernel_rfl) (by kernel_rfl) (fun _ _ _ h => h) (Or.inl ⟨by rfl, ?_⟩) (by assumption) ?_
    rotate_left
    · intro w hSw; go_simp; first | done | with_reducible rfl
    try simp only [Act.put, List.setIfInBounds_toArray, List.set_cons_zero, List.set_cons_succ]
    refine wpAnyH_ready (rs := [8, 13]) (by kernel_rfl) (by simp) ?_
    refine AllReadyH.cons (o := ⟨some 21, _, _, _, _, _⟩) rfl (fun K hK => ?wa) (AllReadyH.cons (o := ⟨some 3, _, _, _, _, _⟩) rfl (fun K hK => ?wb) AllReadyH.nil)
    case' wa =>
      go_simp
      refine (HG.out _ hHeld).mono ?_
      rintro e w1 ⟨V, vc, rfl, hv, hbw⟩
      have HB1 := Lib.hid (step0 hHeld hbw)
      have HV1 := Lib.hid (hv.mono hHeld.size)
      rw [HR.out] at HV1
      simp only at HV1
      clear hv hbw
      rw [HR.out]
      go_simp
      refine hK.out _ _ HB1.out (fun hHeld => ?_)
      clear hK K
      try simp only [Act.put, List.setIfInBounds_toArray, List.set_cons_zero, List.set_cons_succ]
      refine wpAnyH_take (i := 9) (oi := ⟨some 12, _, _, _, _, _⟩) (v := ?_) rfl (by kernel_rfl) (by kernel_rfl) (by kernel_rfl) (fun _ _ _ h => h) (Or.inl ⟨by rfl, ?_⟩) (by assumption) ?_
      rotate_left
      · intro w hSw; go_simp; first | done | with_reducible rfl
      try simp only [Act.put, List.setIfInBounds_toArray, List.set_cons_zero, List.set_cons_succ]
      refine wpAnyH_take (i := 10) (oi := ⟨some 22, _, _, _, _, _⟩) (v := ?_) rfl (by kernel_rfl) (by kernel_rfl) (by kernel_rfl) (fun _ _ _ h => h) (Or.inl ⟨by rfl, ?_⟩) (by assumption) ?_
      rotate_left
      · intro w hSw; go_simp; first | done | with_reducible rfl
      try simp only [Act.put, List.setIfInBounds_toArray, List.set_cons_zero, List.set_cons_succ]
      refine wpAnyH_take (i := 11) (oi := ⟨some 23, _, _, _, _, _⟩) (v := ?_) rfl (by kernel_rfl) (by kernel_rfl) (by kernel_rfl) (fun _ _ _ h => h) (Or.inl ⟨by rfl, ?_⟩) (by assumption) ?_
      rotate_left
      · intro w hSw; go_simp; first | done | with_reducible rfl
      try simp only [Act.put, List.setIfInBounds_toArray, List.set_cons_zero, List.set_cons_succ]
      refine wpAnyH_take (i := 12) (oi := ⟨some 24, _, _, _, _, _⟩) (v := ?_) rfl (by kernel_rfl) (by kernel_rfl) (by kernel_rfl) (fun _ _ _ h => h) (Or.inl ⟨by rfl, ?_⟩) (by assumption) ?_
      rotate_left
      · intro w hSw; go_simp; first | done | with_reducible rfl
      try simp only [Act.put, List.setIfInBounds_toArray, List.set_cons_zero, List.set_cons_succ]
      have hce := Cel.new w1 (.int .u8 0) (.slice none 0 0) 39
      refine wpAnyH_ready (rs := [13]) (by kernel_rfl) (by simp) ?_
      refine AllReadyH.cons (o := ⟨some 3, _, _, _, _, _⟩) rfl (fun K hK => ?_) AllReadyH.nil
      go_simp
      refine hK.out _ _ (HB1.out.alloc HB1.out.size _) (fun hHeld => ?_)
      clear hK K
      try simp only [Act.put, List.setIfInBounds_toArray, List.set_cons_zero, List.set_cons_succ]
      have hB2 := HB1.out.alloc HB1.out.size (.cells #[.int .u8 0, .slice none 0 0] 39)
      have HV2 := Lib.hid (HV1.out.below (below_new w1 (.cells #[.int .u8 0, .slice none 0 0] 39)) (Nat.le_refl _))
      have HNV : Hid (∀ a, V = some a → a.block ≠ w1.heap.size) := fun a e => by have := (HV1.out.base e).2.1; omega
      have HGQ : Hid (w0.heap.size ≤ w1.heap.size) := HB1.out.size
      generalize w1.heap.size = q at *
      generalize w1.alloc (.cells #[.int .u8 0, .slice none 0 0] 39) = w2 at *
      clear HV1 HB1
      have CQ0 := Lib.hid hce
      have HB2 := Lib.hid hB2
      obtain ⟨cy0, cy1, cf0, cf1⟩ := hce
      refine wpAnyH_ready (rs := [14]) (by kernel_rfl) (by simp) ?_
      refine AllReadyH.cons (o := ⟨none, _, _, _, _, _⟩) rfl (fun K hK => ?_) AllReadyH.nil
      go_simp
      refine hK.out _ _ ((HB2.out.setCell HGQ.out _).setCell HGQ.out _) (fun hHeld => ?_)
      clear hK K
      try simp only [Act.put, List.setIfInBounds_toArray, List.set_cons_zero, List.set_cons_succ]
      refine wpAnyH_take (i := 15) (oi := ⟨some 4, _, _, _, _, _⟩) (v := ?_) rfl (by kernel_rfl) (by kernel_rfl) (by kernel_rfl) (fun _ _ _ h => h) (Or.inl ⟨by rfl, ?_⟩) (by assumption) ?_
      rotate_left
      · intro w hSw; go_simp; first | done | with_reducible rfl
      try simp only [Act.put, List.setIfInBounds_toArray, List.set_cons_zero, List.set_cons_succ]
      refine wpAnyH_take (i := 16) (oi := ⟨some 5, _, _, _, _, _⟩) (v := ?_) rfl (by kernel_rfl) (by kernel_rfl) (by kernel_rfl) (fun _ _ _ h => h) (Or.inl ⟨by rfl, ?_⟩) (by assumption) ?_
      rotate_left
      · intro w hSw; go_simp; first | done | with_reducible rfl
      try simp only [Act.put, List.setIfInBounds_toArray, List.set_cons_zero, List.set_cons_succ]
      refine wpAnyH_done (by kernel_rfl) ?_ _
      refine NoPanic.normal ?_
      have CQ := Lib.hid (CQ0.out.set (.int .u8 (cd.toNat : Int)) (.slice V p.length vc))
      have HV3 := Lib.hid (HV2.out.only (((Only.refl (fun j => j = q) w2).setCell (ad := ⟨q, 0, none⟩) (Or.inl rfl) (.int .u8 (cd.toNat : Int))).setCell (ad := ⟨q, 1, none⟩) (Or.inl rfl) (.slice V p.length vc)) (fun a e hf => HNV.out a e hf))
      have HB3 : Hid (Below w0.heap.size w0 ((w2.setCell ⟨q, 0, none⟩ (.int .u8 (cd.toNat : Int))).setCell ⟨q, 1, none⟩ (.slice V p.length vc))) := (HB2.out.setCell HGQ.out _).setCell HGQ.out _
      clear hB2 hHeld HV2 HB2 CQ0 cy0 cy1 cf0 cf1
      generalize (w2.setCell ⟨q, 0, none⟩ (.int .u8 (cd.toNat : Int))).setCell ⟨q, 1, none⟩ (.slice V p.length vc) = w3 at *
    case' wb =>
      go_simp
      refine hK.out _ _ (hHeld.alloc hHeld.size _) (fun hHeld => ?_)
      clear hK K
      try simp only [Act.put, List.setIfInBounds_toArray, List.set_cons_zero, List.set_cons_succ]
      have hce0 := (Cel.new w0 (.int .u8 0) (.slice none 0 0) 39).below ((Below.refl _ _).drew) (Nat.le_refl _)
      have HZ : Hid ((w0.alloc (.cells #[.int .u8 0, .slice none 0 0] 39)).drew.heap.size = w0.heap.size + 1) := by show _ = _; simp
      generalize hw1 : (w0.alloc (.cells #[.int .u8 0, .slice none 0 0] 39)).drew = w1 at *
      refine wpAnyH_ready (rs := [8]) (by kernel_rfl) (by simp) ?_
      refine AllReadyH.cons (o := ⟨some 21, _, _, _, _, _⟩) rfl (fun K hK => ?_) AllReadyH.nil
      go_simp
      refine (HG.out _ hHeld).mono ?_
      rintro e w2 ⟨V, vc, rfl, hv, hbw⟩
      have hB2 := step0 hHeld hbw
      have HNV : Hid (∀ a, V = some a → a.block ≠ w0.heap.size) := fun a e => by have := (hv.base e).1; have := HZ.out; omega
      have HV2 := Lib.hid (hv.mono hHeld.size)
      rw [HR.out] at HV2
      simp only at HV2
      have hce := hce0.below hbw (Nat.le_refl _)
      clear hv hbw hce0
      rw [HR.out]
      go_simp
      refine hK.out _ _ hB2 (fun hHeld => ?_)
      clear hK K
      try simp only [Act.put, List.setIfInBounds_toArray, List.set_cons_zero, List.set_cons_succ]
      refine wpAnyH_take (i := 9) (oi := ⟨some 12, _, _, _, _, _⟩) (v := ?_) rfl (by kernel_rfl) (by kernel_rfl) (by kernel_rfl) (fun _ _ _ h => h) (Or.inl ⟨by rfl, ?_⟩) (by assumption) ?_
      rotate_left
      · intro w hSw; go_simp; first | done | with_reducible rfl
      try simp only [Act.put, List.setIfInBounds_toArray, List.set_cons_zero, List.set_cons_succ]
      refine wpAnyH_take (i := 10) (oi := ⟨some 22, _, _, _, _, _⟩) (v := ?_) rfl (by kernel_rfl) (by kernel_rfl) (by kernel_rfl) (fun _ _ _ h => h) (Or.inl ⟨by rfl, ?_⟩) (by assumption) ?_
      rotate_left
      · intro w hSw; go_simp; first | done | with_reducible rfl
      try simp only [Act.put, List.setIfInBounds_toArray, List.set_cons_zero, List.set_cons_succ]
      refine wpAnyH_take (i := 11) (oi := ⟨some 23, _, _, _, _, _⟩) (v := ?_) rfl (by kernel_rfl) (by kernel_rfl) (by kernel_rfl) (fun _ _ _ h => h) (Or.inl ⟨by rfl, ?_⟩) (by assumption) ?_
      rotate_left
      · intro w hSw; go_simp; first | done | with_reducible rfl
      try simp only [Act.put, List.setIfInBounds_toArray, List.set_cons_zero, List.set_cons_succ]
      refine wpAnyH_take (i := 12) (oi := ⟨some 24, _, _, _, _, _⟩) (v := ?_) rfl (by kernel_rfl) (by kernel_rfl) (by kernel_rfl) (fun _ _ _ h => h) (Or.inl ⟨by rfl, ?_⟩) (by assumption) ?_
      rotate_left
      · intro w hSw; go_simp; first | done | with_reducible rfl
      try simp only [Act.put, List.setIfInBounds_toArray, List.set_cons_zero, List.set_cons_succ]
      clear hw1 HZ
      have HGQ : Hid (w0.heap.size ≤ w0.heap.size) := Nat.le_refl _
      change Cel w2 w0.heap.size _ _ at hce
      have CQ0 := Lib.hid hce
      have HB2 := Lib.hid hB2
      obtain ⟨cy0, cy1, cf0, cf1⟩ := hce
      refine wpAnyH_ready (rs := [14]) (by kernel_rfl) (by simp) ?_
      refine AllReadyH.cons (o := ⟨none, _, _, _, _, _⟩) rfl (fun K hK => ?_) AllReadyH.nil
      go_simp
      refine hK.out _ _ ((HB2.out.setCell HGQ.out _).setCell HGQ.out _) (fun hHeld => ?_)
      clear hK K
      try simp only [Act.put, List.setIfInBounds_toArray, List.set_cons_zero, List.set_cons_succ]
      refine wpAnyH_take (i := 15) (oi := ⟨some 4, _, _, _, _, _⟩) (v := ?_) rfl (by kernel_rfl) (by kernel_rfl) (by kernel_rfl) (fun _ _ _ h => h) (Or.inl ⟨by rfl, ?_⟩) (by assumption) ?_
      rotate_left
      · intro w hSw; go_simp; first | done | with_reducible rfl
      try simp only [Act.put, List.setIfInBounds_toArray, List.set_cons_zero, List.set_cons_succ]
      refine wpAnyH_take (i := 16) (oi := ⟨some 5, _, _, _, _, _⟩) (v := ?_) rfl (by kernel_rfl) (by kernel_rfl) (by kernel_rfl) (fun _ _ _ h => h) (Or.inl ⟨by rfl, ?_⟩) (by assumption) ?_
      rotate_left
      · intro w hSw; go_simp; first | done | with_reducible rfl
      try simp only [Act.put, List.setIfInBounds_toArray, List.set_cons_zero, List.set_cons_succ]
      refine wpAnyH_done (by kernel_rfl) ?_ _
      refine NoPanic.normal ?_
      have CQ := Lib.hid (CQ0.out.set (.int .u8 (cd.toNat : Int)) (.slice V p.length vc))
      have HV3 := Lib.hid (HV2.out.only (((Only.refl (fun j => j = w0.heap.size) w2).setCell (ad := ⟨w0.heap.size, 0, none⟩) (Or.inl rfl) (.int .u8 (cd.toNat : Int))).setCell (ad := ⟨w0.heap.size, 1, none⟩) (Or.inl rfl) (.slice V p.length vc)) (fun a e hf => HNV.out a e hf))
      have HB3 : Hid (Below w0.heap.size w0 ((w2.setCell ⟨w0.heap.size, 0, none⟩ (.int .u8 (cd.toNat : Int))).setCell ⟨w0.heap.size, 1, none⟩ (.slice V p.length vc))) := (HB2.out.setCell HGQ.out _).setCell HGQ.out _
      clear hB2 hHeld HV2 HB2 CQ0 cy0 cy1 cf0 cf1
      generalize (w2.setCell ⟨w0.heap.size, 0, none⟩ (.int .u8 (cd.toNat : Int))).setCell ⟨w0.heap.size, 1, none⟩ (.slice V p.length vc) = w3 at *
      obtain ⟨q, hq⟩ : ∃ q, q = w0.heap.size := ⟨_, rfl⟩
      rw [← hq] at CQ HNV
      rw [← hq]
      clear HGQ
      have HGQ : Hid (w0.heap.size ≤ q) := by show _ ≤ _; omega
      clear hq
    all_goals
      have c1 := hf1 _ HB3.out
      have HNN : Hid (need m s = if er ≠ 4 then 0 else if getE s.held ≠ 0 then 1 else getS s.held + getN s.held - s.held.length) := by show _ = _; unfold need; rw [hb, HR.out]; rfl
      have HGG := Lib.hid (get_any A s.held c w3 (HRB.out.below HB3.out (Nat.le_refl _)) (by omega))
      clear HG hf0 hf1 hHeld
      by_cases h4 : er = 4
      case' neg =>
        have hne : ((er : Int) != 4) = true := by rw [bne_iff_ne]; omega
        have HN0 : Hid (need m s = 0) := by show _ = _; rw [HNN.out, if_pos h4]
        clear h4
        go_wp2_with fail
        go_ret
        exact ⟨by rw [HN0.out]; rfl, HB3.out⟩
      case' pos =>
        subst h4
        have H4 : Hid ((readV s.held m).2.2.2 = 4) := by show _ = _; rw [HR.out]
        by_cases he : getE s.held = 0
        case' neg =>
          obtain ⟨e1, e2, e3⟩ := get_no s.held he
          have HGR : Hid (getR s.held = .tuple #[.int .u64 0, .int .i64 0, .int .i64 (getE s.held : Int)]) := by show _ = _; unfold getR; rw [e2, e3]; rfl
          have hne : ((getE s.held : Int) != 0) = true := by rw [bne_iff_ne]; omega
          have HN1 : Hid (need m s = 1) := by show _ = _; rw [HNN.out, if_neg (by simp), if_pos he]
          clear he e1 e2 e3
          go_wp2_with fail
          refine HGG.out.mono ?_
          rintro e w' ⟨rfl, rfl⟩
          rw [HGR.out]
          go_wp2_with fail
          go_ret
          exact ⟨by rw [HN1.out]; rfl, HB3.out⟩
        case' pos =>
          obtain ⟨g1, g2, g3⟩ := get_lt s.held
          obtain ⟨r1, r2⟩ := read_four HM.out H4.out he
          have HGR : Hid (getR s.held = .tuple #[.int .u64 (getN s.held : Int), .int .i64 (getS s.held : Int), .int .i64 0]) := by show _ = _; unfold getR; rw [he]; rfl
          have HN1 : Hid (need m s = getS s.held + getN s.held - s.held.length) := by show _ = _; rw [HNN.out, if_neg (by simp), if_neg (by omega)]
          clear he g1
          generalize getN s.held = n at *
          generalize getS s.held = k at *
          go_wp2_with fail
          refine HGG.out.mono ?_
          rintro e w' ⟨rfl, rfl⟩
          rw [HGR.out]
          go_wp2_with fail
          go_ret
          exact ⟨by rw [HN1.out]; exact ret_i (by omega), HB3.out⟩
end Go.Proofs.Ytmphielkohnpgaa.De
