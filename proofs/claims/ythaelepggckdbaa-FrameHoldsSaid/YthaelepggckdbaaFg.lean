/- Proves that FrameHolds returns true at every argument. Conditions: as the row gives them. -/
import Derived.Test.YthaelepggckdbaaFdr
namespace Go.Proofs.Ythaelepggckdbaa.Fg
open Go.RowKit Vm Ap Vw Va Vr Gc Fm Fc Fw Fr Frr Fh Fk Fdr

set_option maxRecDepth 100000 in
set_option maxHeartbeats 1000000 in
theorem holds_over (c : UInt8) (A R : Option Addr) (l r : Bs) (j k : Nat) (W : World) (h : 300 < l.length ∨ 300 < r.length) :
    Calls Try.prog 7 #[.agg #[.int .u8 (c.toNat : Int), .slice A l.length j], .slice R r.length k] W (boolOf true W) := by
  have HK := known_hid
  have HB := Lib.hid (alloc_below W)
  by_cases h0 : 300 < l.length
  · have h1 : (300 : Int) < (l.length : Int) := by omega
    have d1 : decide ((300 : Int) < (l.length : Int)) = true := by simp; omega
    clear h h0
    go_enter Try.func7, Try.ntmps7
    go_wp2_with fail
    refine (HK.out _).mono ?_
    rintro e w1 ⟨rfl, hb⟩
    have HB1 := Lib.hid (step0 (HB.out _) hb)
    clear hb
    go_wp2_with fail
    go_ret
    exact ⟨rfl, HB1.out⟩
  · have d0 : decide ((300 : Int) < (l.length : Int)) = false := by simp; omega
    have d1 : decide ((300 : Int) < (r.length : Int)) = true := by simp; omega
    clear h h0
    go_enter Try.func7, Try.ntmps7
    go_wp2_with fail
    refine (HK.out _).mono ?_
    rintro e w1 ⟨rfl, hb⟩
    have HB1 := Lib.hid (step0 (HB.out _) hb)
    clear hb
    go_wp2_with fail
    go_ret
    exact ⟨rfl, HB1.out⟩

set_option maxRecDepth 100000 in
set_option maxHeartbeats 8000000 in
theorem holds_main (c : UInt8) (A R : Option Addr) (l r : Bs) (j k : Nat) (W : World) (ha : Arg W A l j) (hb : Arg W R r k) (hl : l.length ≤ 300) (hr : r.length ≤ 300) :
    Calls Try.prog 7 #[.agg #[.int .u8 (c.toNat : Int), .slice A l.length j], .slice R r.length k] W (boolOf true W) := by
  have HK := known_hid
  have HN := Lib.hid ha.non; have HRN := Lib.hid hb.non
  obtain ⟨w2, hw2⟩ : ∃ w2, w2 = W.alloc (.cells #[.int .u8 (c.toNat : Int), .slice A l.length j] 24) := ⟨_, rfl⟩
  have B2 : Below W.heap.size W w2 := by rw [hw2]; exact alloc_below _ _
  have ce0 : Cel w2 W.heap.size (.int .u8 (c.toNat : Int)) (.slice A l.length j) := by rw [hw2]; exact Cel.new _ _ _ _
  have HA := Lib.hid (ha.rd.below B2 (Nat.le_refl _)); have HR := Lib.hid (hb.rd.below B2 (Nat.le_refl _))
  have d0 : decide ((300 : Int) < (l.length : Int)) = false := by simp; omega
  have d1 : decide ((300 : Int) < (r.length : Int)) = false := by simp; omega
  have hq0 := ha.le; have hq1 := ha.max; have hq2 := hb.le; have hq3 := hb.max
  unfold maxLen at hq1 hq3
  have HB2 := Lib.hid B2
  have CE0 := Lib.hid ce0
  obtain ⟨cz0, cz1, _, _⟩ := ce0
  clear ha hb B2
  go_enter Try.func7, Try.ntmps7
  go_wp2_with fail
  rw [← hw2]
  clear hw2
  refine (fwrite_ok c A l j w2 HA.out HN.out (by omega)).mono ?_
  rintro e w3 ⟨v3, rfl, h3, b3⟩
  obtain ⟨X, x, shX⟩ := own_shape h3
  obtain rfl := shX.val
  have SX := Lib.hid shX
  have HX := Lib.hid h3
  have HB3 := Lib.hid b3
  clear h3 shX cz0 cz1
  obtain ⟨cz0, cz1, _, _⟩ := CE0.out.below b3 (Nat.le_refl _)
  clear b3
  go_wp2_with fail
  refine (fsize_ok c A l j w3 (by omega)).mono ?_
  rintro e w4 ⟨rfl, b4⟩
  have HB4 := Lib.hid (step0 HB3.out b4)
  have RX4 := Lib.hid (SX.out.rd.below b4 (Nat.le_refl _))
  have RA4 := Lib.hid (HA.out.below HB4.out (Nat.le_refl _))
  have RR4 := Lib.hid (HR.out.below HB4.out (Nat.le_refl _))
  have CE4 := Lib.hid (CE0.out.below HB4.out (Nat.le_refl _))
  have hwl := wire_le c l (by omega)
  have hwp := wire_pos c l
  have hfo := own_form HX.out
  rcases hfo with ⟨_, hnil⟩ | ⟨bx, cap, hv, _, _, hcap⟩
  · exfalso; rw [hnil] at hwp; simp at hwp
  simp only [Value.slice.injEq] at hv
  obtain ⟨rfl, _, rfl⟩ := hv
  have hxm := SX.out.max
  unfold maxLen at hxm
  have HRD : Hid (readV (wire c l ++ r) (l.length : Int) = (c, l, (wire c l).length, 0)) := read_put c l r l.length (by omega) (Int.le_refl _)
  have HCU : Hid (∀ i, i < (wire c l).length → readV ((wire c l).take i) 2097152 = (0, [], 0, 4)) := fun i hi => read_cut c l 2097152 i (by omega) (by omega) hi
  obtain ⟨wi, hwi⟩ : ∃ wi, wi = wire c l := ⟨_, rfl⟩
  rw [← hwi] at RX4 hwl hwp hcap HRD HCU
  rw [← hwi]
  obtain ⟨pb, hpb⟩ : ∃ pb, pb = wi ++ r := ⟨_, rfl⟩
  have hpbl : pb.length ≤ 700 := by rw [hpb, List.length_append]; omega
  rw [← hpb] at HRD
  have HPB := Lib.hid hpb
  have HPL : Hid (pb.length = wi.length + r.length) := by show _ = _; rw [hpb, List.length_append]
  have cf0 : ∀ v, Below w4.heap.size w4 v → v.cell? ⟨W.heap.size, 0, none⟩ = some (.int .u8 (c.toNat : Int)) := fun v h => (CE4.out.below h (Nat.le_refl _)).c0
  have cf1 : ∀ v, Below w4.heap.size w4 v → v.cell? ⟨W.heap.size, 1, none⟩ = some (.slice A l.length j) := fun v h => (CE4.out.below h (Nat.le_refl _)).c1
  clear b4 cz0 cz1 hwi hpb SX HX hq0 hq1 hq2 hq3
  go_wp2_with fail
  refine wp_region_noPanic ?_
  refine wp_region_held_drew (S := fun v => Below w4.heap.size w4 v) (by kernel_rfl) ((Below.refl _ _).drew) (fun hHeld => ?_)
  refine wpAnyH_take (i := 0) (oi := ⟨some 30, _, _, _, _, _⟩) (v := ?_) rfl (by kernel_rfl) (by kernel_rfl) (by kernel_rfl) (fun _ _ _ h => h) (Or.inl ⟨by rfl, ?_⟩) (by assumption) ?_
  rotate_left
  · intro w hSw; go_simp; first | done | with_reducible rfl
  try simp only [Act.put, List.setIfInBounds_toArray, List.set_cons_zero, List.set_cons_succ]
  refine wpAnyH_take (i := 1) (oi := ⟨some 31, _, _, _, _, _⟩) (v := ?_) rfl (by kernel_rfl) (by kernel_rfl) (by kernel_rfl) (fun _ _ _ h => h) (Or.inl ⟨by rfl, ?_⟩) (by assumption) ?_
  rotate_left
  · intro w hSw; go_simp; first | done | with_reducible rfl
  try simp only [Act.put, List.setIfInBounds_toArray, List.set_cons_zero, List.set_cons_succ]
  refine wpAnyH_take (i := 2) (oi := ⟨some 32, _, _, _, _, _⟩) (v := ?_) rfl (by kernel_rfl) (by kernel_rfl) (by kernel_rfl) (fun _ _ _ h => h) (Or.inl ⟨by rfl, ?_⟩) (by assumption) ?_
  rotate_left
  · intro w hSw; go_simp; first | done | with_reducible rfl
  try simp only [Act.put, List.setIfInBounds_toArray, List.set_cons_zero, List.set_cons_succ]
  refine wpAnyH_take (i := 3) (oi := ⟨some 33, _, _, _, _, _⟩) (v := ?_) rfl (by kernel_rfl) (by kernel_rfl) (by kernel_rfl) (fun _ _ _ h => h) (Or.inl ⟨by rfl, ?_⟩) (by assumption) ?_
  rotate_left
  · intro w hSw; go_simp; first | done | with_reducible rfl
  try simp only [Act.put, List.setIfInBounds_toArray, List.set_cons_zero, List.set_cons_succ]
  refine wpAnyH_take (i := 4) (oi := ⟨some 34, _, _, _, _, _⟩) (v := ?_) rfl (by kernel_rfl) (by kernel_rfl) (by kernel_rfl) (fun _ _ _ h => h) (Or.inl ⟨by rfl, ?_⟩) (by assumption) ?_
  rotate_left
  · intro w hSw; go_simp; first | done | with_reducible rfl
  try simp only [Act.put, List.setIfInBounds_toArray, List.set_cons_zero, List.set_cons_succ]
  refine wpAnyH_take (i := 5) (oi := ⟨some 35, _, _, _, _, _⟩) (v := ?_) rfl (by kernel_rfl) (by kernel_rfl) (by kernel_rfl) (fun _ _ _ h => h) (Or.inl ⟨by rfl, ?_⟩) (by assumption) ?_
  rotate_left
  · intro w hSw; go_simp; first | done | with_reducible rfl
  try simp only [Act.put, List.setIfInBounds_toArray, List.set_cons_zero, List.set_cons_succ]
  refine wpAnyH_take (i := 6) (oi := ⟨some 36, _, _, _, _, _⟩) (v := ?_) rfl (by kernel_rfl) (by kernel_rfl) (by kernel_rfl) (fun _ _ _ h => h) (Or.inl ⟨by rfl, ?_⟩) (by assumption) ?_
  rotate_left
  · intro w hSw; go_simp; first | done | with_reducible rfl
  try simp only [Act.put, List.setIfInBounds_toArray, List.set_cons_zero, List.set_cons_succ]
  refine wpAnyH_take (i := 7) (oi := ⟨some 37, _, _, _, _, _⟩) (v := ?_) rfl (by kernel_rfl) (by kernel_rfl) (by kernel_rfl) (fun _ _ _ h => h) (Or.inl ⟨by rfl, ?_⟩) (by assumption) ?_
  rotate_left
  · intro w hSw; go_simp; first | done | with_reducible rfl
  try simp only [Act.put, List.setIfInBounds_toArray, List.set_cons_zero, List.set_cons_succ]
  refine wpAnyH_take (i := 8) (oi := ⟨some 38, _, _, _, _, _⟩) (v := ?_) rfl (by kernel_rfl) (by kernel_rfl) (by kernel_rfl) (fun _ _ _ h => h) (Or.inl ⟨by rfl, ?_⟩) (by assumption) ?_
  rotate_left
  · intro w hSw; go_simp; first | done | with_reducible rfl
  try simp only [Act.put, List.setIfInBounds_toArray, List.set_cons_zero, List.set_cons_succ]
  refine wpAnyH_take (i := 9) (oi := ⟨some 39, _, _, _, _, _⟩) (v := ?_) rfl (by kernel_rfl) (by kernel_rfl) (by kernel_rfl) (fun _ _ _ h => h) (Or.inl ⟨by rfl, ?_⟩) (by assumption) ?_
  rotate_left
  · intro w hSw; go_simp; first | done | with_reducible rfl
  try simp only [Act.put, List.setIfInBounds_toArray, List.set_cons_zero, List.set_cons_succ]
  refine wpAnyH_take (i := 10) (oi := ⟨some 40, _, _, _, _, _⟩) (v := ?_) rfl (by kernel_rfl) (by kernel_rfl) (by kernel_rfl) (fun _ _ _ h => h) (Or.inl ⟨by rfl, ?_⟩) (by assumption) ?_
  rotate_left
  · intro w hSw; go_simp; first | done | with_reducible rfl
  try simp only [Act.put, List.setIfInBounds_toArray, List.set_cons_zero, List.set_cons_succ]
  refine wpAnyH_take (i := 11) (oi := ⟨some 41, _, _, _, _, _⟩) (v := ?_) rfl (by kernel_rfl) (by kernel_rfl) (by kernel_rfl) (fun _ _ _ h => h) (Or.inl ⟨by rfl, ?_⟩) (by assumption) ?_
  rotate_left
  · intro w hSw; go_simp; first | done | with_reducible rfl
  try simp only [Act.put, List.setIfInBounds_toArray, List.set_cons_zero, List.set_cons_succ]
  refine wpAnyH_take (i := 12) (oi := ⟨some 42, _, _, _, _, _⟩) (v := ?_) rfl (by kernel_rfl) (by kernel_rfl) (by kernel_rfl) (fun _ _ _ h => h) (Or.inl ⟨by rfl, ?_⟩) (by assumption) ?_
  rotate_left
  · intro w hSw; go_simp; first | done | with_reducible rfl
  try simp only [Act.put, List.setIfInBounds_toArray, List.set_cons_zero, List.set_cons_succ]
  refine wpAnyH_take (i := 13) (oi := ⟨some 43, _, _, _, _, _⟩) (v := ?_) rfl (by kernel_rfl) (by kernel_rfl) (by kernel_rfl) (fun _ _ _ h => h) (Or.inl ⟨by rfl, ?_⟩) (by assumption) ?_
  rotate_left
  · intro w hSw; go_simp; first | done | with_reducible rfl
  try simp only [Act.put, List.setIfInBounds_toArray, List.set_cons_zero, List.set_cons_succ]
  refine wpAnyH_take (i := 15) (oi := ⟨some 45, _, _, _, _, _⟩) (v := ?_) rfl (by kernel_rfl) (by kernel_rfl) (by kernel_rfl) (fun _ _ _ h => h) (Or.inl ⟨by rfl, ?_⟩) (by assumption) ?_
  rotate_left
  · intro w hSw; go_simp; first | done | with_reducible rfl
  try simp only [Act.put, List.setIfInBounds_toArray, List.set_cons_zero, List.set_cons_succ]
  refine wpAnyH_take (i := 17) (oi := ⟨some 47, _, _, _, _, _⟩) (v := ?_) rfl (by kernel_rfl) (by kernel_rfl) (by kernel_rfl) (fun _ _ _ h => h) (Or.inl ⟨by rfl, ?_⟩) (by assumption) ?_
  rotate_left
  · intro w hSw; go_simp; first | done | with_reducible rfl
  try simp only [Act.put, List.setIfInBounds_toArray, List.set_cons_zero, List.set_cons_succ]
  refine wpAnyH_take (i := 18) (oi := ⟨some 48, _, _, _, _, _⟩) (v := ?_) rfl (by kernel_rfl) (by kernel_rfl) (by kernel_rfl) (fun _ _ _ h => h) (Or.inl ⟨by rfl, ?_⟩) (by assumption) ?_
  rotate_left
  · intro w hSw; go_simp; first | done | with_reducible rfl
  try simp only [Act.put, List.setIfInBounds_toArray, List.set_cons_zero, List.set_cons_succ]
  refine wpAnyH_take (i := 19) (oi := ⟨some 49, _, _, _, _, _⟩) (v := ?_) rfl (by kernel_rfl) (by kernel_rfl) (by kernel_rfl) (fun _ _ _ h => h) (Or.inl ⟨by rfl, ?_⟩) (by assumption) ?_
  rotate_left
  · intro w hSw; go_simp; first | done | with_reducible rfl
  try simp only [Act.put, List.setIfInBounds_toArray, List.set_cons_zero, List.set_cons_succ]
  refine wpAnyH_take (i := 20) (oi := ⟨some 50, _, _, _, _, _⟩) (v := ?_) rfl (by kernel_rfl) (by kernel_rfl) (by kernel_rfl) (fun _ _ _ h => h) (Or.inl ⟨by rfl, ?_⟩) (by assumption) ?_
  rotate_left
  · intro w hSw; go_simp; first | done | with_reducible rfl
  try simp only [Act.put, List.setIfInBounds_toArray, List.set_cons_zero, List.set_cons_succ]
  refine wpAnyH_take (i := 21) (oi := ⟨some 51, _, _, _, _, _⟩) (v := ?_) rfl (by kernel_rfl) (by kernel_rfl) (by kernel_rfl) (fun _ _ _ h => h) (Or.inl ⟨by rfl, ?_⟩) (by assumption) ?_
  rotate_left
  · intro w hSw; go_simp; first | done | with_reducible rfl
  try simp only [Act.put, List.setIfInBounds_toArray, List.set_cons_zero, List.set_cons_succ]
  refine wpAnyH_ready (rs := [14]) (by kernel_rfl) (by simp) ?_
  refine AllReadyH.cons (o := ⟨some 44, _, _, _, _, _⟩) rfl (fun K hK => ?_) AllReadyH.nil
  refine step_guarded (by kernel_rfl) _ _ rfl rfl (own_nil w4.heap.size _) wi (some ⟨bx, 0, none⟩) x rfl (fun e => by cases e) (RX4.out.below hHeld (Nat.le_refl _)) (by simp) (by omega) hHeld.size ?_
  intro v44 w44 h44 g44
  have H44 := Lib.hid h44
  have HB44 := Lib.hid (hHeld.grown g44 hHeld.size (by intro k e; cases e))
  clear h44 g44
  refine hK.out _ _ HB44.out (fun hHeld => ?_)
  clear hK K
  try simp only [Act.put, List.setIfInBounds_toArray, List.set_cons_zero, List.set_cons_succ]
  refine wpAnyH_ready (rs := [16]) (by kernel_rfl) (by simp) ?_
  refine AllReadyH.cons (o := ⟨some 46, _, _, _, _, _⟩) rfl (fun K hK => ?_) AllReadyH.nil
  refine step_guarded (by kernel_rfl) _ _ rfl rfl H44.out r R k rfl HRN.out (RR4.out.below hHeld (Nat.le_refl _)) (by simp; omega) (by omega) hHeld.size ?_
  intro v46 w46 h46 g46
  obtain ⟨G, gc, shG⟩ := own_shape h46
  obtain rfl := shG.val
  have SG := Lib.hid shG
  have HB46 := Lib.hid (hHeld.grown g46 hHeld.size (fun k e => (World.ownsRow.lt H44.out k e).1))
  have hgl : pb.length ≤ gc := by rw [HPB.out]; exact shG.le
  clear h46 g46 shG
  refine hK.out _ _ HB46.out (fun hHeld => ?_)
  clear hK K
  try simp only [Act.put, List.setIfInBounds_toArray, List.set_cons_zero, List.set_cons_succ]
  refine wpAnyH_ready (rs := [22]) (by kernel_rfl) (by simp) ?_
  refine AllReadyH.cons (o := ⟨some 52, _, _, _, _, _⟩) rfl (fun K hK => ?_) AllReadyH.nil
  go_simp
  refine (reads_true G A pb l _ gc _ j c _ _ _ _ wi.length 0 w46 HPL.out rfl (by rw [HPB.out]; exact SG.out.rd) (by omega) (by rw [← HPL.out]; exact hgl) (by omega) (by omega) (RA4.out.below hHeld (Nat.le_refl _)) HRD.out rfl rfl rfl).mono ?_
  rintro e w52 ⟨rfl, hbw⟩
  go_simp
  refine hK.out _ _ (step0 hHeld hbw) (fun hHeld => ?_)
  clear hK K
  try simp only [Act.put, List.setIfInBounds_toArray, List.set_cons_zero, List.set_cons_succ]
  refine wpAnyH_take (i := 23) (oi := ⟨some 53, _, _, _, _, _⟩) (v := ?_) rfl (by kernel_rfl) (by kernel_rfl) (by kernel_rfl) (fun _ _ _ h => h) (Or.inl ⟨by rfl, ?_⟩) (by assumption) ?_
  rotate_left
  · intro w hSw; go_simp; first | done | with_reducible rfl
  try simp only [Act.put, List.setIfInBounds_toArray, List.set_cons_zero, List.set_cons_succ]
  refine wpAnyH_take (i := 24) (oi := ⟨some 54, _, _, _, _, _⟩) (v := ?_) rfl (by kernel_rfl) (by kernel_rfl) (by kernel_rfl) (fun _ _ _ h => h) (Or.inl ⟨by rfl, ?_⟩) (by assumption) ?_
  rotate_left
  · intro w hSw; go_simp; first | done | with_reducible rfl
  try simp only [Act.put, List.setIfInBounds_toArray, List.set_cons_zero, List.set_cons_succ]
  refine wpAnyH_done (by kernel_rfl) ?_ _
  refine NoPanic.normal ?_
  generalize hg : w52 = w5 at *
  have HB5 := Lib.hid (step0 HB4.out hHeld)
  have RX5 := Lib.hid (RX4.out.below hHeld (Nat.le_refl _))
  clear cf0 cf1 hHeld hbw HB46 HB44 SG H44 hgl
  go_wp2_with fail
  go_loopw [9] (fun i wr => ∃ n : Nat, n ≤ wi.length ∧ i = .int .i64 (n : Int) ∧ Below w5.heap.size w5 wr) (fun i _ => wi.length - (intOf i).toNat)
  case atStart => exact ⟨0, Nat.zero_le _, rfl, Below.refl _ _⟩
  case round =>
    obtain ⟨n, hn, rfl, hbr⟩ := hrel
    have HBR := Lib.hid (step0 HB5.out hbr)
    by_cases hlt : n < wi.length
    · have RN := Lib.hid ((RX5.out.below hbr (Nat.le_refl _)).take n)
      have HLN : Hid ((wi.take n).length = n) := by show _ = _; rw [List.length_take]; omega
      have i1 : (n : Int) < wi.length := by omega
      have HCN := Lib.hid (HCU.out n hlt)
      have hnx : n ≤ x := by omega
      go_wp2_with fail
      refine (reads_true (some ⟨bx, 0, none⟩) none (wi.take n) [] n x 0 0 0 2097152 0 0 4 0 4 wr HLN.out rfl RN.out (by rw [HLN.out]; omega) hnx (by omega) (by omega) (Rb.nil _ _) HCN.out rfl rfl rfl).mono ?_
      rintro e w6 ⟨rfl, hb6⟩
      have HB6 := Lib.hid (step0 hbr hb6)
      clear hb6
      go_wp2_with fail
      go_roundw
      case rel => exact ⟨n + 1, by omega, by go_num, HB6.out⟩
      case measure => simp [intOf]; omega
    · obtain rfl : n = wi.length := by omega
      have hnn : ¬ (wi.length : Int) < wi.length := by omega
      go_wp2_with fail
      refine (HK.out _).mono ?_
      rintro e w7 ⟨rfl, b⟩
      have HB7 := Lib.hid (step0 HBR.out b); clear b
      go_wp2_with fail
      go_ret
      exact ⟨rfl, HB2.out.trans (HB7.out.mono HB2.out.size)⟩
theorem holds_walk (c : UInt8) (A : Option Addr) (j : Nat) (l : Bs) (R : Option Addr) (k : Nat) (r : Bs) (W : World) (ha : Arg W A l j) (hb : Arg W R r k) :
    Calls Try.prog 7 #[.agg #[.int .u8 (c.toNat : Int), .slice A l.length j], .slice R r.length k] W (boolOf true W) := by
  by_cases h : 300 < l.length ∨ 300 < r.length
  · exact holds_over c A R l r j k W h
  · exact holds_main c A R l r j k W ha hb (by omega) (by omega)
end Go.Proofs.Ythaelepggckdbaa.Fg
