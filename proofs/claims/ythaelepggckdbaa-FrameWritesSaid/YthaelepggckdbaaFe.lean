/- Proves that FrameWrites returns true at every argument. Conditions: as the row gives them. -/
import Derived.Test.YthaelepggckdbaaFdr
namespace Go.Proofs.Ythaelepggckdbaa.Fe
open Go.RowKit Vm Ap Vw Va Vr Gc Fm Fc Fw Fr Frr Fh Fk Fdr

theorem two_cels (w : World) (x y x' y' : Value) : ∃ w2, w2 = (w.alloc (.cells #[x, y] 24)).alloc (.cells #[x', y'] 24) ∧ Below w.heap.size w w2 ∧ Cel w2 w.heap.size x y ∧ Cel w2 (w.heap.size + 1) x' y' :=
  ⟨_, rfl, two_below _ _ _, (Cel.new w x y _).below (alloc_below _ _) (Nat.le_refl _), by have := Cel.new (w.alloc (.cells #[x, y] 24)) x' y' 24; simpa using this⟩
set_option maxRecDepth 100000 in
set_option maxHeartbeats 1000000 in
theorem writes_over (c d : UInt8) (A C : Option Addr) (l p : Bs) (j k : Nat) (W : World) (h : 600 < l.length ∨ 600 < p.length) :
    Calls Try.prog 3 #[.agg #[.int .u8 (c.toNat : Int), .slice A l.length j], .agg #[.int .u8 (d.toNat : Int), .slice C p.length k]] W (boolOf true W) := by
  have HK := known_hid
  have HB := Lib.hid (two_below W)
  by_cases h0 : 600 < l.length
  · have h1 : (600 : Int) < (l.length : Int) := by omega
    have d1 : decide ((600 : Int) < (l.length : Int)) = true := by simp; omega
    clear h h0
    go_enter Try.func3, Try.ntmps3
    go_wp2_with fail
    refine (HK.out _).mono ?_
    rintro e w1 ⟨rfl, hb⟩
    have HB1 := Lib.hid (step0 (HB.out _ _) hb)
    clear hb
    go_wp2_with fail
    go_ret
    exact ⟨rfl, HB1.out⟩
  · have d0 : decide ((600 : Int) < (l.length : Int)) = false := by simp; omega
    have d1 : decide ((600 : Int) < (p.length : Int)) = true := by simp; omega
    clear h h0
    go_enter Try.func3, Try.ntmps3
    go_wp2_with fail
    refine (HK.out _).mono ?_
    rintro e w1 ⟨rfl, hb⟩
    have HB1 := Lib.hid (step0 (HB.out _ _) hb)
    clear hb
    go_wp2_with fail
    go_ret
    exact ⟨rfl, HB1.out⟩

set_option maxRecDepth 100000 in
set_option maxHeartbeats 8000000 in
theorem writes_main (c d : UInt8) (A C : Option Addr) (l p : Bs) (j k : Nat) (W : World) (ha : Arg W A l j) (hb : Arg W C p k) (hl : l.length ≤ 600) (hp : p.length ≤ 600) :
    Calls Try.prog 3 #[.agg #[.int .u8 (c.toNat : Int), .slice A l.length j], .agg #[.int .u8 (d.toNat : Int), .slice C p.length k]] W (boolOf true W) := by
  have HK := known_hid
  have HN := Lib.hid ha.non
  obtain ⟨w2, hw2, B2, ce0, ce1⟩ := two_cels W (.int .u8 (c.toNat : Int)) (.slice A l.length j) (.int .u8 (d.toNat : Int)) (.slice C p.length k)
  have HA := Lib.hid (ha.rd.below B2 (Nat.le_refl _)); have HC := Lib.hid (hb.rd.below B2 (Nat.le_refl _))
  have d0 : decide ((600 : Int) < (l.length : Int)) = false := by simp; omega
  have d1 : decide ((600 : Int) < (p.length : Int)) = false := by simp; omega
  have hq0 := ha.le; have hq1 := ha.max; have hq2 := hb.le; have hq3 := hb.max
  unfold maxLen at hq1 hq3
  have HB2 := Lib.hid B2
  have cx0 : ∀ v, Below w2.heap.size w2 v → v.cell? ⟨W.heap.size, 0, none⟩ = some (.int .u8 (c.toNat : Int)) := fun v h => (ce0.below h (Nat.le_refl _)).c0
  have cx1 : ∀ v, Below w2.heap.size w2 v → v.cell? ⟨W.heap.size, 1, none⟩ = some (.slice A l.length j) := fun v h => (ce0.below h (Nat.le_refl _)).c1
  have CE0 := Lib.hid ce0; have CE1 := Lib.hid ce1
  clear ha hb B2 ce0 ce1
  go_enter Try.func3, Try.ntmps3
  go_wp2_with fail
  rw [← hw2]
  clear hw2
  refine wp_region_noPanic ?_
  refine wp_region_held_drew (S := fun v => Below w2.heap.size w2 v) (by kernel_rfl) ((Below.refl _ _).drew) (fun hHeld => ?_)
  refine wpAnyH_take (i := 0) (oi := ⟨some 24, _, _, _, _, _⟩) (v := ?_) rfl (by kernel_rfl) (by kernel_rfl) (by kernel_rfl) (fun _ _ _ h => h) (Or.inl ⟨by rfl, ?_⟩) (by assumption) ?_
  rotate_left
  · intro w hSw; go_simp; first | done | with_reducible rfl
  try simp only [Act.put, List.setIfInBounds_toArray, List.set_cons_zero, List.set_cons_succ]
  refine wpAnyH_take (i := 1) (oi := ⟨some 25, _, _, _, _, _⟩) (v := ?_) rfl (by kernel_rfl) (by kernel_rfl) (by kernel_rfl) (fun _ _ _ h => h) (Or.inl ⟨by rfl, ?_⟩) (by assumption) ?_
  rotate_left
  · intro w hSw; go_simp; first | done | with_reducible rfl
  try simp only [Act.put, List.setIfInBounds_toArray, List.set_cons_zero, List.set_cons_succ]
  refine wpAnyH_take (i := 2) (oi := ⟨some 26, _, _, _, _, _⟩) (v := ?_) rfl (by kernel_rfl) (by kernel_rfl) (by kernel_rfl) (fun _ _ _ h => h) (Or.inl ⟨by rfl, ?_⟩) (by assumption) ?_
  rotate_left
  · intro w hSw; go_simp; first | done | with_reducible rfl
  try simp only [Act.put, List.setIfInBounds_toArray, List.set_cons_zero, List.set_cons_succ]
  refine wpAnyH_take (i := 3) (oi := ⟨some 27, _, _, _, _, _⟩) (v := ?_) rfl (by kernel_rfl) (by kernel_rfl) (by kernel_rfl) (fun _ _ _ h => h) (Or.inl ⟨by rfl, ?_⟩) (by assumption) ?_
  rotate_left
  · intro w hSw; go_simp; first | done | with_reducible rfl
  try simp only [Act.put, List.setIfInBounds_toArray, List.set_cons_zero, List.set_cons_succ]
  refine wpAnyH_ready (rs := [4, 6]) (by kernel_rfl) (by simp) ?_
  refine AllReadyH.cons (o := ⟨some 28, _, _, _, _, _⟩) rfl (fun K hK => ?wa) (AllReadyH.cons (o := ⟨some 5, _, _, _, _, _⟩) rfl (fun K hK => ?wb) AllReadyH.nil)
  case' wa =>
    refine step_from rfl _ _ rfl rfl (own_nil w2.heap.size _) l A j rfl HN.out (HA.out.below hHeld (Nat.le_refl _)) (by simp) (by omega) hHeld.size ?_
    intro v28 w28 h28 g28
    obtain ⟨O, oc, shO⟩ := own_shape h28
    obtain rfl := shO.val
    have HO28 : Hid (Own w2.heap.size w28 (.slice O l.length oc) l) := h28
    have SO := Lib.hid shO
    have HB28 := Lib.hid (hHeld.grown g28 hHeld.size (by intro k e; cases e))
    clear h28 g28 shO
    refine hK.out _ _ HB28.out (fun hHeld => ?_)
    clear hK K
    try simp only [Act.put, List.setIfInBounds_toArray, List.set_cons_zero, List.set_cons_succ]
    refine wpAnyH_take (i := 5) (oi := ⟨some 29, _, _, _, _, _⟩) (v := ?_) rfl (by kernel_rfl) (by kernel_rfl) (by kernel_rfl) (fun _ _ _ h => h) (Or.inl ⟨by rfl, ?_⟩) (by assumption) ?_
    rotate_left
    · intro w hSw; go_simp; first | done | with_reducible rfl
    try simp only [Act.put, List.setIfInBounds_toArray, List.set_cons_zero, List.set_cons_succ]
    refine wpAnyH_ready (rs := [6]) (by kernel_rfl) (by simp) ?_
    refine AllReadyH.cons (o := ⟨some 5, _, _, _, _, _⟩) rfl (fun K hK => ?_) AllReadyH.nil
    go_simp
    refine hK.out _ _ (hHeld.alloc hHeld.size _) (fun hHeld => ?_)
    clear hK K
    try simp only [Act.put, List.setIfInBounds_toArray, List.set_cons_zero, List.set_cons_succ]
    refine wpAnyH_ready (rs := [7]) (by kernel_rfl) (by simp) ?_
    refine AllReadyH.cons (o := ⟨none, _, _, _, _, _⟩) rfl (fun K hK => ?_) AllReadyH.nil
    go_simp
    refine hK.out _ _ (HB28.out.alloc HB28.out.size _) (fun hHeld => ?_)
    clear hK K
    try simp only [Act.put, List.setIfInBounds_toArray, List.set_cons_zero, List.set_cons_succ]
    refine wpAnyH_done (by kernel_rfl) ?_ _
    refine NoPanic.normal ?_
    obtain ⟨w5, hw5⟩ : ∃ w5, w5 = w28.alloc (.cells #[.int .u8 (c.toNat : Int), .slice O l.length oc] 24) := ⟨_, rfl⟩
    have b5 : Below w28.heap.size w28 w5 := by rw [hw5]; exact alloc_below _ _
    have CF5 : Hid (Cel w5 w28.heap.size (.int .u8 (c.toNat : Int)) (.slice O l.length oc)) := by rw [hw5]; exact Cel.new _ _ _ _
    rw [← hw5]
    have HO5 : Hid (Own w2.heap.size w5 (.slice O l.length oc) l) := own_below HO28.out b5 (Nat.le_refl _)
    have HB5 : Hid (Below w2.heap.size w2 w5) := HB28.out.trans (b5.mono HB28.out.size)
    have HG5 : Hid (w2.heap.size ≤ w28.heap.size) := HB28.out.size
    have HNE : Hid (∀ a, O = some a → a.block ≠ w28.heap.size) := fun a e => by have := (SO.out.base a e).2; omega
    have HON := Lib.hid SO.out.non; have hol := SO.out.le; have hom := SO.out.max
    clear hw5 b5 hHeld HB28 HO28 SO
    generalize w28.heap.size = g5 at *
  case' wb =>
    go_simp
    refine hK.out _ _ (hHeld.alloc hHeld.size _) (fun hHeld => ?_)
    clear hK K
    try simp only [Act.put, List.setIfInBounds_toArray, List.set_cons_zero, List.set_cons_succ]
    refine wpAnyH_ready (rs := [4]) (by kernel_rfl) (by simp) ?_
    refine AllReadyH.cons (o := ⟨some 28, _, _, _, _, _⟩) rfl (fun K hK => ?_) AllReadyH.nil
    refine step_from rfl _ _ rfl rfl (own_nil (w2.heap.size + 1) _) l A j rfl HN.out (HA.out.below hHeld (Nat.le_refl _)) (by simp) (by omega) (by simp) ?_
    intro v28 w28 h28 g28
    obtain ⟨O, oc, shO⟩ := own_shape h28
    obtain rfl := shO.val
    have HO28 : Hid (Own (w2.heap.size + 1) w28 (.slice O l.length oc) l) := h28
    have SO := Lib.hid shO
    have hcn : Cel w28 w2.heap.size (.int .u8 0) (.slice none 0 0) := (Cel.new w2.drew (.int .u8 0) (.slice none 0 0) 24).below (below_of_grown g28 (Nat.le_refl _) (by intro k e; cases e)) (Nat.le_refl _)
    have HB28 : Hid (Below w2.heap.size w2 w28) := hHeld.grown g28 hHeld.size (by intro k e; cases e)
    clear h28 g28 shO
    refine hK.out _ _ HB28.out (fun hHeld => ?_)
    clear hK K
    try simp only [Act.put, List.setIfInBounds_toArray, List.set_cons_zero, List.set_cons_succ]
    refine wpAnyH_take (i := 5) (oi := ⟨some 29, _, _, _, _, _⟩) (v := ?_) rfl (by kernel_rfl) (by kernel_rfl) (by kernel_rfl) (fun _ _ _ h => h) (Or.inl ⟨by rfl, ?_⟩) (by assumption) ?_
    rotate_left
    · intro w hSw; go_simp; first | done | with_reducible rfl
    try simp only [Act.put, List.setIfInBounds_toArray, List.set_cons_zero, List.set_cons_succ]
    have CN := Lib.hid hcn
    obtain ⟨cy0, cy1, cf0, cf1⟩ := hcn
    refine wpAnyH_ready (rs := [7]) (by kernel_rfl) (by simp) ?_
    refine AllReadyH.cons (o := ⟨none, _, _, _, _, _⟩) rfl (fun K hK => ?_) AllReadyH.nil
    go_simp
    refine hK.out _ _ ((HB28.out.setCell (Nat.le_refl _) _).setCell (Nat.le_refl _) _) (fun hHeld => ?_)
    clear hK K
    try simp only [Act.put, List.setIfInBounds_toArray, List.set_cons_zero, List.set_cons_succ]
    refine wpAnyH_done (by kernel_rfl) ?_ _
    refine NoPanic.normal ?_
    have hcm := CN.out.set (.int .u8 (c.toNat : Int)) (.slice O l.length oc)
    have ho5 : Own w2.heap.size ((w28.setCell ⟨w2.heap.size, 0, none⟩ (.int .u8 (c.toNat : Int))).setCell ⟨w2.heap.size, 1, none⟩ (.slice O l.length oc)) (.slice O l.length oc) l := own_base (own_grown HO28.out (grown_store (grown_store (World.grownBy.refl w28 (some w2.heap.size)) 0 _) 1 _) (by
      cases O with
      | none => exact Or.inl rfl
      | some a => exact Or.inr (fun e => by have := (SO.out.base a rfl).1; injection e with e; omega))) (by omega)
    obtain ⟨w5, hw5⟩ : ∃ w5, w5 = (w28.setCell ⟨w2.heap.size, 0, none⟩ (.int .u8 (c.toNat : Int))).setCell ⟨w2.heap.size, 1, none⟩ (.slice O l.length oc) := ⟨_, rfl⟩
    obtain ⟨g5, hg5⟩ : ∃ g5, g5 = w2.heap.size := ⟨_, rfl⟩
    have HB5 : Hid (Below w2.heap.size w2 w5) := by rw [hw5]; exact (HB28.out.setCell (Nat.le_refl _) _).setCell (Nat.le_refl _) _
    rw [← hw5]
    rw [← hw5] at hcm ho5
    have HO5 := Lib.hid ho5
    have CF5 : Hid (Cel w5 g5 (.int .u8 (c.toNat : Int)) (.slice O l.length oc)) := by rw [hg5]; exact hcm
    have HG5 : Hid (w2.heap.size ≤ g5) := by rw [hg5]; exact Nat.le_refl _
    have HNE : Hid (∀ a, O = some a → a.block ≠ g5) := fun a e => by have := (SO.out.base a e).1; omega
    have HON := Lib.hid SO.out.non; have hol := SO.out.le; have hom := SO.out.max
    rw [← hg5]
    clear hw5 hcm ho5 hHeld HB28 HO28 SO hg5 cy0 cy1 cf0 cf1 CN
  all_goals
    unfold maxLen at hom
    clear cx0 cx1
    obtain ⟨cz0, cz1, _, _⟩ := CF5.out
    go_wp2_with fail
    refine (fwrite_ok c O l oc w5 (Rb.of_own HO5.out) HON.out (by omega)).mono ?_
    rintro e w6 ⟨v6, rfl, h6, b6⟩
    obtain ⟨X, x, shX⟩ := own_shape h6
    obtain rfl := shX.val
    have SX := Lib.hid shX
    have HB6 := Lib.hid (HB5.out.trans (b6.mono HB5.out.size))
    have CF6 := Lib.hid (CF5.out.below b6 (Nat.le_refl _))
    have HO6 := Lib.hid (own_below HO5.out b6 (Nat.le_refl _))
    have HZ56 := Lib.hid b6.size
    have HOB : Hid (∀ a, O = some a → w2.heap.size ≤ a.block ∧ a.block < w5.heap.size) := fun a e => by
      obtain ⟨O', c', s⟩ := own_shape HO5.out
      have := s.val
      injection this with e1
      exact s.base a (by rw [← e1]; exact e)
    clear h6 b6 shX cz0 cz1
    obtain ⟨cz0, cz1, _, _⟩ := CE0.out.below HB6.out (Nat.le_refl _)
    go_wp2_with fail
    refine (rwrite_ok c A l j w6 (HA.out.below HB6.out (Nat.le_refl _)) HN.out (by omega)).mono ?_
    rintro e w7 ⟨v7, rfl, h7, b7⟩
    obtain ⟨Y, y, shY⟩ := own_shape h7
    obtain rfl := shY.val
    have SY := Lib.hid shY
    have HB7 := Lib.hid (HB6.out.trans (b7.mono HB6.out.size))
    have CF7 := Lib.hid (CF6.out.below b7 (Nat.le_refl _))
    have HO7 := Lib.hid (own_below HO6.out b7 (Nat.le_refl _))
    have RX7 := Lib.hid (SX.out.rd.below b7 (Nat.le_refl _))
    clear h7 b7 shY cz0 cz1
    obtain ⟨cz0, cz1, _, _⟩ := CF7.out
    go_wp2_with fail
    refine (fsize_ok c O l oc w7 (by omega)).mono ?_
    rintro e w8 ⟨rfl, b8⟩
    have HB8 := Lib.hid (HB7.out.trans (b8.mono HB7.out.size))
    have CF8 := Lib.hid (CF7.out.below b8 (Nat.le_refl _))
    have HO8 := Lib.hid (own_below HO7.out b8 (Nat.le_refl _))
    have RX8 := Lib.hid (RX7.out.below b8 (Nat.le_refl _))
    have RY8 := Lib.hid (SY.out.rd.below b8 (Nat.le_refl _))
    have hz8 := b8.size
    clear b8 cz0 cz1
    obtain ⟨cz0, cz1, _, _⟩ := CF8.out
    go_wp2_with fail
    go_loopw [12, 48] (fun _ i wr => ∃ (n : Nat) (m : Bs), n ≤ l.length ∧ i = .int .i64 (n : Int) ∧ m.length = l.length ∧ Own w2.heap.size wr (.slice O l.length oc) m ∧ w8.grownBy wr (Value.slice O l.length oc).ownBlock) (fun _ i _ => l.length - (intOf i).toNat)
    case atStart => exact ⟨0, l, Nat.zero_le _, rfl, rfl, HO8.out, World.grownBy.refl _ _⟩
    case round =>
      obtain ⟨n, m, hn, rfl, hml, hown, hgr⟩ := hrel
      have HM := Lib.hid hml
      have HO := Lib.hid hown
      have HGR := Lib.hid hgr
      by_cases hlt : n < l.length
      · have hform := own_form HO8.out
        rcases hform with ⟨_, hnil⟩ | ⟨g, cap, hv, hBg, hgl, hcap⟩
        · rw [hnil] at hlt; simp at hlt
        · simp only [Value.slice.injEq] at hv
          obtain ⟨rfl, _, rfl⟩ := hv
          have hnm : n < m.length := by omega
          obtain ⟨hc0, hf0⟩ := own_cell hml hown hnm
          have hx := m[n].toNat_lt
          have HS := Lib.hid (own_store hml hown n ((m[n].toNat + 1) % 256) (by omega))
          have HWR := Lib.hid (wrap_byte m[n].toNat)
          have i1 : (n : Int) < l.length := by omega
          have HR2 : Hid (w8.grownBy wr (some g)) := hgr
          obtain ⟨cr0, cr1, _, _⟩ := CF8.out.grown hgr (by have := HNE.out _ rfl; exact fun e => this e.symm)
          clear hml hown hgr cz0 cz1
          go_wp2_with fail
          go_roundw
          case rel => exact ⟨n + 1, _, by omega, by go_num, by rw [List.length_set]; exact HM.out, HS.out, grown_store HR2.out n _⟩
          case measure => simp [intOf]; omega
      · obtain rfl : n = l.length := by omega
        have hnn : ¬ (l.length : Int) < l.length := by omega
        have hrow : ∀ j, (Value.slice O l.length oc).ownBlock = some j → w2.heap.size ≤ j ∧ j < w5.heap.size := fun j e => by
          cases O with
          | none => cases e
          | some a => injection e with e; subst e; exact HOB.out a rfl
        have HRL := Lib.hid (HB8.out.grown hgr HB8.out.size (fun j e => (hrow j e).1))
        have far : ∀ (Z : Option Addr) (q : Bs), Rb w8 Z q → (∀ a, Z = some a → w5.heap.size ≤ a.block) → Rb wr Z q := fun Z q h hz => h.grown hgr (fun a e e2 => by have := (hrow _ e2.symm).2; have := hz a e; omega)
        have RXr := Lib.hid (far X _ RX8.out (fun a e => (SX.out.base a e).1))
        have RYr := Lib.hid (far Y _ RY8.out (fun a e => Nat.le_trans HZ56.out (SY.out.base a e).1))
        clear hml hown hgr cz0 cz1 far hrow
        have RAr := Lib.hid (HA.out.below HRL.out (Nat.le_refl _))
        have RCr := Lib.hid (HC.out.below HRL.out (Nat.le_refl _))
        have CR0 := Lib.hid (CE0.out.below HRL.out (Nat.le_refl _))
        have CR1 := Lib.hid (CE1.out.below HRL.out (Nat.le_refl _))
        have hwl := wire_le c l (by omega)
        obtain ⟨wi, hwi⟩ : ∃ wi, wi = wire c l := ⟨_, rfl⟩
        rw [← hwi] at RXr RYr hwl
        rw [← hwi]
        obtain ⟨b, hb⟩ : ∃ b, b = eqv c d l p := ⟨_, rfl⟩
        have HQ1 : Hid (∀ v, Below wr.heap.size wr v → Calls Try.prog 12 #[.agg #[.int .u8 (c.toNat : Int), .slice A l.length j], .agg #[.int .u8 (d.toNat : Int), .slice C p.length k]] v (boolOf b v)) := fun v h => by
          rw [hb]; exact fequal_any c d A C l p j k v (RAr.out.below h (Nat.le_refl _)) (RCr.out.below h (Nat.le_refl _))
        have HQ2 : Hid (∀ v, Below wr.heap.size wr v → Calls Try.prog 13 #[.agg #[.int .u8 (c.toNat : Int), .slice A l.length j], .agg #[.int .u8 (d.toNat : Int), .slice C p.length k]] v (boolOf b v)) := fun v h => by
          rw [hb]; exact requal_any c d A C l p j k v (RAr.out.below h (Nat.le_refl _)) (RCr.out.below h (Nat.le_refl _))
        have HQ3 : Hid (∀ v, Below wr.heap.size wr v → Calls Try.prog 12 #[.agg #[.int .u8 (c.toNat : Int), .slice A l.length j], .agg #[.int .u8 (c.toNat : Int), .slice A l.length j]] v (boolOf true v)) := fun v h => by
          have := fequal_any c c A A l l j j v (RAr.out.below h (Nat.le_refl _)) (RAr.out.below h (Nat.le_refl _))
          rw [eqv_self] at this; exact this
        have cX : ∀ v, Below wr.heap.size wr v → (convert 22 9 (.slice X wi.length x)).run Try.prog v = .ok (.string ⟨wi.toArray⟩) v := fun v h => conv_str x (RXr.out.below h (Nat.le_refl _))
        have cY : ∀ v, Below wr.heap.size wr v → (convert 22 9 (.slice Y wi.length y)).run Try.prog v = .ok (.string ⟨wi.toArray⟩) v := fun v h => conv_str y (RYr.out.below h (Nat.le_refl _))
        have cf0 : ∀ v, Below wr.heap.size wr v → v.cell? ⟨W.heap.size, 0, none⟩ = some (.int .u8 (c.toNat : Int)) := fun v h => (CR0.out.below h (Nat.le_refl _)).c0
        have cf1 : ∀ v, Below wr.heap.size wr v → v.cell? ⟨W.heap.size, 1, none⟩ = some (.slice A l.length j) := fun v h => (CR0.out.below h (Nat.le_refl _)).c1
        have cg0 : ∀ v, Below wr.heap.size wr v → v.cell? ⟨W.heap.size + 1, 0, none⟩ = some (.int .u8 (d.toNat : Int)) := fun v h => (CR1.out.below h (Nat.le_refl _)).c0
        have cg1 : ∀ v, Below wr.heap.size wr v → v.cell? ⟨W.heap.size + 1, 1, none⟩ = some (.slice C p.length k) := fun v h => (CR1.out.below h (Nat.le_refl _)).c1
        have h00 : Below wr.heap.size wr wr := Below.refl _ _
        clear hwi hb
        go_wp2_with fail
        clear h00
        refine wp_region_noPanic ?_
        refine wp_region_held_drew (S := fun v => Below wr.heap.size wr v) (by kernel_rfl) ((Below.refl _ _).drew) (fun hHeld => ?_)
        refine wpAnyH_take (i := 0) (oi := ⟨some 59, _, _, _, _, _⟩) (v := ?_) rfl (by kernel_rfl) (by kernel_rfl) (by kernel_rfl) (fun _ _ _ h => h) (Or.inl ⟨by rfl, ?_⟩) (by assumption) ?_
        rotate_left
        · intro w hSw; go_simp; first | done | with_reducible rfl
        try simp only [Act.put, List.setIfInBounds_toArray, List.set_cons_zero, List.set_cons_succ]
        refine wpAnyH_take (i := 1) (oi := ⟨some 60, _, _, _, _, _⟩) (v := ?_) rfl (by kernel_rfl) (by kernel_rfl) (by kernel_rfl) (fun _ _ _ h => h) (Or.inl ⟨by rfl, ?_⟩) (by assumption) ?_
        rotate_left
        · intro w hSw; go_simp; first | done | with_reducible rfl
        try simp only [Act.put, List.setIfInBounds_toArray, List.set_cons_zero, List.set_cons_succ]
        refine wpAnyH_take (i := 2) (oi := ⟨some 61, _, _, _, _, _⟩) (v := ?_) rfl (by kernel_rfl) (by kernel_rfl) (by kernel_rfl) (fun _ _ _ h => h) (Or.inl ⟨by rfl, ?_⟩) (by assumption) ?_
        rotate_left
        · intro w hSw; go_simp; first | done | with_reducible rfl
        try simp only [Act.put, List.setIfInBounds_toArray, List.set_cons_zero, List.set_cons_succ]
        refine wpAnyH_take (i := 3) (oi := ⟨some 62, _, _, _, _, _⟩) (v := ?_) rfl (by kernel_rfl) (by kernel_rfl) (by kernel_rfl) (fun _ _ _ h => h) (Or.inl ⟨by rfl, ?_⟩) (by assumption) ?_
        rotate_left
        · intro w hSw; go_simp; first | done | with_reducible rfl
        try simp only [Act.put, List.setIfInBounds_toArray, List.set_cons_zero, List.set_cons_succ]
        refine wpAnyH_take (i := 4) (oi := ⟨some 63, _, _, _, _, _⟩) (v := ?_) rfl (by kernel_rfl) (by kernel_rfl) (by kernel_rfl) (fun _ _ _ h => h) (Or.inl ⟨by rfl, ?_⟩) (by assumption) ?_
        rotate_left
        · intro w hSw; go_simp; first | done | with_reducible rfl
        try simp only [Act.put, List.setIfInBounds_toArray, List.set_cons_zero, List.set_cons_succ]
        refine wpAnyH_take (i := 5) (oi := ⟨some 64, _, _, _, _, _⟩) (v := ?_) rfl (by kernel_rfl) (by kernel_rfl) (by kernel_rfl) (fun _ _ _ h => h) (Or.inl ⟨by rfl, ?_⟩) (by assumption) ?_
        rotate_left
        · intro w hSw; go_simp; first | done | with_reducible rfl
        try simp only [Act.put, List.setIfInBounds_toArray, List.set_cons_zero, List.set_cons_succ]
        refine wpAnyH_take (i := 6) (oi := ⟨some 65, _, _, _, _, _⟩) (v := ?_) rfl (by kernel_rfl) (by kernel_rfl) (by kernel_rfl) (fun _ _ _ h => h) (Or.inl ⟨by rfl, ?_⟩) (by assumption) ?_
        rotate_left
        · intro w hSw; go_simp; first | done | with_reducible rfl
        try simp only [Act.put, List.setIfInBounds_toArray, List.set_cons_zero, List.set_cons_succ]
        refine wpAnyH_take (i := 7) (oi := ⟨some 66, _, _, _, _, _⟩) (v := ?_) rfl (by kernel_rfl) (by kernel_rfl) (by kernel_rfl) (fun _ _ _ h => h) (Or.inl ⟨by rfl, ?_⟩) (by assumption) ?_
        rotate_left
        · intro w hSw; go_simp; first | done | with_reducible rfl
        try simp only [Act.put, List.setIfInBounds_toArray, List.set_cons_zero, List.set_cons_succ]
        refine wpAnyH_take (i := 8) (oi := ⟨some 67, _, _, _, _, _⟩) (v := ?_) rfl (by kernel_rfl) (by kernel_rfl) (by kernel_rfl) (fun _ _ _ h => h) (Or.inl ⟨by rfl, ?_⟩) (by assumption) ?_
        rotate_left
        · intro w hSw; go_simp; first | done | with_reducible rfl
        try simp only [Act.put, List.setIfInBounds_toArray, List.set_cons_zero, List.set_cons_succ]
        refine wpAnyH_take (i := 9) (oi := ⟨some 68, _, _, _, _, _⟩) (v := ?_) rfl (by kernel_rfl) (by kernel_rfl) (by kernel_rfl) (fun _ _ _ h => h) (Or.inl ⟨by rfl, ?_⟩) (by assumption) ?_
        rotate_left
        · intro w hSw; go_simp; first | done | with_reducible rfl
        try simp only [Act.put, List.setIfInBounds_toArray, List.set_cons_zero, List.set_cons_succ]
        refine wpAnyH_take (i := 10) (oi := ⟨some 69, _, _, _, _, _⟩) (v := ?_) rfl (by kernel_rfl) (by kernel_rfl) (by kernel_rfl) (fun _ _ _ h => h) (Or.inl ⟨by rfl, ?_⟩) (by assumption) ?_
        rotate_left
        · intro w hSw; go_simp; first | done | with_reducible rfl
        try simp only [Act.put, List.setIfInBounds_toArray, List.set_cons_zero, List.set_cons_succ]
        refine wpAnyH_take (i := 11) (oi := ⟨some 70, _, _, _, _, _⟩) (v := ?_) rfl (by kernel_rfl) (by kernel_rfl) (by kernel_rfl) (fun _ _ _ h => h) (Or.inl ⟨by rfl, ?_⟩) (by assumption) ?_
        rotate_left
        · intro w hSw; go_simp; first | done | with_reducible rfl
        try simp only [Act.put, List.setIfInBounds_toArray, List.set_cons_zero, List.set_cons_succ]
        refine wpAnyH_take (i := 12) (oi := ⟨some 71, _, _, _, _, _⟩) (v := ?_) rfl (by kernel_rfl) (by kernel_rfl) (by kernel_rfl) (fun _ _ _ h => h) (Or.inl ⟨by rfl, ?_⟩) (by assumption) ?_
        rotate_left
        · intro w hSw; go_simp; first | done | with_reducible rfl
        try simp only [Act.put, List.setIfInBounds_toArray, List.set_cons_zero, List.set_cons_succ]
        refine wpAnyH_take (i := 13) (oi := ⟨some 72, _, _, _, _, _⟩) (v := ?_) rfl (by kernel_rfl) (by kernel_rfl) (by kernel_rfl) (fun _ _ _ h => h) (Or.inl ⟨by rfl, ?_⟩) (by assumption) ?_
        rotate_left
        · intro w hSw; go_simp; first | done | with_reducible rfl
        try simp only [Act.put, List.setIfInBounds_toArray, List.set_cons_zero, List.set_cons_succ]
        refine wpAnyH_take (i := 14) (oi := ⟨some 73, _, _, _, _, _⟩) (v := ?_) rfl (by kernel_rfl) (by kernel_rfl) (by kernel_rfl) (fun _ _ _ h => h) (Or.inl ⟨by rfl, ?_⟩) (by assumption) ?_
        rotate_left
        · intro w hSw; go_simp; first | done | with_reducible rfl
        try simp only [Act.put, List.setIfInBounds_toArray, List.set_cons_zero, List.set_cons_succ]
        refine wpAnyH_take (i := 15) (oi := ⟨some 74, _, _, _, _, _⟩) (v := ?_) rfl (by kernel_rfl) (by kernel_rfl) (by kernel_rfl) (fun _ _ _ h => h) (Or.inl ⟨by rfl, ?_⟩) (by assumption) ?_
        rotate_left
        · intro w hSw; go_simp; first | done | with_reducible rfl
        try simp only [Act.put, List.setIfInBounds_toArray, List.set_cons_zero, List.set_cons_succ]
        refine wpAnyH_take (i := 16) (oi := ⟨some 75, _, _, _, _, _⟩) (v := ?_) rfl (by kernel_rfl) (by kernel_rfl) (by kernel_rfl) (fun _ _ _ h => h) (Or.inl ⟨by rfl, ?_⟩) (by assumption) ?_
        rotate_left
        · intro w hSw; go_simp; first | done | with_reducible rfl
        try simp only [Act.put, List.setIfInBounds_toArray, List.set_cons_zero, List.set_cons_succ]
        refine wpAnyH_take (i := 17) (oi := ⟨some 76, _, _, _, _, _⟩) (v := ?_) rfl (by kernel_rfl) (by kernel_rfl) (by kernel_rfl) (fun _ _ _ h => h) (Or.inl ⟨by rfl, ?_⟩) (by assumption) ?_
        rotate_left
        · intro w hSw; go_simp; first | done | with_reducible rfl
        try simp only [Act.put, List.setIfInBounds_toArray, List.set_cons_zero, List.set_cons_succ]
        refine wpAnyH_take (i := 18) (oi := ⟨some 77, _, _, _, _, _⟩) (v := ?_) rfl (by kernel_rfl) (by kernel_rfl) (by kernel_rfl) (fun _ _ _ h => h) (Or.inl ⟨by rfl, ?_⟩) (by assumption) ?_
        rotate_left
        · intro w hSw; go_simp; first | done | with_reducible rfl
        try simp only [Act.put, List.setIfInBounds_toArray, List.set_cons_zero, List.set_cons_succ]
        refine wpAnyH_take (i := 19) (oi := ⟨some 78, _, _, _, _, _⟩) (v := ?_) rfl (by kernel_rfl) (by kernel_rfl) (by kernel_rfl) (fun _ _ _ h => h) (Or.inl ⟨by rfl, ?_⟩) (by assumption) ?_
        rotate_left
        · intro w hSw; go_simp; first | done | with_reducible rfl
        try simp only [Act.put, List.setIfInBounds_toArray, List.set_cons_zero, List.set_cons_succ]
        refine wpAnyH_take (i := 20) (oi := ⟨some 79, _, _, _, _, _⟩) (v := ?_) rfl (by kernel_rfl) (by kernel_rfl) (by kernel_rfl) (fun _ _ _ h => h) (Or.inl ⟨by rfl, ?_⟩) (by assumption) ?_
        rotate_left
        · intro w hSw; go_simp; first | done | with_reducible rfl
        try simp only [Act.put, List.setIfInBounds_toArray, List.set_cons_zero, List.set_cons_succ]
        refine wpAnyH_take (i := 21) (oi := ⟨some 80, _, _, _, _, _⟩) (v := ?_) rfl (by kernel_rfl) (by kernel_rfl) (by kernel_rfl) (fun _ _ _ h => h) (Or.inl ⟨by rfl, ?_⟩) (by assumption) ?_
        rotate_left
        · intro w hSw; go_simp; first | done | with_reducible rfl
        try simp only [Act.put, List.setIfInBounds_toArray, List.set_cons_zero, List.set_cons_succ]
        refine wpAnyH_take (i := 23) (oi := ⟨some 82, _, _, _, _, _⟩) (v := ?_) rfl (by kernel_rfl) (by kernel_rfl) (by kernel_rfl) (fun _ _ _ h => h) (Or.inl ⟨by rfl, ?_⟩) (by assumption) ?_
        rotate_left
        · intro w hSw; go_simp; first | done | with_reducible rfl
        try simp only [Act.put, List.setIfInBounds_toArray, List.set_cons_zero, List.set_cons_succ]
        refine wpAnyH_take (i := 24) (oi := ⟨some 83, _, _, _, _, _⟩) (v := ?_) rfl (by kernel_rfl) (by kernel_rfl) (by kernel_rfl) (fun _ _ _ h => h) (Or.inl ⟨by rfl, ?_⟩) (by assumption) ?_
        rotate_left
        · intro w hSw; go_simp; first | done | with_reducible rfl
        try simp only [Act.put, List.setIfInBounds_toArray, List.set_cons_zero, List.set_cons_succ]
        refine wpAnyH_ready (rs := [22]) (by kernel_rfl) (by simp) ?_
        refine AllReadyH.cons (o := ⟨some 81, _, _, _, _, _⟩) rfl (fun K hK => ?_) AllReadyH.nil
        go_simp
        refine (HQ1.out _ hHeld).mono ?_
        rintro e wq1 ⟨rfl, hbw⟩
        go_simp
        refine hK.out _ _ (step0 hHeld hbw) (fun hHeld => ?_)
        clear hK K
        try simp only [Act.put, List.setIfInBounds_toArray, List.set_cons_zero, List.set_cons_succ]
        refine wpAnyH_ready (rs := [25]) (by kernel_rfl) (by simp) ?_
        refine AllReadyH.cons (o := ⟨some 84, _, _, _, _, _⟩) rfl (fun K hK => ?_) AllReadyH.nil
        go_simp
        refine (HQ2.out _ hHeld).mono ?_
        rintro e wq2 ⟨rfl, hbw⟩
        go_simp
        refine hK.out _ _ (step0 hHeld hbw) (fun hHeld => ?_)
        clear hK K
        try simp only [Act.put, List.setIfInBounds_toArray, List.set_cons_zero, List.set_cons_succ]
        refine wpAnyH_take (i := 26) (oi := ⟨some 85, _, _, _, _, _⟩) (v := ?_) rfl (by kernel_rfl) (by kernel_rfl) (by kernel_rfl) (fun _ _ _ h => h) (Or.inl ⟨by rfl, ?_⟩) (by assumption) ?_
        rotate_left
        · intro w hSw; go_simp; first | done | with_reducible rfl
        try simp only [Act.put, List.setIfInBounds_toArray, List.set_cons_zero, List.set_cons_succ]
        refine wpAnyH_take (i := 27) (oi := ⟨some 86, _, _, _, _, _⟩) (v := ?_) rfl (by kernel_rfl) (by kernel_rfl) (by kernel_rfl) (fun _ _ _ h => h) (Or.inl ⟨by rfl, ?_⟩) (by assumption) ?_
        rotate_left
        · intro w hSw; go_simp; first | done | with_reducible rfl
        try simp only [Act.put, List.setIfInBounds_toArray, List.set_cons_zero, List.set_cons_succ]
        refine wpAnyH_take (i := 28) (oi := ⟨some 87, _, _, _, _, _⟩) (v := ?_) rfl (by kernel_rfl) (by kernel_rfl) (by kernel_rfl) (fun _ _ _ h => h) (Or.inl ⟨by rfl, ?_⟩) (by assumption) ?_
        rotate_left
        · intro w hSw; go_simp; first | done | with_reducible rfl
        try simp only [Act.put, List.setIfInBounds_toArray, List.set_cons_zero, List.set_cons_succ]
        refine wpAnyH_take (i := 29) (oi := ⟨some 88, _, _, _, _, _⟩) (v := ?_) rfl (by kernel_rfl) (by kernel_rfl) (by kernel_rfl) (fun _ _ _ h => h) (Or.inl ⟨by rfl, ?_⟩) (by assumption) ?_
        rotate_left
        · intro w hSw; go_simp; first | done | with_reducible rfl
        try simp only [Act.put, List.setIfInBounds_toArray, List.set_cons_zero, List.set_cons_succ]
        refine wpAnyH_take (i := 30) (oi := ⟨some 89, _, _, _, _, _⟩) (v := ?_) rfl (by kernel_rfl) (by kernel_rfl) (by kernel_rfl) (fun _ _ _ h => h) (Or.inl ⟨by rfl, ?_⟩) (by assumption) ?_
        rotate_left
        · intro w hSw; go_simp; first | done | with_reducible rfl
        try simp only [Act.put, List.setIfInBounds_toArray, List.set_cons_zero, List.set_cons_succ]
        refine wpAnyH_ready (rs := [31]) (by kernel_rfl) (by simp) ?_
        refine AllReadyH.cons (o := ⟨some 90, _, _, _, _, _⟩) rfl (fun K hK => ?_) AllReadyH.nil
        go_simp
        refine (HQ3.out _ hHeld).mono ?_
        rintro e wq3 ⟨rfl, hbw⟩
        go_simp
        refine hK.out _ _ (step0 hHeld hbw) (fun hHeld => ?_)
        clear hK K
        try simp only [Act.put, List.setIfInBounds_toArray, List.set_cons_zero, List.set_cons_succ]
        refine wpAnyH_take (i := 32) (oi := ⟨some 91, _, _, _, _, _⟩) (v := ?_) rfl (by kernel_rfl) (by kernel_rfl) (by kernel_rfl) (fun _ _ _ h => h) (Or.inl ⟨by rfl, ?_⟩) (by assumption) ?_
        rotate_left
        · intro w hSw; go_simp; first | done | with_reducible rfl
        try simp only [Act.put, List.setIfInBounds_toArray, List.set_cons_zero, List.set_cons_succ]
        refine wpAnyH_take (i := 33) (oi := ⟨some 92, _, _, _, _, _⟩) (v := ?_) rfl (by kernel_rfl) (by kernel_rfl) (by kernel_rfl) (fun _ _ _ h => h) (Or.inl ⟨by rfl, ?_⟩) (by assumption) ?_
        rotate_left
        · intro w hSw; go_simp; first | done | with_reducible rfl
        try simp only [Act.put, List.setIfInBounds_toArray, List.set_cons_zero, List.set_cons_succ]
        refine wpAnyH_ready (rs := [34]) (by kernel_rfl) (by simp) ?_
        refine AllReadyH.cons (o := ⟨some 93, _, _, _, _, _⟩) rfl (fun K hK => ?_) AllReadyH.nil
        go_simp
        refine (HK.out _).mono ?_
        rintro e wq4 ⟨rfl, hbw⟩
        go_simp
        refine hK.out _ _ (step0 hHeld hbw) (fun hHeld => ?_)
        clear hK K
        try simp only [Act.put, List.setIfInBounds_toArray, List.set_cons_zero, List.set_cons_succ]
        have HBE := Lib.hid (HB2.out.trans ((HRL.out.trans (hHeld.mono HRL.out.size)).mono HB2.out.size))
        refine wpAnyH_take (i := 35) (oi := ⟨some 94, _, _, _, _, _⟩) (v := ?_) rfl (by kernel_rfl) (by kernel_rfl) (by kernel_rfl) (fun _ _ _ h => h) (Or.inl ⟨by rfl, ?_⟩) (by assumption) ?_
        rotate_left
        · intro w hSw; go_simp; first | done | with_reducible rfl
        try simp only [Act.put, List.setIfInBounds_toArray, List.set_cons_zero, List.set_cons_succ]
        refine wpAnyH_take (i := 36) (oi := ⟨some 4, _, _, _, _, _⟩) (v := ?_) rfl (by kernel_rfl) (by kernel_rfl) (by kernel_rfl) (fun _ _ _ h => h) (Or.inl ⟨by rfl, ?_⟩) (by assumption) ?_
        rotate_left
        · intro w hSw; go_simp; first | done | with_reducible rfl
        try simp only [Act.put, List.setIfInBounds_toArray, List.set_cons_zero, List.set_cons_succ]
        refine wpAnyH_done (by kernel_rfl) ?_ _
        refine NoPanic.normal ?_
        go_wp2_with fail
        go_ret
        exact ⟨rfl, HBE.out⟩
theorem writes_walk (c : UInt8) (A : Option Addr) (j : Nat) (l : Bs) (d : UInt8) (C : Option Addr) (k : Nat) (p : Bs) (W : World) (ha : Arg W A l j) (hb : Arg W C p k) :
    Calls Try.prog 3 #[.agg #[.int .u8 (c.toNat : Int), .slice A l.length j], .agg #[.int .u8 (d.toNat : Int), .slice C p.length k]] W (boolOf true W) := by
  by_cases h : 600 < l.length ∨ 600 < p.length
  · exact writes_over c d A C l p j k W h
  · exact writes_main c d A C l p j k W ha hb (by omega) (by omega)
end Go.Proofs.Ythaelepggckdbaa.Fe
