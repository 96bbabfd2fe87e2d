/- Proves that the law ResponseReads returns true. Condition: an argument's bytes read. -/
import Derived.Test.YthlfahblnpijaaaSl
import Derived.Test.YthlfahblnpijaaaSr
namespace Go.Proofs.Ythlfahblnpijaaa.Szb
open Go.RowKit Vm Ap Vw Va Gc Mi Mb Qm Sm Se So Sp Sk Sr Sy

/-- The block that a slice of bytes lies in. -/
def At (O : Option Addr) (j : Nat) : Prop := ∃ a, O = some a ∧ a.block = j
set_option maxRecDepth 100000 in
set_option maxHeartbeats 16000000 in
theorem reads_walk (fc : UInt8) (F : Option Addr) (fp : Bs) (fk : Nat) (w : World) (hF : Arg w F fp fk) :
    Calls Try.prog 5 #[.agg #[.int .u8 (fc.toNat : Int), .slice F fp.length fk]] w (boolOf true w) := by
  obtain ⟨w0, hw0⟩ : ∃ w0, w0 = w.alloc (.cells #[.int .u8 (fc.toNat : Int), .slice F fp.length fk] 38) := ⟨_, rfl⟩
  have B0 : Below w.heap.size w w0 := by rw [hw0]; exact alloc_below _ _
  have CF0 : Hid (Cel w0 w.heap.size (.int .u8 (fc.toNat : Int)) (.slice F fp.length fk)) := by show Cel _ _ _ _; rw [hw0]; exact Cel.new _ _ _ _
  have HB0 := Lib.hid B0
  have HF := Lib.hid (fun W (h : Below w.heap.size w W) => arg_below hF h (Nat.le_refl _))
  have HN := Lib.hid hF.non
  have HK := Lib.hid (fun W (h : Below w.heap.size w W) => Sl.known_any W)
  have hmx := hF.max; have hle := hF.le
  unfold maxLen at hmx
  have hfp : fp.length ≤ 9223372036854775807 := by omega
  obtain ⟨C, hC⟩ : ∃ C, C = w.heap.size := ⟨_, rfl⟩
  rw [← hC] at CF0
  clear B0 hF hmx hle
  obtain ⟨q0, q1, _, _⟩ := CF0.out
  by_cases h1000 : 1000 < fp.length
  · have hi : (1000 : Int) < fp.length := by omega
    clear h1000
    go_enter Try.func5, Try.ntmps5
    go_upto_region 1 with fail
    rw [← hw0, ← hC]
    clear hw0 hC
    go_wp2_with fail
    refine (HK.out _ HB0.out).mono ?_
    rintro e w1 ⟨rfl, b1⟩
    have HB1 := Lib.hid (HB0.out.trans (b1.mono HB0.out.size))
    clear b1
    go_wp2_with fail
    go_ret
    exact ⟨rfl, HB1.out⟩
  have hi : ¬ (1000 : Int) < fp.length := by omega
  have hfl : fp.length ≤ 1000 := by omega
  have HRR := Lib.hid (fun W (h : Below w.heap.size w W) => rrd_any fc F fp fk W (HF.out _ h) (by omega))
  have HRD := Lib.hid (fun W A k (h : Below w.heap.size w W) (hA : Rb W A fp) => Sy.read_any fc A fp k W hA (by omega))
  obtain ⟨R, hR⟩ : ∃ R, R = readF fc.toNat fp := ⟨_, rfl⟩
  have HNO : Hid (R = none → ∀ W, Below w.heap.size w W → Calls Try.prog 21 #[.agg #[.int .u8 (fc.toNat : Int), .slice F fp.length fk], (.agg #[.int .i64 0, .int .i64 0, .slice none 0 0, .int .u64 0, .int .i64 0, .slice none 0 0]), .int .i64 6] W (boolOf true W)) := fun h0 W h => by
    have q := reads_any fc F fp fk (startS 0 0) 6 W (HF.out _ h).rd (by omega) (gotS_zero 0 W).rc (gotS_zero 0 W).bnd
    have e : rdB fc.toNat fp (startS 0 0).r 6 = true := by unfold rdB; rw [← hR, h0]; show (eqR (bareR 0 0) (bareR 0 0) && decide ((6 : Int) = 6)) = true; rw [eqR_self]; rfl
    rw [e] at q; exact q
  unfold rrPost at HRR
  unfold rdPost at HRD
  rw [← hR] at HRR HRD
  clear hR h1000
  go_enter Try.func5, Try.ntmps5
  go_upto_region 1 with fail
  rw [← hw0, ← hC]
  have HC := Lib.hid hC
  clear hw0 hC
  go_wp2_with fail
  with_reducible refine (HRR.out _ HB0.out).mono ?_
  rintro e w1 ⟨x, rfl, hg, hx1, hx2, b1⟩
  unfold resV
  have HG1 := Lib.hid hg; have HX1 := Lib.hid hx1
  have HB1 := Lib.hid (HB0.out.trans (b1.mono HB0.out.size))
  have CF1 := Lib.hid (CF0.out.below b1 (Nat.le_refl _))
  have HZ1 := Lib.hid b1.size
  have HCL : Hid (C < w0.heap.size) := CF0.out.lt
  clear hg hx1 hx2 b1 CF0 q0 q1 HRR
  go_upto_region 4 with fail
  obtain ⟨w2, hw2⟩ : ∃ w2, w2 = w1.alloc (resO x) := ⟨_, rfl⟩
  have b2 : Below w1.heap.size w1 w2 := by rw [hw2]; exact alloc_below _ _
  have BX2 : Hid (BoxS w2 w1.heap.size x) := by show BoxS _ _ _; rw [hw2]; exact BoxS.new w1 x
  have HB2 := Lib.hid (HB1.out.trans (b2.mono HB1.out.size))
  have CF2 := Lib.hid (CF1.out.below b2 (Nat.le_refl _))
  have HG2 := Lib.hid (HG1.out.below b2 (Nat.le_refl _))
  have HZ2 : Hid (w0.heap.size ≤ w1.heap.size ∧ w1.heap.size < w2.heap.size) := ⟨HZ1.out, BX2.out.lt⟩
  unfold resO at hw2
  rw [← hw2]
  obtain ⟨X, hX⟩ : ∃ X, X = w1.heap.size := ⟨_, rfl⟩
  rw [← hX] at BX2 HZ2
  rw [← hX]
  clear hw2 b2 CF1 HG1 HB1 hX HZ1
  obtain ⟨q0, q1, _, _⟩ := CF2.out
  cases R with
  | none =>
    have HNO2 := Lib.hid (HNO.out rfl)
    clear HNO
    go_wp2_with fail
    refine (HNO2.out _ HB2.out).mono ?_
    rintro e w3 ⟨rfl, b3⟩
    have HB3 := Lib.hid (HB2.out.trans (b3.mono HB2.out.size))
    clear b3
    go_wp2_with fail
    refine (HK.out _ HB3.out).mono ?_
    rintro e w4 ⟨rfl, b4⟩
    have HB4 := Lib.hid (HB3.out.trans (b4.mono HB3.out.size))
    clear b4
    go_wp2_with fail
    go_ret
    exact ⟨rfl, HB4.out⟩
  | some c =>
  have HXC := Lib.hid (HX1.out c rfl)
  have HA := Lib.hid (HF.out _ HB2.out).rd
  clear HNO HX1
  have cx0 : ∀ v, Below w2.heap.size w2 v → v.cell? ⟨C, 0, none⟩ = some (.int .u8 (fc.toNat : Int)) := fun v h => (CF2.out.below h (Nat.le_refl _)).c0
  have cx1 : ∀ v, Below w2.heap.size w2 v → v.cell? ⟨C, 1, none⟩ = some (.slice F fp.length fk) := fun v h => (CF2.out.below h (Nat.le_refl _)).c1
  go_wp2_with fail
  refine wp_region_noPanic ?_
  refine wp_region_held_drew (S := fun v => Below w2.heap.size w2 v) (by kernel_rfl) ((Below.refl _ _).drew) (fun hHeld => ?_)
  refine wpAnyH_take (i := 0) (oi := ⟨some 27, _, _, _, _, _⟩) (v := ?_) rfl (by kernel_rfl) (by kernel_rfl) (by kernel_rfl) (fun _ _ _ h => h) (Or.inl ⟨by rfl, ?_⟩) (by assumption) ?_
  rotate_left
  · intro w hSw; go_simp; first | done | with_reducible rfl
  try simp only [Act.put, List.setIfInBounds_toArray, List.set_cons_zero, List.set_cons_succ]
  refine wpAnyH_take (i := 1) (oi := ⟨some 28, _, _, _, _, _⟩) (v := ?_) rfl (by kernel_rfl) (by kernel_rfl) (by kernel_rfl) (fun _ _ _ h => h) (Or.inl ⟨by rfl, ?_⟩) (by assumption) ?_
  rotate_left
  · intro w hSw; go_simp; first | done | with_reducible rfl
  try simp only [Act.put, List.setIfInBounds_toArray, List.set_cons_zero, List.set_cons_succ]
  refine wpAnyH_take (i := 2) (oi := ⟨some 29, _, _, _, _, _⟩) (v := ?_) rfl (by kernel_rfl) (by kernel_rfl) (by kernel_rfl) (fun _ _ _ h => h) (Or.inl ⟨by rfl, ?_⟩) (by assumption) ?_
  rotate_left
  · intro w hSw; go_simp; first | done | with_reducible rfl
  try simp only [Act.put, List.setIfInBounds_toArray, List.set_cons_zero, List.set_cons_succ]
  refine wpAnyH_take (i := 3) (oi := ⟨some 30, _, _, _, _, _⟩) (v := ?_) rfl (by kernel_rfl) (by kernel_rfl) (by kernel_rfl) (fun _ _ _ h => h) (Or.inl ⟨by rfl, ?_⟩) (by assumption) ?_
  rotate_left
  · intro w hSw; go_simp; first | done | with_reducible rfl
  try simp only [Act.put, List.setIfInBounds_toArray, List.set_cons_zero, List.set_cons_succ]
  refine wpAnyH_ready (rs := [4, 6]) (by kernel_rfl) (by simp) ?_
  refine AllReadyH.cons (o := ⟨some 31, _, _, _, _, _⟩) rfl (fun K hK => ?wa) (AllReadyH.cons (o := ⟨some 5, _, _, _, _, _⟩) rfl (fun K hK => ?wb) AllReadyH.nil)
  case' wa =>
    refine step_from rfl _ _ rfl rfl (own_nil w2.heap.size _) fp F fk rfl HN.out (HA.out.below hHeld (Nat.le_refl _)) (by simp) (by omega) hHeld.size ?_
    intro v28 w28 h28 g28
    obtain ⟨O, oc, shO⟩ := own_shape h28
    obtain rfl := shO.val
    have HO28 : Hid (Own w2.heap.size w28 (.slice O fp.length oc) fp) := h28
    have SO := Lib.hid shO
    have HB28 := Lib.hid (hHeld.grown g28 hHeld.size (by intro k e; cases e))
    clear h28 g28 shO
    refine hK.out _ _ HB28.out (fun hHeld => ?_)
    clear hK K
    try simp only [Act.put, List.setIfInBounds_toArray, List.set_cons_zero, List.set_cons_succ]
    refine wpAnyH_take (i := 5) (oi := ⟨some 32, _, _, _, _, _⟩) (v := ?_) rfl (by kernel_rfl) (by kernel_rfl) (by kernel_rfl) (fun _ _ _ h => h) (Or.inl ⟨by rfl, ?_⟩) (by assumption) ?_
    rotate_left
    · intro w hSw; go_simp; first | done | with_reducible rfl
    try simp only [Act.put, List.setIfInBounds_toArray, List.set_cons_zero, List.set_cons_succ]
    refine wpAnyH_ready (rs := [6]) (by kernel_rfl) (by simp) ?_
    refine AllReadyH.cons (o := ⟨some 5, _, _, _, _, _⟩) rfl (fun K hK => ?_) AllReadyH.nil
    go_simp
    refine hK.out _ _ (hHeld.alloc hHeld.size _) (fun hHeld => ?_)
    clear hK K
    try simp only [Act.put, List.setIfInBounds_toArray, List.set_cons_zero, List.set_cons_succ]
    refine wpAnyH_ready (rs := [7]) (by kernel_rfl) (by simp) ?_
    refine AllReadyH.cons (o := ⟨none, _, _, _, _, _⟩) rfl (fun K hK => ?_) AllReadyH.nil
    go_simp
    refine hK.out _ _ (HB28.out.alloc HB28.out.size _) (fun hHeld => ?_)
    clear hK K
    try simp only [Act.put, List.setIfInBounds_toArray, List.set_cons_zero, List.set_cons_succ]
    refine wpAnyH_done (by kernel_rfl) ?_ _
    refine NoPanic.normal ?_
    obtain ⟨w5, hw5⟩ : ∃ w5, w5 = w28.alloc (.cells #[.int .u8 (fc.toNat : Int), .slice O fp.length oc] 38) := ⟨_, rfl⟩
    have b5 : Below w28.heap.size w28 w5 := by rw [hw5]; exact alloc_below _ _
    have CF5 : Hid (Cel w5 w28.heap.size (.int .u8 (fc.toNat : Int)) (.slice O fp.length oc)) := by rw [hw5]; exact Cel.new _ _ _ _
    rw [← hw5]
    have HO5 : Hid (Own w2.heap.size w5 (.slice O fp.length oc) fp) := own_below HO28.out b5 (Nat.le_refl _)
    have HB5 : Hid (Below w2.heap.size w2 w5) := HB28.out.trans (b5.mono HB28.out.size)
    have HG5 : Hid (w2.heap.size ≤ w28.heap.size) := HB28.out.size
    have HNE : Hid (∀ a, O = some a → a.block ≠ w28.heap.size) := fun a e => by have := (SO.out.base a e).2; omega
    have HON := Lib.hid SO.out.non; have hol := SO.out.le; have hom := SO.out.max
    clear hw5 b5 hHeld HB28 HO28 SO
    generalize w28.heap.size = g5 at *
  case' wb =>
    go_simp
    refine hK.out _ _ (hHeld.alloc hHeld.size _) (fun hHeld => ?_)
    clear hK K
    try simp only [Act.put, List.setIfInBounds_toArray, List.set_cons_zero, List.set_cons_succ]
    refine wpAnyH_ready (rs := [4]) (by kernel_rfl) (by simp) ?_
    refine AllReadyH.cons (o := ⟨some 31, _, _, _, _, _⟩) rfl (fun K hK => ?_) AllReadyH.nil
    refine step_from rfl _ _ rfl rfl (own_nil (w2.heap.size + 1) _) fp F fk rfl HN.out (HA.out.below hHeld (Nat.le_refl _)) (by simp) (by omega) (by simp) ?_
    intro v28 w28 h28 g28
    obtain ⟨O, oc, shO⟩ := own_shape h28
    obtain rfl := shO.val
    have HO28 : Hid (Own (w2.heap.size + 1) w28 (.slice O fp.length oc) fp) := h28
    have SO := Lib.hid shO
    have hcn : Cel w28 w2.heap.size (.int .u8 0) (.slice none 0 0) := (Cel.new w2.drew (.int .u8 0) (.slice none 0 0) 38).below (below_of_grown g28 (Nat.le_refl _) (by intro k e; cases e)) (Nat.le_refl _)
    have HB28 : Hid (Below w2.heap.size w2 w28) := hHeld.grown g28 hHeld.size (by intro k e; cases e)
    clear h28 g28 shO
    refine hK.out _ _ HB28.out (fun hHeld => ?_)
    clear hK K
    try simp only [Act.put, List.setIfInBounds_toArray, List.set_cons_zero, List.set_cons_succ]
    refine wpAnyH_take (i := 5) (oi := ⟨some 32, _, _, _, _, _⟩) (v := ?_) rfl (by kernel_rfl) (by kernel_rfl) (by kernel_rfl) (fun _ _ _ h => h) (Or.inl ⟨by rfl, ?_⟩) (by assumption) ?_
    rotate_left
    · intro w hSw; go_simp; first | done | with_reducible rfl
    try simp only [Act.put, List.setIfInBounds_toArray, List.set_cons_zero, List.set_cons_succ]
    have CN := Lib.hid hcn
    obtain ⟨cy0, cy1, cf0, cf1⟩ := hcn
    refine wpAnyH_ready (rs := [7]) (by kernel_rfl) (by simp) ?_
    refine AllReadyH.cons (o := ⟨none, _, _, _, _, _⟩) rfl (fun K hK => ?_) AllReadyH.nil
    go_simp
    refine hK.out _ _ ((HB28.out.setCell (Nat.le_refl _) _).setCell (Nat.le_refl _) _) (fun hHeld => ?_)
    clear hK K
    try simp only [Act.put, List.setIfInBounds_toArray, List.set_cons_zero, List.set_cons_succ]
    refine wpAnyH_done (by kernel_rfl) ?_ _
    refine NoPanic.normal ?_
    have hcm := CN.out.set (.int .u8 (fc.toNat : Int)) (.slice O fp.length oc)
    have ho5 : Own w2.heap.size ((w28.setCell ⟨w2.heap.size, 0, none⟩ (.int .u8 (fc.toNat : Int))).setCell ⟨w2.heap.size, 1, none⟩ (.slice O fp.length oc)) (.slice O fp.length oc) fp := own_base (own_grown HO28.out (grown_store (grown_store (World.grownBy.refl w28 (some w2.heap.size)) 0 _) 1 _) (by
      cases O with
      | none => exact Or.inl rfl
      | some a => exact Or.inr (fun e => by have := (SO.out.base a rfl).1; injection e with e; omega))) (by omega)
    obtain ⟨w5, hw5⟩ : ∃ w5, w5 = (w28.setCell ⟨w2.heap.size, 0, none⟩ (.int .u8 (fc.toNat : Int))).setCell ⟨w2.heap.size, 1, none⟩ (.slice O fp.length oc) := ⟨_, rfl⟩
    obtain ⟨g5, hg5⟩ : ∃ g5, g5 = w2.heap.size := ⟨_, rfl⟩
    have HB5 : Hid (Below w2.heap.size w2 w5) := by rw [hw5]; exact (HB28.out.setCell (Nat.le_refl _) _).setCell (Nat.le_refl _) _
    rw [← hw5]
    rw [← hw5] at hcm ho5
    have HO5 := Lib.hid ho5
    have CF5 : Hid (Cel w5 g5 (.int .u8 (fc.toNat : Int)) (.slice O fp.length oc)) := by rw [hg5]; exact hcm
    have HG5 : Hid (w2.heap.size ≤ g5) := by rw [hg5]; exact Nat.le_refl _
    have HNE : Hid (∀ a, O = some a → a.block ≠ g5) := fun a e => by have := (SO.out.base a e).1; omega
    have HON := Lib.hid SO.out.non; have hol := SO.out.le; have hom := SO.out.max
    rw [← hg5]
    clear hw5 hcm ho5 hHeld HB28 HO28 SO hg5 cy0 cy1 cf0 cf1 CN
  all_goals
    unfold maxLen at hom
    clear cx0 cx1 q0 q1
    have HB5W := Lib.hid (HB2.out.trans (HB5.out.mono HB2.out.size))
    have BX5 := Lib.hid (BX2.out.below HB5.out (Nat.le_refl _))
    have HG25 := Lib.hid (HG2.out.below HB5.out (Nat.le_refl _))
    have HOB : Hid (∀ a, O = some a → w2.heap.size ≤ a.block ∧ a.block < w5.heap.size) := fun a e => by
      obtain ⟨O', c', s⟩ := own_shape HO5.out
      have := s.val
      injection this with e1
      exact s.base a (by rw [← e1]; exact e)
    have HRD5 := Lib.hid (HRD.out w5 O oc HB5W.out (Rb.of_own HO5.out))
    clear HRD
    obtain ⟨cz0, cz1, _, _⟩ := CF5.out
    go_wp2_with fail
    with_reducible refine HRD5.out.mono ?_
    rintro e w6 ⟨y, rfl, hg, hy1, _, b6⟩
    have HYC := Lib.hid (hy1 c rfl)
    unfold resV
    have HY6 := Lib.hid hg
    have HB6 := Lib.hid (HB5W.out.trans (b6.mono HB5W.out.size))
    have BX6 := Lib.hid (BX5.out.below b6 (Nat.le_refl _))
    have HX6 := Lib.hid (HG25.out.below b6 (Nat.le_refl _))
    have CF6 := Lib.hid (CF5.out.below b6 (Nat.le_refl _))
    have HO6 := Lib.hid (own_below HO5.out b6 (Nat.le_refl _))
    have HZ6 := Lib.hid b6.size
    clear hg hy1 b6 HRD5 BX5 HG25 HO5 CF5 cz0 cz1
    go_upto_region 8 with fail
    obtain ⟨w7, hw7⟩ : ∃ w7, w7 = w6.alloc (resO y) := ⟨_, rfl⟩
    have b7 : Below w6.heap.size w6 w7 := by rw [hw7]; exact alloc_below _ _
    have BY7 : Hid (BoxS w7 w6.heap.size y) := by show BoxS _ _ _; rw [hw7]; exact BoxS.new w6 y
    have HY7 := Lib.hid (HY6.out.below b7 (Nat.le_refl _))
    have HB7 := Lib.hid (HB6.out.trans (b7.mono HB6.out.size))
    have BX7 := Lib.hid (BX6.out.below b7 (Nat.le_refl _))
    have HX7 := Lib.hid (HX6.out.below b7 (Nat.le_refl _))
    have CF7 := Lib.hid (CF6.out.below b7 (Nat.le_refl _))
    have HO7 := Lib.hid (own_below HO6.out b7 (Nat.le_refl _))
    unfold resO at hw7
    rw [← hw7]
    obtain ⟨Y, hY⟩ : ∃ Y, Y = w6.heap.size := ⟨_, rfl⟩
    rw [← hY] at BY7
    have HYZ : Hid (w5.heap.size ≤ Y) := by show _ ≤ _; rw [hY]; exact HZ6.out
    rw [← hY]
    clear hw7 b7 HY6 HB6 BX6 HX6 CF6 HO6 hY HZ6
    obtain ⟨cz0, cz1, _, _⟩ := CF7.out
    go_wp2_with fail
    clear cz0 cz1
    go_loopw [8, 41] (fun _ i wr => ∃ (n : Nat) (m : Bs), n ≤ fp.length ∧ i = .int .i64 (n : Int) ∧ m.length = fp.length ∧ Own w2.heap.size wr (.slice O fp.length oc) m ∧ Only (At O) w7 wr) (fun _ i _ => fp.length - (intOf i).toNat)
    case atStart => exact ⟨0, fp, Nat.zero_le _, rfl, rfl, HO7.out, Only.refl _ _⟩
    case round =>
      obtain ⟨n, m, hn, rfl, hml, hown, hon⟩ := hrel
      obtain ⟨wo, rfl⟩ : ∃ wo : World, wo = wr := ⟨_, rfl⟩
      have HM := Lib.hid hml
      have HO := Lib.hid hown
      have HON2 := Lib.hid hon
      obtain ⟨cz0, cz1, _, _⟩ := CF7.out
      have hlg : g5 < w7.heap.size := CF7.out.lt
      have nA : ¬ At O g5 := fun ⟨a, e, h⟩ => HNE.out a e h
      have pz1 : wo.cell? ⟨g5, 1, none⟩ = some (.slice O fp.length oc) := by rw [hon.cell (a := ⟨g5, 1, none⟩) hlg nA]; exact cz1
      clear cz0 cz1 hlg nA
      by_cases hlt : n < fp.length
      · have hform := own_form (by rw [hml]; exact hown : Own w2.heap.size wo (.slice O m.length oc) m)
        rcases hform with ⟨_, hnil⟩ | ⟨g, cap, hv, hBg, hgl, hcap⟩
        · rw [hnil] at hml; simp at hml; omega
        · simp only [Value.slice.injEq] at hv
          obtain ⟨rfl, _, rfl⟩ := hv
          have hnm : n < m.length := by omega
          obtain ⟨hc0, hf0⟩ := own_cell hml hown hnm
          obtain ⟨b, hb⟩ : ∃ b, b = m[n]'hnm := ⟨_, rfl⟩
          rw [← hb] at hc0
          have hx := b.toNat_lt
          have HS := Lib.hid (own_store hml hown n ((b.toNat + 1) % 256) (by omega))
          have e256 : ((b.toNat : Int) + 1) % 256 = (((b.toNat + 1) % 256 : Nat) : Int) := by omega
          have E256 := Lib.hid e256
          have i1 : (n : Int) < fp.length := by omega
          clear hml hown hon hb e256 hnm
          go_wp2_with fail
          go_roundw
          case rel => exact ⟨n + 1, m.set n (UInt8.ofNat ((b.toNat + 1) % 256)), by omega, by go_num, by rw [List.length_set]; exact HM.out, by rw [E256.out]; exact HS.out, HON2.out.put (ad := ⟨g, n, none⟩) ⟨_, rfl, rfl⟩ _⟩
          case measure => simp [intOf]; omega
      · obtain rfl : n = fp.length := by omega
        have hnn : ¬ (fp.length : Int) < fp.length := by omega
        have HZZ : Hid (X < w2.heap.size ∧ w0.heap.size ≤ X) := ⟨HZ2.out.2, HZ2.out.1⟩
        have HBo : Hid (Below w.heap.size w wo) := HB7.out.trans (hon.below (fun j ⟨a, e, h⟩ => by have h1 := (HOB.out a e).1; have h2 := HB2.out.size; omega) HB7.out.size)
        have BXo := Lib.hid (BX7.out.only hon (fun ⟨a, e, h⟩ => by have h1 := (HOB.out a e).1; have h2 := HZZ.out.1; omega))
        have BYo := Lib.hid (BY7.out.only hon (fun ⟨a, e, h⟩ => by have h1 := (HOB.out a e).2; have h2 := HYZ.out; omega))
        have HYo := Lib.hid (HY7.out.only hon (fun j hj _ ⟨a, e, h⟩ => by have h1 := (HOB.out a e).2; omega))
        have HXo : Hid (RRc wo x) := HX7.out.rc.only hon (fun a ha ⟨b, e, h⟩ => by have h1 := (HOB.out b e).1; have h2 := (HG2.out.bi a ha).2; omega) (fun q hq a ha ⟨b, e, h⟩ => by have h1 := (HOB.out b e).1; have h2 := (HG2.out.bv q hq a ha).2; omega) (fun a ha ⟨b, e, h⟩ => by have h1 := (HOB.out b e).1; have h2 := (HG2.out.bn a ha).2; omega)
        have HQ : Hid (∀ W, Below wo.heap.size wo W → Calls Try.prog 12 #[resV y, resV x] W (boolOf true W)) := fun W h => by
          have q := St.requal_any y x W (HYo.out.rc.below h (Nat.le_refl _)) (HXo.out.below h (Nat.le_refl _)) HYo.out.bnd HX7.out.bnd
          rw [HYC.out, HXC.out, eqR_self] at q; exact q
        unfold resV at HQ
        clear hml hown hon pz1
        obtain ⟨c0, c1, c2, c3, c4, c5, _⟩ := BXo.out
        obtain ⟨d0, d1, d2, d3, d4, d5, _⟩ := BYo.out
        go_wp2_with fail
        refine (HQ.out _ (Below.refl _ _)).mono ?_
        rintro e w8 ⟨rfl, b8⟩
        have HB8 := Lib.hid (HBo.out.trans (b8.mono HBo.out.size))
        clear b8 c0 c1 c2 c3 c4 c5 d0 d1 d2 d3 d4 d5
        go_wp2_with fail
        refine (HK.out _ HB8.out).mono ?_
        rintro e w9 ⟨rfl, b9⟩
        have HB9 := Lib.hid (HB8.out.trans (b9.mono HB8.out.size))
        clear b9
        go_wp2_with fail
        go_ret
        exact ⟨rfl, HB9.out⟩
end Go.Proofs.Ythlfahblnpijaaa.Szb
