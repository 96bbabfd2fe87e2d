/- Proves what package response's Valid returns: whether a response is valid. Conditions: responses of bounded parts. -/
import Derived.Test.YthlfahblnpijaaaDoorSga
import Derived.Test.YthlfahblnpijaaaDoorSc
import Derived.Deep.Cut
namespace Go.Proofs.YthlfahblnpijaaaDoor.Sg
open Go.RowKit Vm Ap Vw Va Gc Mi Mb Qm Sm Se So St Sb Sc

theorem has_at (a m : Nat) (i : Int) (hi : (m : Int) = i) (w : World) (ha : a < 32) (hm : m < 32) : Calls Tryd.prog 16 #[.int .u64 (a : Int), .int .u64 i] w fun e w' => e = .returned (.bool (hasB a m)) ∧ w = w' := by subst hi; exact has_any a m w ha hm
set_option maxRecDepth 100000 in
set_option maxHeartbeats 2000000 in
theorem validI_any (y : Im) (w : World) (hr : Rb w y.A y.i.value) (hl : y.i.value.length ≤ 1000000) : Calls Tryd.prog 31 #[imV y] w (boolOf (okI y.i) w) := by
  unfold imV
  obtain ⟨C, hC⟩ : ∃ C, C = w.heap.size := ⟨_, rfl⟩
  obtain ⟨w0, hw0⟩ : ∃ w0, w0 = w.alloc (imO y) := ⟨_, rfl⟩
  have HB : Hid (Below w.heap.size w w0) := by show Below _ _ _; rw [hw0]; exact alloc_below _ _
  have bA : BoxI w0 C y := by rw [hw0, hC]; exact BoxI.new w y
  obtain ⟨a0, a1, a2, a3, _⟩ := bA
  have HE : Hid (okI y.i = ((decide (y.i.mark ≠ 0) || decide (y.i = zeroI)) && (decide (0 ≤ y.i.mark) && (decide (y.i.mark ≤ 2) && decide (y.i.value.length ≤ 65536))))) := rfl
  have HQ : Hid (Calls Tryd.prog 55 #[.agg #[.int .i64 y.i.mark, .slice y.A y.i.value.length y.k, .int .u64 (y.i.version : Int), .int .u64 (y.i.dead : Int)], .agg #[.int .i64 0, .slice none 0 0, .int .u64 0, .int .u64 0]] w0 (boolOf (eqI y.i zeroI) w0)) := equalI_any y zeroM w0 (hr.below HB.out (Nat.le_refl _)) (Rb.nil _ _)
  unfold imO at hw0
  clear hr
  by_cases h0 : y.i.mark = 0
  · have e0 : (y.i.mark == 0) = true := by rw [h0]; rfl
    have HF : Hid (okI y.i = eqI y.i zeroI) := by
      show _ = _; rw [HE.out, eqI_dec, h0]
      by_cases hz : y.i = zeroI
      · simp [hz, zeroI]
      · simp [hz]
    rw [HF.out]
    generalize eqI y.i zeroI = q at *
    clear h0 HE HF
    go_enter Tryd.func31, Tryd.ntmps31
    go_upto_region 1 with fail
    rw [← hw0, ← hC]
    clear hw0 hC
    go_wp2_with fail
    refine HQ.out.mono ?_
    rintro e w1 ⟨rfl, b1⟩
    have HB1 := Lib.hid (HB.out.trans (b1.mono HB.out.size))
    clear b1
    go_wp2_with fail
    go_ret
    exact ⟨rfl, HB1.out⟩
  have e0 : (y.i.mark == 0) = false := by rw [beq_eq_false_iff_ne]; exact h0
  by_cases h1 : y.i.mark = 1 ∨ y.i.mark = 2
  · have HF : Hid (okI y.i = decide (y.i.value.length ≤ 65536)) := by
      show _ = _; rw [HE.out]; rcases h1 with h1 | h1 <;> simp [h1]
    rw [HF.out]
    have hg : (y.i.mark == 1) = true ∨ ((y.i.mark == 1) = false ∧ (y.i.mark == 2) = true) := by
      rcases h1 with h1 | h1
      · exact Or.inl (by rw [h1]; rfl)
      · exact Or.inr ⟨by rw [h1]; rfl, by rw [h1]; rfl⟩
    rcases hg with e1 | ⟨e1, e2⟩
    all_goals
      clear h0 HE HF HQ h1
      go_enter Tryd.func31, Tryd.ntmps31
      go_upto_region 1 with fail
      rw [← hw0, ← hC]
      clear hw0 hC
      go_wp2_with fail
      go_ret
      exact ⟨ret_b (by rw [Bool.eq_iff_iff]; simp; omega), HB.out⟩
  · have HF : Hid (okI y.i = false) := by
      show _ = _; rw [HE.out, Bool.eq_false_iff]; simp; intro _ _ _; omega
    have e1 : (y.i.mark == 1) = false := by rw [beq_eq_false_iff_ne]; omega
    have e2 : (y.i.mark == 2) = false := by rw [beq_eq_false_iff_ne]; omega
    rw [HF.out]
    clear h0 HE HF HQ h1
    go_enter Tryd.func31, Tryd.ntmps31
    go_upto_region 1 with fail
    rw [← hw0, ← hC]
    clear hw0 hC
    go_wp2_with fail
    go_ret
    exact ⟨rfl, HB.out⟩
theorem all_no {l : List Im} {k : Nat} (hk : k < l.length) (h : okI l[k].i = false) : (l.map (·.i)).all okI = false := by
  rw [Bool.eq_false_iff]; intro e
  rw [List.all_eq_true] at e
  rw [e _ (List.mem_map.2 ⟨_, List.getElem_mem hk, rfl⟩)] at h; cases h
theorem all_yes {l : List Im} (h : ∀ j (h1 : j < l.length), okI l[j].i = true) : (l.map (·.i)).all okI = true := by
  rw [List.all_eq_true]
  intro y hy
  obtain ⟨z, hz, rfl⟩ := List.mem_map.1 hy
  obtain ⟨j, hj, rfl⟩ := List.getElem_of_mem hz
  exact h j hj
set_option maxRecDepth 100000 in
set_option maxHeartbeats 4000000 in
theorem validIs_any (nm : Nat) (A : Option Addr) (l : List Im) (c : Nat) (w : World) (hnm : nm < 32) (hA : RIs w A l) (hl : l.length ≤ 1000000) (hv : ∀ y ∈ l, y.i.value.length ≤ 1000000) :
    Calls Tryd.prog 17 #[.int .u64 (nm : Int), .slice A l.length c] w (boolOf (vItems nm (l.map (·.i))) w) := by
  have HV : Hid (vItems nm (l.map (·.i)) = (decide (leastN nm ≤ l.length) && (decide (l.length ≤ mostN nm) && (l.map (·.i)).all okI))) := by show _ = _; unfold vItems; rw [List.length_map]
  have H4 := Lib.hid (fun W => has_at nm 4 4 rfl W hnm (by omega))
  have H8 := Lib.hid (fun W => has_at nm 8 8 rfl W hnm (by omega))
  have HRA := Lib.hid hA
  have HVL := Lib.hid hv
  have HN := Lib.hid (fun k h => all_no (l := l) (k := k) h)
  have HY := Lib.hid (all_yes (l := l))
  obtain ⟨E, hE⟩ : ∃ E, E = vItems nm (l.map (·.i)) := ⟨_, rfl⟩
  rw [← hE] at HV ⊢
  unfold leastN mostN at HV
  generalize (l.map (·.i)).all okI = Q at *
  generalize hasB nm 4 = h4 at *
  generalize hasB nm 8 = h8 at *
  clear hE hA hv hnm
  have key : ∀ (le mo : Nat), le ≤ 16 → mo ≤ 16 → Hid (E = (decide (le ≤ l.length) && (decide (l.length ≤ mo) && Q))) → True := fun _ _ _ _ _ => trivial
  clear key
  go_enter Tryd.func17, Tryd.ntmps17
  go_wp2_with fail
  with_reducible refine (H4.out _).mono ?_
  rintro e wx ⟨rfl, rfl⟩
  cases h4
  rotate_left
  · simp only [if_true] at HV
    by_cases g1 : 1 ≤ l.length
    rotate_left
    · have e1 : decide ((l.length : Int) < 1) = true := decide_eq_true (by omega)
      have HF : Hid (E = false) := by show _ = _; rw [HV.out, decide_eq_false g1]; simp
      clear g1 HV
      go_wp2_with fail
      go_ret
      exact ⟨ret_b HF.out.symm, Below.refl _ _⟩
    have e1 : decide ((l.length : Int) < 1) = false := decide_eq_false (by omega)
    by_cases g2 : l.length ≤ 1
    rotate_left
    · have e2 : decide ((1 : Int) < l.length) = true := decide_eq_true (by omega)
      have HF : Hid (E = false) := by show _ = _; rw [HV.out, decide_eq_false g2]; simp
      clear g2 HV g1
      go_wp2_with fail
      go_ret
      exact ⟨ret_b HF.out.symm, Below.refl _ _⟩
    have e2 : decide ((1 : Int) < l.length) = false := decide_eq_false (by omega)
    have HE2 : Hid (E = Q) := by show _ = _; rw [HV.out, decide_eq_true g1, decide_eq_true g2]; rfl
    clear g2 HV g1
    go_wp2_with fail
    go_loopw [27] (fun i wr => ∃ (k : Nat), k ≤ l.length ∧ i = .int .i64 (k : Int) ∧ Below w.heap.size w wr ∧ (∀ j (h1 : j < l.length), j < k → okI l[j].i = true)) (fun i _ => l.length - (intOf i).toNat)
    case atStart => exact ⟨0, Nat.zero_le _, rfl, Below.refl _ _, fun j _ h => by omega⟩
    case round =>
      obtain ⟨k, hk, rfl, hbw, hall⟩ := hrel
      obtain ⟨wo, rfl⟩ : ∃ wo : World, wo = wr := ⟨_, rfl⟩
      have HBW := Lib.hid hbw; have HALL := Lib.hid hall
      clear hbw hall e1 e2
      by_cases hlt : k < l.length
      · have i1 : (k : Int) < l.length := by omega
        have RA := Lib.hid (HRA.out.below HBW.out (Nat.le_refl _))
        obtain ⟨p1, o1, rfl, l1, c10, c11, c12, c13⟩ := RA.out.ri.at_ hlt
        have HV1 := Lib.hid (RA.out.rv _ (List.getElem_mem hlt))
        have hvl := HVL.out _ (List.getElem_mem hlt)
        have HQ : Hid (okI l[k].i = false → E = false) := fun h => by rw [HE2.out]; exact HN.out k hlt h
        have HNX : Hid (okI l[k].i = true → ∀ j (h1 : j < l.length), j < k + 1 → okI l[j].i = true) := fun h j h1 hj => by
          by_cases hjk : j = k
          · subst hjk; exact h
          · exact HALL.out j h1 (by omega)
        obtain ⟨x, hx⟩ : ∃ x, x = l[k] := ⟨_, rfl⟩
        rw [← hx] at c10 c11 c12 c13 HV1 HQ HNX hvl
        obtain ⟨w4, hw4⟩ : ∃ w4, w4 = wo.alloc (imO x) := ⟨_, rfl⟩
        have b4 : Below wo.heap.size wo w4 := by rw [hw4]; exact alloc_below _ _
        obtain ⟨D, hD⟩ : ∃ D, D = wo.heap.size := ⟨_, rfl⟩
        have bA : BoxI w4 D x := by rw [hw4, hD]; exact BoxI.new wo x
        obtain ⟨a0, a1, a2, a3, _⟩ := bA
        have HIT := Lib.hid (validI_any x w4 (HV1.out.below b4 (Nat.le_refl _)) hvl)
        have HB4 := Lib.hid (HBW.out.trans (b4.mono HBW.out.size))
        unfold imV at HIT
        unfold imO at hw4
        generalize okI x.i = eb at *
        clear hx HV1 b4
        go_upto_region 11 with fail
        rw [← hw4, ← hD]
        clear hw4 hD c10 c11 c12 c13 l1
        go_wp2_with fail
        with_reducible refine HIT.out.mono ?_
        rintro e w5 ⟨rfl, b5⟩
        have HB5 := Lib.hid (HB4.out.trans (b5.mono HB4.out.size))
        clear b5 a0 a1 a2 a3
        cases eb
        · have HF : Hid (E = false) := HQ.out rfl
          go_wp2_with fail
          go_ret
          exact ⟨ret_b HF.out.symm, HB5.out⟩
        · go_wp2_with fail
          go_roundw
          case rel => exact ⟨k + 1, by omega, by go_num, HB5.out, HNX.out trivial⟩
          case measure => simp [intOf]; omega
      · obtain rfl : k = l.length := by omega
        have hnn : ¬ (l.length : Int) < l.length := by omega
        have HT : Hid (E = true) := by show _ = _; rw [HE2.out]; exact HY.out (fun j h => HALL.out j h h)
        clear HALL
        go_wp2_with fail
        go_ret
        exact ⟨ret_b HT.out.symm, HBW.out⟩
  go_wp2_with fail
  with_reducible refine (H8.out _).mono ?_
  rintro e wx ⟨rfl, rfl⟩
  cases h8
  rotate_left
  · simp only [if_true, if_false, Bool.false_eq_true] at HV
    by_cases g1 : 1 ≤ l.length
    rotate_left
    · have e1 : decide ((l.length : Int) < 1) = true := decide_eq_true (by omega)
      have HF : Hid (E = false) := by show _ = _; rw [HV.out, decide_eq_false g1]; simp
      clear g1 HV
      go_wp2_with fail
      go_ret
      exact ⟨ret_b HF.out.symm, Below.refl _ _⟩
    have e1 : decide ((l.length : Int) < 1) = false := decide_eq_false (by omega)
    by_cases g2 : l.length ≤ 16
    rotate_left
    · have e2 : decide ((16 : Int) < l.length) = true := decide_eq_true (by omega)
      have HF : Hid (E = false) := by show _ = _; rw [HV.out, decide_eq_false g2]; simp
      clear g2 HV g1
      go_wp2_with fail
      go_ret
      exact ⟨ret_b HF.out.symm, Below.refl _ _⟩
    have e2 : decide ((16 : Int) < l.length) = false := decide_eq_false (by omega)
    have HE2 : Hid (E = Q) := by show _ = _; rw [HV.out, decide_eq_true g1, decide_eq_true g2]; rfl
    clear g2 HV g1
    go_wp2_with fail
    go_loopw [27] (fun i wr => ∃ (k : Nat), k ≤ l.length ∧ i = .int .i64 (k : Int) ∧ Below w.heap.size w wr ∧ (∀ j (h1 : j < l.length), j < k → okI l[j].i = true)) (fun i _ => l.length - (intOf i).toNat)
    case atStart => exact ⟨0, Nat.zero_le _, rfl, Below.refl _ _, fun j _ h => by omega⟩
    case round =>
      obtain ⟨k, hk, rfl, hbw, hall⟩ := hrel
      obtain ⟨wo, rfl⟩ : ∃ wo : World, wo = wr := ⟨_, rfl⟩
      have HBW := Lib.hid hbw; have HALL := Lib.hid hall
      clear hbw hall e1 e2
      by_cases hlt : k < l.length
      · have i1 : (k : Int) < l.length := by omega
        have RA := Lib.hid (HRA.out.below HBW.out (Nat.le_refl _))
        obtain ⟨p1, o1, rfl, l1, c10, c11, c12, c13⟩ := RA.out.ri.at_ hlt
        have HV1 := Lib.hid (RA.out.rv _ (List.getElem_mem hlt))
        have hvl := HVL.out _ (List.getElem_mem hlt)
        have HQ : Hid (okI l[k].i = false → E = false) := fun h => by rw [HE2.out]; exact HN.out k hlt h
        have HNX : Hid (okI l[k].i = true → ∀ j (h1 : j < l.length), j < k + 1 → okI l[j].i = true) := fun h j h1 hj => by
          by_cases hjk : j = k
          · subst hjk; exact h
          · exact HALL.out j h1 (by omega)
        obtain ⟨x, hx⟩ : ∃ x, x = l[k] := ⟨_, rfl⟩
        rw [← hx] at c10 c11 c12 c13 HV1 HQ HNX hvl
        obtain ⟨w4, hw4⟩ : ∃ w4, w4 = wo.alloc (imO x) := ⟨_, rfl⟩
        have b4 : Below wo.heap.size wo w4 := by rw [hw4]; exact alloc_below _ _
        obtain ⟨D, hD⟩ : ∃ D, D = wo.heap.size := ⟨_, rfl⟩
        have bA : BoxI w4 D x := by rw [hw4, hD]; exact BoxI.new wo x
        obtain ⟨a0, a1, a2, a3, _⟩ := bA
        have HIT := Lib.hid (validI_any x w4 (HV1.out.below b4 (Nat.le_refl _)) hvl)
        have HB4 := Lib.hid (HBW.out.trans (b4.mono HBW.out.size))
        unfold imV at HIT
        unfold imO at hw4
        generalize okI x.i = eb at *
        clear hx HV1 b4
        go_upto_region 11 with fail
        rw [← hw4, ← hD]
        clear hw4 hD c10 c11 c12 c13 l1
        go_wp2_with fail
        with_reducible refine HIT.out.mono ?_
        rintro e w5 ⟨rfl, b5⟩
        have HB5 := Lib.hid (HB4.out.trans (b5.mono HB4.out.size))
        clear b5 a0 a1 a2 a3
        cases eb
        · have HF : Hid (E = false) := HQ.out rfl
          go_wp2_with fail
          go_ret
          exact ⟨ret_b HF.out.symm, HB5.out⟩
        · go_wp2_with fail
          go_roundw
          case rel => exact ⟨k + 1, by omega, by go_num, HB5.out, HNX.out trivial⟩
          case measure => simp [intOf]; omega
      · obtain rfl : k = l.length := by omega
        have hnn : ¬ (l.length : Int) < l.length := by omega
        have HT : Hid (E = true) := by show _ = _; rw [HE2.out]; exact HY.out (fun j h => HALL.out j h h)
        clear HALL
        go_wp2_with fail
        go_ret
        exact ⟨ret_b HT.out.symm, HBW.out⟩
  simp only [if_false, Bool.false_eq_true] at HV
  have e1 : decide ((l.length : Int) < 0) = false := decide_eq_false (by omega)
  by_cases g2 : l.length ≤ 0
  rotate_left
  · have e2 : decide ((0 : Int) < l.length) = true := decide_eq_true (by omega)
    have hpos : 0 < l.length := by omega
    have HF : Hid (E = false) := by show _ = _; rw [HV.out, decide_eq_false g2]; simp
    clear g2 HV
    go_wp2_with fail
    go_ret
    exact ⟨ret_b HF.out.symm, Below.refl _ _⟩
  have e2 : decide ((0 : Int) < l.length) = false := decide_eq_false (by omega)
  have HE2 : Hid (E = Q) := by show _ = _; rw [HV.out, decide_eq_true (Nat.zero_le _), decide_eq_true g2]; rfl
  have HL0 : Hid (l = []) := List.eq_nil_of_length_eq_zero (by omega)
  clear g2 HV
  have hle := HL0.out
  have HT : Hid (E = true) := by show _ = _; rw [HE2.out]; exact HY.out (fun j h => by rw [hle] at h; simp at h)
  subst hle
  simp only [List.length_nil] at e1 e2
  go_wp2_with fail
  go_loopw [27] (fun i wr => i = .int .i64 0 ∧ Below w.heap.size w wr) (fun _ _ => 0)
  case atStart => exact ⟨rfl, Below.refl _ _⟩
  case round =>
    obtain ⟨rfl, hbw⟩ := hrel
    go_wp2_with fail
    go_ret
    exact ⟨ret_b HT.out.symm, hbw⟩
set_option maxRecDepth 100000 in
set_option maxHeartbeats 8000000 in
theorem valid_any (x : Res) (w : World) (hr : RRc w x) (hb : BndS x) : Calls Tryd.prog 7 #[resV x] w (boolOf (validS x.r) w) := by
  rw [← valid_go]
  unfold resV
  obtain ⟨C, hC⟩ : ∃ C, C = w.heap.size := ⟨_, rfl⟩
  obtain ⟨w0, hw0⟩ : ∃ w0, w0 = w.alloc (resO x) := ⟨_, rfl⟩
  have HB : Hid (Below w.heap.size w w0) := by show Below _ _ _; rw [hw0]; exact alloc_below _ _
  have HBX : Hid (BoxS w0 C x) := by show BoxS _ _ _; rw [hw0, hC]; exact BoxS.new w x
  have HR := Lib.hid (fun W (h : Below w0.heap.size w0 W) => (hr.below HB.out (Nat.le_refl _)).below h (Nat.le_refl _))
  have HHN : Hid (okHead x.r = false → validGo x.r = false) := fun h => by unfold validGo; rw [h]; rfl
  have HHY : Hid (okHead x.r = true → validGo x.r = validN (setN (bodyK x.op x.err)) x.r) := fun h => by unfold validGo; rw [h]; rfl
  have HOK : Hid (okHead x.r = (decide (0 ≤ x.op) && (decide (x.op ≤ 15) && (decide (0 ≤ x.err) && (decide (x.err ≤ 100000) && (!(decide (x.op = 0) && decide (x.err = 0)))))))) := rfl
  have HBO := Lib.hid (fun W => body_any x.op x.err W)
  have hnm := setN_lt (bodyK x.op x.err)
  have zi := hb.items; have zn := hb.numbers
  have HVB := Lib.hid (fun y hy => (hb.each y hy).2.1)
  obtain ⟨ks, hks⟩ : ∃ ks, ks = bodyK x.op x.err := ⟨_, rfl⟩
  rw [← hks] at HBO hnm HHY
  clear hks
  have HVN : Hid (validN (setN ks) x.r = ((decide (x.version = 0) || hasB (setN ks) 1) && ((decide (x.count = 0) || (hasB (setN ks) 2 && (decide (0 < x.count) && decide (x.count ≤ 1099511627776)))) && ((decide (x.numbers.length = 0) || (hasB (setN ks) 16 && decide (x.numbers.length ≤ 64))) && vItems (setN ks) (x.items.map (·.i)))))) := rfl
  have HVI := Lib.hid (fun W (h : Below w0.heap.size w0 W) => validIs_any (setN ks) x.IA x.items x.ik W hnm ⟨(HR.out W h).ri, (HR.out W h).rv⟩ (by omega) HVB.out)
  unfold togPost togV at HBO
  generalize validGo x.r = E at *
  unfold resO at hw0
  clear hr hb
  obtain ⟨a0, a1, a2, a3, a4, a5, _⟩ := HBX.out
  by_cases g0 : x.op < 0
  · have HF : Hid (E = false) := HHN.out (by rw [HOK.out, Bool.eq_false_iff]; simp; omega)
    have e0 : decide (x.op < 0) = true := decide_eq_true g0
    go_enter Tryd.func7, Tryd.ntmps7
    go_upto_region 1 with fail
    rw [← hw0, ← hC]
    clear hw0 hC
    go_wp2_with fail
    go_ret
    exact ⟨ret_b HF.out.symm, HB.out⟩
  have e0 : decide (x.op < 0) = false := decide_eq_false g0
  by_cases g1 : 15 < x.op
  · have HF : Hid (E = false) := HHN.out (by rw [HOK.out, Bool.eq_false_iff]; simp; omega)
    have e1 : decide (15 < x.op) = true := decide_eq_true g1
    go_enter Tryd.func7, Tryd.ntmps7
    go_upto_region 1 with fail
    rw [← hw0, ← hC]
    clear hw0 hC
    go_wp2_with fail
    go_ret
    exact ⟨ret_b HF.out.symm, HB.out⟩
  have e1 : decide (15 < x.op) = false := decide_eq_false g1
  by_cases g2 : x.err < 0
  · have HF : Hid (E = false) := HHN.out (by rw [HOK.out, Bool.eq_false_iff]; simp; omega)
    have e2 : decide (x.err < 0) = true := decide_eq_true g2
    go_enter Tryd.func7, Tryd.ntmps7
    go_upto_region 1 with fail
    rw [← hw0, ← hC]
    clear hw0 hC
    go_wp2_with fail
    go_ret
    exact ⟨ret_b HF.out.symm, HB.out⟩
  have e2 : decide (x.err < 0) = false := decide_eq_false g2
  by_cases g3 : 100000 < x.err
  · have HF : Hid (E = false) := HHN.out (by rw [HOK.out, Bool.eq_false_iff]; simp; omega)
    have e3 : decide (100000 < x.err) = true := decide_eq_true g3
    go_enter Tryd.func7, Tryd.ntmps7
    go_upto_region 1 with fail
    rw [← hw0, ← hC]
    clear hw0 hC
    go_wp2_with fail
    go_ret
    exact ⟨ret_b HF.out.symm, HB.out⟩
  have e3 : decide (100000 < x.err) = false := decide_eq_false g3
  by_cases g4 : x.op = 0 ∧ x.err = 0
  · have HF : Hid (E = false) := HHN.out (by rw [HOK.out, Bool.eq_false_iff]; simp; omega)
    have e4 : (x.op == 0) = true := by rw [g4.1]; rfl
    have e5 : (x.err == 0) = true := by rw [g4.2]; rfl
    clear g4
    go_enter Tryd.func7, Tryd.ntmps7
    go_upto_region 1 with fail
    rw [← hw0, ← hC]
    clear hw0 hC
    go_wp2_with fail
    go_ret
    exact ⟨ret_b HF.out.symm, HB.out⟩
  have HE : Hid (E = validN (setN ks) x.r) := HHY.out (by rw [HOK.out]; simp; omega)
  rw [HVN.out] at HE
  have hg : ((x.op == 0) = true ∧ (x.err == 0) = false) ∨ (x.op == 0) = false := by
    by_cases h : x.op = 0
    · exact Or.inl ⟨by rw [h]; rfl, by rw [beq_eq_false_iff_ne]; exact fun e => g4 ⟨h, e⟩⟩
    · exact Or.inr (by rw [beq_eq_false_iff_ne]; exact h)
  have H1 := Lib.hid (fun W => has_at (setN ks) 1 1 rfl W hnm (by omega))
  have H2 := Lib.hid (fun W => has_at (setN ks) 2 2 rfl W hnm (by omega))
  have H16 := Lib.hid (fun W => has_at (setN ks) 16 16 rfl W hnm (by omega))
  have ev : ((x.version : Int) == 0) = decide (x.version = 0) := by rw [Bool.eq_iff_iff, beq_iff_eq, decide_eq_true_eq]; omega
  have ec : (x.count == 0) = decide (x.count = 0) := by rw [Bool.eq_iff_iff]; simp
  have hn0 : ∀ b, decide (x.numbers.length = 0) = b → ((x.numbers.length : Int) == 0) = b := fun b h => by rw [← h, Bool.eq_iff_iff, beq_iff_eq, decide_eq_true_eq]; omega
  have hn1 : decide ((x.numbers.length : Int) ≤ 64) = decide (x.numbers.length ≤ 64) := by rw [Bool.eq_iff_iff, decide_eq_true_eq, decide_eq_true_eq]; omega
  obtain ⟨en, hen⟩ : ∃ en, en = decide (x.numbers.length = 0) := ⟨_, rfl⟩
  have hnn := hn0 en hen.symm
  rw [← hen] at HE
  generalize decide (x.version = 0) = v0 at *
  generalize decide (x.count = 0) = c0 at *
  obtain ⟨cp, hcp⟩ : ∃ cp, decide (0 < x.count) = cp := ⟨_, rfl⟩
  obtain ⟨cm, hcm⟩ : ∃ cm, decide (x.count ≤ 1099511627776) = cm := ⟨_, rfl⟩
  rw [hcp, hcm] at HE
  generalize decide (x.numbers.length ≤ 64) = nl at *
  generalize hasB (setN ks) 1 = h1 at *
  generalize hasB (setN ks) 2 = h2 at *
  generalize hasB (setN ks) 16 = h16 at *
  generalize setN ks = nm at *
  generalize vItems nm (x.items.map (·.i)) = vi at *
  have hnil : (en = true → x.numbers = []) ∧ (en = false → x.numbers ≠ []) := ⟨fun h => by rw [hen] at h; exact List.eq_nil_of_length_eq_zero (of_decide_eq_true h), fun h e => by rw [hen, e] at h; simp at h⟩
  have HNIL := Lib.hid hnil
  clear HHN HHY HOK HVN hn0 hen hnil g0 g1 g2 g3 g4
  rcases hg with ⟨e4, e5⟩ | e4
  case' inl =>
    go_enter Tryd.func7, Tryd.ntmps7
    go_upto_region 5 with fail
    rw [← hw0, ← hC]
    clear hw0 hC
    clear e5
  case' inr =>
    go_enter Tryd.func7, Tryd.ntmps7
    go_upto_region 5 with fail
    rw [← hw0, ← hC]
    clear hw0 hC
  all_goals
    clear e4 e0 e1 e2 e3
    go_wp2_with fail
    refine (HBO.out _).mono ?_
    rintro e w1 ⟨g, rfl, _, _, b1⟩
    have HB1 := Lib.hid b1
    have HBW1 := Lib.hid (HB.out.trans (b1.mono HB.out.size))
    clear b1 a0 a1 a2 a3 a4 a5 HBO
    obtain ⟨a0, a1, a2, a3, a4, a5, _⟩ := HBX.out.below HB1.out (Nat.le_refl _)
    have FL := fun v => fld0 (.int .u64 (nm : Int)) (.func (.func 48) #[] #[.pointer (some ⟨g, 0, none⟩)]) (.func (.func 49) #[] #[.pointer (some ⟨g, 0, none⟩)]) v
    cases v0
    · skip
      go_wp2_with fail
      with_reducible refine (H1.out _).mono ?_
      rintro e wx ⟨rfl, rfl⟩
      cases h1
      · skip
        have HF : Hid (E = false) := by show _ = _; rw [HE.out]; simp
        go_wp2_with fail
        go_ret
        exact ⟨ret_b HF.out.symm, HBW1.out⟩
      cases c0
      · skip
        go_wp2_with fail
        with_reducible refine (H2.out _).mono ?_
        rintro e wx ⟨rfl, rfl⟩
        cases h2
        · skip
          have HF : Hid (E = false) := by show _ = _; rw [HE.out]; simp
          go_wp2_with fail
          go_ret
          exact ⟨ret_b HF.out.symm, HBW1.out⟩
        cases cp
        · skip
          have HF : Hid (E = false) := by show _ = _; rw [HE.out]; simp
          go_wp2_with fail
          go_ret
          exact ⟨ret_b HF.out.symm, HBW1.out⟩
        cases cm
        · skip
          have HF : Hid (E = false) := by show _ = _; rw [HE.out]; simp
          go_wp2_with fail
          go_ret
          exact ⟨ret_b HF.out.symm, HBW1.out⟩
        cases en
        · have hne := HNIL.out.2 rfl
          go_wp2_with fail
          with_reducible refine (H16.out _).mono ?_
          rintro e wx ⟨rfl, rfl⟩
          cases h16
          · skip
            have HF : Hid (E = false) := by show _ = _; rw [HE.out]; simp
            go_wp2_with fail
            go_ret
            exact ⟨ret_b HF.out.symm, HBW1.out⟩
          cases nl
          · skip
            have HF : Hid (E = false) := by show _ = _; rw [HE.out]; simp
            go_wp2_with fail
            go_ret
            exact ⟨ret_b HF.out.symm, HBW1.out⟩
          go_wp2_with fail
          refine (HVI.out _ HB1.out).mono ?_
          rintro e w2 ⟨rfl, b2⟩
          have HBW2 := Lib.hid (HBW1.out.trans (b2.mono HBW1.out.size))
          clear b2
          cases vi
          all_goals
            go_wp2_with fail
            go_ret
            exact ⟨ret_b (by rw [HE.out]; simp), HBW2.out⟩
        · have hne := HNIL.out.1 rfl
          go_wp2_with fail
          refine (HVI.out _ HB1.out).mono ?_
          rintro e w2 ⟨rfl, b2⟩
          have HBW2 := Lib.hid (HBW1.out.trans (b2.mono HBW1.out.size))
          clear b2
          cases vi
          all_goals
            go_wp2_with fail
            go_ret
            exact ⟨ret_b (by rw [HE.out]; simp), HBW2.out⟩
      · skip
        cases en
        · have hne := HNIL.out.2 rfl
          go_wp2_with fail
          with_reducible refine (H16.out _).mono ?_
          rintro e wx ⟨rfl, rfl⟩
          cases h16
          · skip
            have HF : Hid (E = false) := by show _ = _; rw [HE.out]; simp
            go_wp2_with fail
            go_ret
            exact ⟨ret_b HF.out.symm, HBW1.out⟩
          cases nl
          · skip
            have HF : Hid (E = false) := by show _ = _; rw [HE.out]; simp
            go_wp2_with fail
            go_ret
            exact ⟨ret_b HF.out.symm, HBW1.out⟩
          go_wp2_with fail
          refine (HVI.out _ HB1.out).mono ?_
          rintro e w2 ⟨rfl, b2⟩
          have HBW2 := Lib.hid (HBW1.out.trans (b2.mono HBW1.out.size))
          clear b2
          cases vi
          all_goals
            go_wp2_with fail
            go_ret
            exact ⟨ret_b (by rw [HE.out]; simp), HBW2.out⟩
        · have hne := HNIL.out.1 rfl
          go_wp2_with fail
          refine (HVI.out _ HB1.out).mono ?_
          rintro e w2 ⟨rfl, b2⟩
          have HBW2 := Lib.hid (HBW1.out.trans (b2.mono HBW1.out.size))
          clear b2
          cases vi
          all_goals
            go_wp2_with fail
            go_ret
            exact ⟨ret_b (by rw [HE.out]; simp), HBW2.out⟩
    · skip
      cases c0
      · skip
        go_wp2_with fail
        with_reducible refine (H2.out _).mono ?_
        rintro e wx ⟨rfl, rfl⟩
        cases h2
        · skip
          have HF : Hid (E = false) := by show _ = _; rw [HE.out]; simp
          go_wp2_with fail
          go_ret
          exact ⟨ret_b HF.out.symm, HBW1.out⟩
        cases cp
        · skip
          have HF : Hid (E = false) := by show _ = _; rw [HE.out]; simp
          go_wp2_with fail
          go_ret
          exact ⟨ret_b HF.out.symm, HBW1.out⟩
        cases cm
        · skip
          have HF : Hid (E = false) := by show _ = _; rw [HE.out]; simp
          go_wp2_with fail
          go_ret
          exact ⟨ret_b HF.out.symm, HBW1.out⟩
        cases en
        · have hne := HNIL.out.2 rfl
          go_wp2_with fail
          with_reducible refine (H16.out _).mono ?_
          rintro e wx ⟨rfl, rfl⟩
          cases h16
          · skip
            have HF : Hid (E = false) := by show _ = _; rw [HE.out]; simp
            go_wp2_with fail
            go_ret
            exact ⟨ret_b HF.out.symm, HBW1.out⟩
          cases nl
          · skip
            have HF : Hid (E = false) := by show _ = _; rw [HE.out]; simp
            go_wp2_with fail
            go_ret
            exact ⟨ret_b HF.out.symm, HBW1.out⟩
          go_wp2_with fail
          refine (HVI.out _ HB1.out).mono ?_
          rintro e w2 ⟨rfl, b2⟩
          have HBW2 := Lib.hid (HBW1.out.trans (b2.mono HBW1.out.size))
          clear b2
          cases vi
          all_goals
            go_wp2_with fail
            go_ret
            exact ⟨ret_b (by rw [HE.out]; simp), HBW2.out⟩
        · have hne := HNIL.out.1 rfl
          go_wp2_with fail
          refine (HVI.out _ HB1.out).mono ?_
          rintro e w2 ⟨rfl, b2⟩
          have HBW2 := Lib.hid (HBW1.out.trans (b2.mono HBW1.out.size))
          clear b2
          cases vi
          all_goals
            go_wp2_with fail
            go_ret
            exact ⟨ret_b (by rw [HE.out]; simp), HBW2.out⟩
      · skip
        cases en
        · have hne := HNIL.out.2 rfl
          go_wp2_with fail
          with_reducible refine (H16.out _).mono ?_
          rintro e wx ⟨rfl, rfl⟩
          cases h16
          · skip
            have HF : Hid (E = false) := by show _ = _; rw [HE.out]; simp
            go_wp2_with fail
            go_ret
            exact ⟨ret_b HF.out.symm, HBW1.out⟩
          cases nl
          · skip
            have HF : Hid (E = false) := by show _ = _; rw [HE.out]; simp
            go_wp2_with fail
            go_ret
            exact ⟨ret_b HF.out.symm, HBW1.out⟩
          go_wp2_with fail
          refine (HVI.out _ HB1.out).mono ?_
          rintro e w2 ⟨rfl, b2⟩
          have HBW2 := Lib.hid (HBW1.out.trans (b2.mono HBW1.out.size))
          clear b2
          cases vi
          all_goals
            go_wp2_with fail
            go_ret
            exact ⟨ret_b (by rw [HE.out]; simp), HBW2.out⟩
        · have hne := HNIL.out.1 rfl
          go_wp2_with fail
          refine (HVI.out _ HB1.out).mono ?_
          rintro e w2 ⟨rfl, b2⟩
          have HBW2 := Lib.hid (HBW1.out.trans (b2.mono HBW1.out.size))
          clear b2
          cases vi
          all_goals
            go_wp2_with fail
            go_ret
            exact ⟨ret_b (by rw [HE.out]; simp), HBW2.out⟩
end Go.Proofs.YthlfahblnpijaaaDoor.Sg
