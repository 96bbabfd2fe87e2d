/- Proves that DecodePlays returns true at every argument. Conditions: as the row gives them. -/
import Derived.Test.YtmphielkohnpgaaDq
import Derived.Deep.RegionHeld3
namespace Go.Proofs.Ytmphielkohnpgaa.Dt
open Go.RowKit Vm Ap Vw Va Gc Fm Fw Mi Mb Fr Dm Dd Dn De Dh Dl Fo Dk Dr Ds Dg Dq

set_option maxRecDepth 100000 in
set_option maxHeartbeats 8000000 in
theorem plays_walk (m : Int) (D : Option Addr) (d : Nat) (l : List Ac) (W : World) (_hm : (Lit.int .i64 m).wf = true) (ha : Acts W D l d) :
    Calls Try.prog 3 #[.int .i64 m, .slice D l.length d] W (boolOf true W) := by
  have HK := known_hid
  have HD := Lib.hid ha.rd
  have HONE := Lib.hid ha.one
  have hdm := ha.max
  have hdl := ha.le
  unfold maxLen at hdm
  have HFEW := Lib.hid (few_any D l d W ha)
  have HNW := Lib.hid (new_any m W)
  obtain ⟨N, hN⟩ : ∃ N, N = W.heap.size := ⟨_, rfl⟩
  unfold newPost at HNW
  rw [← hN] at HNW
  clear ha
  go_enter Try.func3, Try.ntmps3
  go_wp2_with fail
  refine HFEW.out.mono ?_
  rintro e w1 ⟨rfl, (rfl | ⟨rfl, h60, h300⟩)⟩
  case' inl =>
    go_wp2_with fail
    refine (HK.out _).mono ?_
    rintro e w1 ⟨rfl, hb⟩
    go_wp2_with fail
    go_ret
    exact ⟨rfl, hb⟩
  case' inr =>
  have H300 := Lib.hid h300
  have i60 : (l.length : Int) ≤ 60 := by omega
  clear h300
  go_wp2_with fail
  refine HNW.out.mono ?_
  rintro e w1 (⟨hok, g, rfl, hd, hb⟩ | ⟨hno, rfl, rfl⟩)
  case' inr =>
    have HNO := Lib.hid hno
    clear hno
    go_wp2_with fail
    refine (rnew_any m W).mono ?_
    rintro e w1 (⟨hok, _⟩ | ⟨_, rfl, hb⟩)
    case' inl => exact absurd hok HNO.out
    case' inr =>
      have HB := Lib.hid (hb.alloc hb.size (.cells #[.int .i64 0, .slice none 0 0, .bool false] 31))
      clear hb
      go_wp2_with fail
      refine (HK.out _).mono ?_
      rintro e w3 ⟨rfl, hb3⟩
      have HB3 := Lib.hid (step0 HB.out hb3)
      clear hb3
      go_wp2_with fail
      go_ret
      exact ⟨rfl, HB3.out⟩
  case' inl =>
  have HM := Lib.hid hok
  have HD1 := Lib.hid hd
  have HB1 := Lib.hid hb
  have hz1 : N ≤ w1.heap.size := by rw [hN]; exact hb.size
  clear hok hd hb
  go_wp2_with fail
  refine (rnew_any m w1).mono ?_
  rintro e w2 (⟨_, rfl, hb⟩ | ⟨hno, _⟩)
  case' inr => exact absurd HM.out hno
  case' inl =>
  obtain ⟨b, hb0⟩ : ∃ b, b = w2.heap.size := ⟨_, rfl⟩
  obtain ⟨w3, hw3⟩ : ∃ w3, w3 = w2.alloc (.cells #[.int .i64 m, .slice none 0 0, .bool false] 31) := ⟨_, rfl⟩
  have b3 : Below w2.heap.size w2 w3 := by rw [hw3]; exact below_new _ _
  have hz12 := hb.size
  have hz3 : w3.heap.size = b + 1 := by rw [hw3, hb0]; simp
  have HB0 : Hid (Both N W w3 (fun j => N ≤ j ∧ j < w1.heap.size) g b m ⟨[], false⟩ none 0) := by
    refine ⟨((HD1.out.tight.below hb (Nat.le_refl _)).below b3 (Nat.le_refl _)), ?_, ⟨Rb.nil _ _, Nat.le_refl _, Nat.zero_le _, fun _ => rfl⟩, fun j hj => ⟨hj.1, by omega⟩, fun hf => by omega, by omega, fun a e => (by cases e), (HB1.out.trans (hb.mono hz1)).trans (b3.mono (by omega)), by omega⟩
    rw [hw3, hb0]; exact Cel3.new w2 _ _ _ _
  clear hb b3
  go_wp2_with fail
  rw [← hw3, ← hb0]
  clear hw3 hb0
  go_loopw [5, 51] (fun dv i wr => ∃ (k : Nat) (s : St) (F : Nat → Prop) (gg : Nat) (X : Option Addr) (xc : Nat), k ≤ l.length ∧ dv = .pointer (some ⟨gg, 0, none⟩) ∧ i = .int .i64 (k : Int) ∧ Both N W wr F gg b m s X xc ∧ s.held.length ≤ 300 * k) (fun _ i _ => l.length - (intOf i).toNat)
  case atStart => exact ⟨0, ⟨[], false⟩, _, g, none, 0, Nat.zero_le _, rfl, rfl, HB0.out, by simp⟩
  case round =>
    obtain ⟨k, s, F, gg, X, xc, hk, rfl, rfl, hbo, hsl⟩ := hrel
    have HBO := Lib.hid hbo
    have hNr := hbo.nN
    have hbw := hbo.bel
    have hbN := hbo.bN
    have hbl : b < wr.heap.size := hbo.cel.lt
    clear hbo
    by_cases hkl : k < l.length
    · obtain ⟨tb, to_, rfl, htb, hcells⟩ := HD.out (by omega)
      obtain ⟨c0, c1⟩ := hcells k hkl
      have hxa := HONE.out _ (List.getElem_mem hkl)
      have hx300 := H300.out _ (List.getElem_mem hkl)
      rw [← hbw.cell (p := ⟨tb, to_ + k * 2, none⟩) (by show tb < N; omega)] at c0
      rw [← hbw.cell (p := ⟨tb, to_ + k * 2 + 1, none⟩) (by show tb < N; omega)] at c1
      obtain ⟨x, hx⟩ : ∃ x, x = l[k] := ⟨_, rfl⟩
      rw [← hx] at c0 c1 hxa hx300
      have HXA := Lib.hid hxa
      have i1 : (k : Int) < l.length := by omega
      have hxl := Nat.le_trans hxa.le hxa.max
      unfold maxLen at hxl
      obtain ⟨xn, xA, xk, xp⟩ := x
      simp only at c0 c1 hxa hx300 hxl HXA
      obtain ⟨wa, hwa⟩ : ∃ wa, wa = wr.alloc (.cells #[.int .i64 xn, .slice xA xp.length xk] 35) := ⟨_, rfl⟩
      have ba : Below wr.heap.size wr wa := by rw [hwa]; exact below_new _ _
      have CEa : Hid (Cel wa wr.heap.size (.int .i64 xn) (.slice xA xp.length xk)) := by show Cel _ _ _ _; rw [hwa]; exact Cel.new _ _ _ _
      have hza : wa.heap.size = wr.heap.size + 1 := by rw [hwa]; simp
      have HBa := Lib.hid (HBO.out.below ba (Nat.le_refl _))
      have HXa := Lib.hid (arg_below (arg_below HXA.out (HBa.out.bel) (by omega)) (Below.refl wa.heap.size wa) (Nat.le_refl _))
      clear hx hxa hcells hbw ba
      by_cases hn0 : xn = 0
      · subst hn0
        obtain ⟨Na, hNa⟩ : ∃ Na, Na = wa.heap.size := ⟨_, rfl⟩
        have HNa := Lib.hid hNa
        have HSR := Lib.hid (src_rb HXa.out.rd HXa.out.non)
        have hNal : Na ≤ wa.heap.size := by omega
        clear hNa
        go_wp2_with (at_builtin; (rw [← hwa]; refine wpList_mine rfl _ _ elmB _ rfl rfl (Mine.nil Na 1 wa) _ rfl _ _ HSR.out (by omega) (by omega) hNal ?_))
        intro A1 c1' w1 m1 g1 d1
        rw [← hwa] at g1
        replace m1 : MineB Na w1 A1 xp c1' := m1
        have bw1 : Below wa.heap.size wa w1 := below_of_grown g1 (Nat.le_refl _) (by intro k e; cases e)
        have M1 := Lib.hid m1
        have HBa1 := Lib.hid (HBa.out.below bw1 (Nat.le_refl _))
        have HXa1 := Lib.hid (arg_below HXa.out bw1 (Nat.le_refl _))
        have CE1 := Lib.hid (CEa.out.below bw1 (Nat.le_refl _))
        have hz1' := bw1.size
        obtain ⟨cy0, cy1, _, _⟩ := CE1.out
        obtain ⟨e0, e1, e2, ef0, ef1, ef2⟩ := HBa1.out.cel
        clear m1 g1 d1 hwa bw1 c0 c1
        go_wp2_with fail
        refine (rfeed_any (w := w1) (m := m) (A := X) (s := s) rfl rfl HBa1.out.arg xA xp _ xk rfl HXa1.out.rd HXa1.out.non (by omega) (by omega)).mono ?_
        rintro e w2' ⟨A2, c2, rfl, harg2, hfr2, hfr3, hb2⟩
        obtain ⟨s2, hs2⟩ : ∃ s2, s2 = feed s xp := ⟨_, rfl⟩
        rw [← hs2] at harg2
        rw [← hs2]
        have hs2l : s2.held.length ≤ 300 * (k + 1) := by
          rw [hs2]; unfold feed; split
          · omega
          · simp; omega
        have HS2 := Lib.hid hs2
        obtain ⟨w4, hw4⟩ : ∃ w4, w4 = ((((w2'.setCell ⟨b, 0, none⟩ (.int .i64 m)).setCell ⟨b, 1, none⟩ (.slice A2 s2.held.length c2)).setCell ⟨b, 2, none⟩ (.bool s2.shut)).alloc (.cells #[.int .i64 m, .slice A2 s2.held.length c2, .bool s2.shut] 31)) := ⟨_, rfl⟩
        have HB2a := Lib.hid (HBa1.out.below hb2 (Nat.le_refl _))
        have hz2' := hb2.size
        have O4 : Hid (Only (fun j => j = b) w2' w4) := by
          show Only _ _ _
          rw [hw4]
          exact (((Only.refl (fun j => j = b) w2').put (ad := ⟨b, 0, none⟩) rfl _).put (ad := ⟨b, 1, none⟩) rfl _).put (ad := ⟨b, 2, none⟩) rfl _ |>.alloc _
        have HC4 : Hid (Cel3 w4 b (.int .i64 m) (.slice A2 s2.held.length c2) (.bool s2.shut)) := by
          show Cel3 _ _ _ _ _
          rw [hw4]
          exact (HB2a.out.cel.set _ _ _).below (below_new _ _) (Nat.le_refl _)
        have hz4 : w4.heap.size = w2'.heap.size + 1 := by rw [hw4]; simp
        have HD4 := Lib.hid (HB2a.out.dec.only O4.out (fun j hf e => HB2a.out.bF (e ▸ hf)))
        have M4 : Hid (MineB Na w4 A1 xp c1') := (M1.out.below hb2 (Nat.le_refl _)).only O4.out (fun a ha e => by have := (M1.out.base ha).1; have := HNa.out; omega)
        have HA2 : Hid (∀ a, A2 = some a → ¬ F a.block ∧ a.block ≠ b ∧ N ≤ a.block ∧ a.block < w4.heap.size) := fun a ha => by
          rcases hfr2 a ha with ⟨a0, ea, eb⟩ | hge
          · have := HB2a.out.aF a0 ea
            rw [eb] at this
            exact ⟨this.1, this.2.1, this.2.2.1, by omega⟩
          · rcases hfr3 a ha with ⟨a0, ea, eb⟩ | hlt
            · have := HB2a.out.aF a0 ea
              rw [eb] at this
              exact ⟨this.1, this.2.1, this.2.2.1, by omega⟩
            · refine ⟨fun hf => ?_, by omega, by omega, by omega⟩
              have := (HBO.out.fl _ hf).2
              omega
        have HA3 : Hid (∀ y, A2 = some y → y.block < wr.heap.size ∨ w1.heap.size ≤ y.block) := fun y hy => by
          rcases hfr2 y hy with ⟨a0, ea, eb⟩ | hge
          · left; rw [← eb]; exact (HBO.out.aF a0 ea).2.2.2
          · exact Or.inr hge
        have HARG4 : Hid (Arg w4 A2 s2.held c2) := arg_only harg2 O4.out (fun a ha e => (HA2.out a ha).2.1 e)
        have hlb : b < w2'.heap.size := by omega
        clear harg2 hfr2 hfr3 hb2 hs2 cy0 cy1 e0 e1 e2 ef0 ef1 ef2
        obtain ⟨e0, e1, e2, ef0, ef1, ef2⟩ := HB2a.out.cel
        have HFD := Lib.hid (feed_any HD4.out A1 xp xp.length c1' rfl (rb_mine M4.out) M4.out.non (by omega) (by omega))
        go_wp2_with fail
        rw [← hw4]
        clear hw4
        refine HFD.out.mono ?_
        rintro e w5 ⟨rfl, hd5, ho5⟩
        rw [← HS2.out] at hd5
        have HN5 : Hid (¬ F b) := HB2a.out.bF
        have HB5 : Hid (Both N W w5 (fun j => More F w4 j ∧ j < w5.heap.size) gg b m s2 A2 c2) := by
          have hz5 := ho5.size
          have hfl := HB2a.out.fl
          refine ⟨hd5.tight, HC4.out.only ho5 HN5.out, arg_only HARG4.out ho5 (fun a ha hf => (HA2.out a ha).1 hf), fun j hj => ⟨?_, hj.2⟩, fun hf => ?_, hbN, fun a ha => ?_, ?_, by omega⟩
          · rcases hj.1 with h | h
            · exact (hfl j h).1
            · omega
          · rcases hf.1 with h | h
            · exact HN5.out h
            · omega
          · have h4 := HA2.out a ha
            refine ⟨fun hf => ?_, h4.2.1, h4.2.2.1, by omega⟩
            rcases hf.1 with h | h
            · exact h4.1 h
            · omega
          · exact (HB2a.out.bel.trans (O4.out.below (fun j e => by omega) (by omega))).trans (ho5.below (fun j hf => (hfl j hf).1) (by omega))
        have M5 : Hid (MineB Na w5 A1 xp c1') := M4.out.only ho5 (fun a ha hf => by have h1 := (M4.out.base ha).1; have h2 := (HBO.out.fl _ hf).2; have := HNa.out; omega)
        have HMA : Hid (∀ a, A1 = some a → N ≤ a.block ∧ ¬ (More F w4 a.block ∧ a.block < w5.heap.size) ∧ a.block ≠ b ∧ ∀ y, A2 = some y → y.block ≠ a.block) := fun a ha => by
          have h1 := M1.out.base ha
          have h2 := HNa.out
          refine ⟨by omega, fun hf => ?_, by omega, fun y hy => by rcases HA3.out y hy with h | h <;> omega⟩
          rcases hf.1 with h | h
          · have := (HBO.out.fl _ h).2; omega
          · omega
        clear hd5 ho5 HFD e0 e1 e2 ef0 ef1 ef2
        obtain ⟨F5, hF5⟩ : ∃ F5, F5 = (fun j => More F w4 j ∧ j < w5.heap.size) := ⟨_, rfl⟩
        have HMA2 : Hid (∀ a, A1 = some a → N ≤ a.block ∧ ¬ F5 a.block ∧ a.block ≠ b ∧ ∀ y, A2 = some y → y.block ≠ a.block) := by show ∀ a, _; rw [hF5]; exact HMA.out
        rw [← hF5] at HB5
        clear hF5 HMA
        go_wp2_with fail
        obtain ⟨ln, hln⟩ : ∃ ln, ln = xp.length := ⟨_, rfl⟩
        go_loopw [89] (fun i wr => ∃ (j : Nat) (bs : Bs), j ≤ xp.length ∧ i = .int .i64 (j : Int) ∧ bs.length = xp.length ∧ Mine Na 1 wr A1 xp.length c1' (bs.map byteV) ∧ Both N W wr F5 gg b m s2 A2 c2) (fun i _ => xp.length - (intOf i).toNat)
        case atStart => exact ⟨0, xp, Nat.zero_le _, rfl, rfl, M5.out, HB5.out⟩
        case round =>
          obtain ⟨j, bs, hj, rfl, hbs, hmi, hbt⟩ := hrel
          have HMI := Lib.hid hmi; have HBT := Lib.hid hbt; have HBS := Lib.hid hbs
          clear hmi hbt
          by_cases hlt : j < xp.length
          · obtain ⟨og, oo, rfl⟩ : ∃ og oo, A1 = some ⟨og, oo, none⟩ := by
              cases A1 with
              | none => have h1 := HMI.out.non rfl; have h2 := HMI.out.le; omega
              | some a => obtain ⟨og, oo, e, _⟩ := HMI.out.lies a rfl; exact ⟨og, oo, by rw [e]⟩
            have hjb : j < bs.length := by omega
            have hc0 : wr.cell? ⟨og, oo + j, none⟩ = some (.int .u8 (bs[j].toNat : Int)) := by
              obtain ⟨og', oo', e, _, _, _, h4⟩ := HMI.out.lies _ rfl
              injection e with e1 e2
              subst e1; subst e2
              rw [h4 j (by simpa using hjb)]
              simp [byteV]
            have hf0 : wr.frozen? ⟨og, oo + j, none⟩ = false := by
              obtain ⟨og', oo', e, _, _, h3, _⟩ := HMI.out.lies _ rfl
              injection e with e1 e2
              subst e1; subst e2
              exact (h3 j (by have := HMI.out.le; omega)).2
            have hx := bs[j].toNat_lt
            have HS := Lib.hid (mine_set hbs HMI.out j ((bs[j].toNat + 1) % 256) hlt (by omega))
            have HBT2 := Lib.hid (HBT.out.only (G := fun i => i = og) (((Only.refl (fun i => i = og) wr).put (ad := ⟨og, oo + j, none⟩) rfl (.int .u8 (((bs[j].toNat + 1) % 256 : Nat) : Int)))) (fun i _ e => by
              obtain ⟨q1, q2, q3, q4⟩ := HMA2.out _ rfl
              subst e
              exact ⟨q1, q2, q3, q4⟩))
            have i2 : (j : Int) < xp.length := by omega
            clear hbs hx
            go_wp2_with fail
            go_roundw
            case rel => exact ⟨j + 1, _, by omega, by go_num, by rw [List.length_set]; exact HBS.out, HS.out, HBT2.out⟩
            case measure => simp [intOf]; omega
          · obtain rfl : j = xp.length := by omega
            have hnn2 : ¬ (xp.length : Int) < xp.length := by omega
            have TD : Hid (∀ v, Below wr.heap.size wr v → Dec F5 v gg m s2) := fun v hv => HBT.out.dec.below hv (Nat.le_refl _)
            have TA : Hid (∀ v, Below wr.heap.size wr v → Arg v A2 s2.held c2) := fun v hv => arg_below HBT.out.arg hv (Nat.le_refl _)
            have tc0 : ∀ v, Below wr.heap.size wr v → v.cell? ⟨b, 0, none⟩ = some (.int .i64 m) := fun v hv => (HBT.out.cel.below hv (Nat.le_refl _)).c0
            have tc1 : ∀ v, Below wr.heap.size wr v → v.cell? ⟨b, 1, none⟩ = some (.slice A2 s2.held.length c2) := fun v hv => (HBT.out.cel.below hv (Nat.le_refl _)).c1
            have tc2 : ∀ v, Below wr.heap.size wr v → v.cell? ⟨b, 2, none⟩ = some (.bool s2.shut) := fun v hv => (HBT.out.cel.below hv (Nat.le_refl _)).c2
            have TN : Hid (∀ v, Below wr.heap.size wr v → Calls Try.prog 19 #[.pointer (some ⟨gg, 0, none⟩)] v (intOfN (need m s2) v)) := fun v hv => need_any HM.out (TD.out v hv) (by omega)
            have TR : Hid (∀ v, Below wr.heap.size wr v → Calls Try.prog 20 #[.agg #[.int .i64 m, .slice A2 s2.held.length c2, .bool s2.shut]] v (intOfN (need m s2) v)) := fun v hv => rneed_any rfl rfl HM.out (TA.out v hv) (by omega)
            generalize need m s2 = nd at TN TR
            go_wp2_with fail
            refine wp_region_noPanic ?_
            refine wp_region_held_drew (S := fun v => Below wr.heap.size wr v) (by kernel_rfl) ((Below.refl _ _).drew) (fun hHeld => ?_)
            refine wpAnyH_take (i := 0) (oi := ⟨some 136, _, _, _, _, _⟩) (v := ?_) rfl (by kernel_rfl) (by kernel_rfl) (by kernel_rfl) (fun _ _ _ h => h) (Or.inl ⟨by rfl, ?_⟩) (by assumption) ?_
            rotate_left
            · intro w hSw; go_simp; first | done | with_reducible rfl
            try simp only [Act.put, List.setIfInBounds_toArray, List.set_cons_zero, List.set_cons_succ]
            refine wpAnyH_take (i := 2) (oi := ⟨some 138, _, _, _, _, _⟩) (v := ?_) rfl (by kernel_rfl) (by kernel_rfl) (by kernel_rfl) (fun _ _ _ h => h) (Or.inl ⟨by rfl, ?_⟩) (by assumption) ?_
            rotate_left
            · intro w hSw; go_simp; first | done | with_reducible rfl
            try simp only [Act.put, List.setIfInBounds_toArray, List.set_cons_zero, List.set_cons_succ]
            refine wpAnyH_take (i := 3) (oi := ⟨some 139, _, _, _, _, _⟩) (v := ?_) rfl (by kernel_rfl) (by kernel_rfl) (by kernel_rfl) (fun _ _ _ h => h) (Or.inl ⟨by rfl, ?_⟩) (by assumption) ?_
            rotate_left
            · intro w hSw; go_simp; first | done | with_reducible rfl
            try simp only [Act.put, List.setIfInBounds_toArray, List.set_cons_zero, List.set_cons_succ]
            refine wpAnyH_take (i := 4) (oi := ⟨some 140, _, _, _, _, _⟩) (v := ?_) rfl (by kernel_rfl) (by kernel_rfl) (by kernel_rfl) (fun _ _ _ h => h) (Or.inl ⟨by rfl, ?_⟩) (by assumption) ?_
            rotate_left
            · intro w hSw; go_simp; first | done | with_reducible rfl
            try simp only [Act.put, List.setIfInBounds_toArray, List.set_cons_zero, List.set_cons_succ]
            refine wpAnyH_ready (rs := [1]) (by kernel_rfl) (by simp) ?_
            refine AllReadyH.cons (o := ⟨some 137, _, _, _, _, _⟩) rfl (fun K hK => ?_) AllReadyH.nil
            go_simp
            refine (held_any (TD.out _ hHeld)).mono ?_
            rintro e wt ⟨rfl, rfl⟩
            go_simp
            refine hK.out _ _ hHeld (fun hHeld => ?_)
            clear hK K
            try simp only [Act.put, List.setIfInBounds_toArray, List.set_cons_zero, List.set_cons_succ]
            refine wpAnyH_take (i := 5) (oi := ⟨some 141, _, _, _, _, _⟩) (v := ?_) rfl (by kernel_rfl) (by kernel_rfl) (by kernel_rfl) (fun _ _ _ h => h) (Or.inl ⟨by rfl, ?_⟩) (by assumption) ?_
            rotate_left
            · intro w hSw; go_simp; first | done | with_reducible rfl
            try simp only [Act.put, List.setIfInBounds_toArray, List.set_cons_zero, List.set_cons_succ]
            refine wpAnyH_take (i := 6) (oi := ⟨some 142, _, _, _, _, _⟩) (v := ?_) rfl (by kernel_rfl) (by kernel_rfl) (by kernel_rfl) (fun _ _ _ h => h) (Or.inl ⟨by rfl, ?_⟩) (by assumption) ?_
            rotate_left
            · intro w hSw; go_simp; first | done | with_reducible rfl
            try simp only [Act.put, List.setIfInBounds_toArray, List.set_cons_zero, List.set_cons_succ]
            refine wpAnyH_take (i := 7) (oi := ⟨some 143, _, _, _, _, _⟩) (v := ?_) rfl (by kernel_rfl) (by kernel_rfl) (by kernel_rfl) (fun _ _ _ h => h) (Or.inl ⟨by rfl, ?_⟩) (by assumption) ?_
            rotate_left
            · intro w hSw; go_simp; first | done | with_reducible rfl
            try simp only [Act.put, List.setIfInBounds_toArray, List.set_cons_zero, List.set_cons_succ]
            refine wpAnyH_take (i := 9) (oi := ⟨some 145, _, _, _, _, _⟩) (v := ?_) rfl (by kernel_rfl) (by kernel_rfl) (by kernel_rfl) (fun _ _ _ h => h) (Or.inl ⟨by rfl, ?_⟩) (by assumption) ?_
            rotate_left
            · intro w hSw; go_simp; first | done | with_reducible rfl
            try simp only [Act.put, List.setIfInBounds_toArray, List.set_cons_zero, List.set_cons_succ]
            refine wpAnyH_ready (rs := [8]) (by kernel_rfl) (by simp) ?_
            refine AllReadyH.cons (o := ⟨some 144, _, _, _, _, _⟩) rfl (fun K hK => ?_) AllReadyH.nil
            go_simp
            refine (TN.out _ hHeld).mono ?_
            rintro e wt ⟨rfl, hbt⟩
            have hHeld := step0 hHeld hbt
            clear hbt
            go_simp
            refine hK.out _ _ hHeld (fun hHeld => ?_)
            clear hK K
            try simp only [Act.put, List.setIfInBounds_toArray, List.set_cons_zero, List.set_cons_succ]
            refine wpAnyH_ready (rs := [10]) (by kernel_rfl) (by simp) ?_
            refine AllReadyH.cons (o := ⟨some 146, _, _, _, _, _⟩) rfl (fun K hK => ?_) AllReadyH.nil
            go_simp
            refine (TR.out _ hHeld).mono ?_
            rintro e wt ⟨rfl, hbt⟩
            have hHeld := step0 hHeld hbt
            clear hbt
            go_simp
            refine hK.out _ _ hHeld (fun hHeld => ?_)
            clear hK K
            try simp only [Act.put, List.setIfInBounds_toArray, List.set_cons_zero, List.set_cons_succ]
            refine wpAnyH_take (i := 11) (oi := ⟨some 147, _, _, _, _, _⟩) (v := ?_) rfl (by kernel_rfl) (by kernel_rfl) (by kernel_rfl) (fun _ _ _ h => h) (Or.inl ⟨by rfl, ?_⟩) (by assumption) ?_
            rotate_left
            · intro w hSw; go_simp; first | done | with_reducible rfl
            try simp only [Act.put, List.setIfInBounds_toArray, List.set_cons_zero, List.set_cons_succ]
            refine wpAnyH_take (i := 12) (oi := ⟨some 148, _, _, _, _, _⟩) (v := ?_) rfl (by kernel_rfl) (by kernel_rfl) (by kernel_rfl) (fun _ _ _ h => h) (Or.inl ⟨by rfl, ?_⟩) (by assumption) ?_
            rotate_left
            · intro w hSw; go_simp; first | done | with_reducible rfl
            try simp only [Act.put, List.setIfInBounds_toArray, List.set_cons_zero, List.set_cons_succ]
            refine wpAnyH_take (i := 13) (oi := ⟨some 149, _, _, _, _, _⟩) (v := ?_) rfl (by kernel_rfl) (by kernel_rfl) (by kernel_rfl) (fun _ _ _ h => h) (Or.inl ⟨by rfl, ?_⟩) (by assumption) ?_
            rotate_left
            · intro w hSw; go_simp; first | done | with_reducible rfl
            try simp only [Act.put, List.setIfInBounds_toArray, List.set_cons_zero, List.set_cons_succ]
            refine wpAnyH_take (i := 14) (oi := ⟨some 150, _, _, _, _, _⟩) (v := ?_) rfl (by kernel_rfl) (by kernel_rfl) (by kernel_rfl) (fun _ _ _ h => h) (Or.inl ⟨by rfl, ?_⟩) (by assumption) ?_
            rotate_left
            · intro w hSw; go_simp; first | done | with_reducible rfl
            try simp only [Act.put, List.setIfInBounds_toArray, List.set_cons_zero, List.set_cons_succ]
            refine wpAnyH_take (i := 16) (oi := ⟨some 152, _, _, _, _, _⟩) (v := ?_) rfl (by kernel_rfl) (by kernel_rfl) (by kernel_rfl) (fun _ _ _ h => h) (Or.inl ⟨by rfl, ?_⟩) (by assumption) ?_
            rotate_left
            · intro w hSw; go_simp; first | done | with_reducible rfl
            try simp only [Act.put, List.setIfInBounds_toArray, List.set_cons_zero, List.set_cons_succ]
            refine wpAnyH_take (i := 17) (oi := ⟨some 153, _, _, _, _, _⟩) (v := ?_) rfl (by kernel_rfl) (by kernel_rfl) (by kernel_rfl) (fun _ _ _ h => h) (Or.inl ⟨by rfl, ?_⟩) (by assumption) ?_
            rotate_left
            · intro w hSw; go_simp; first | done | with_reducible rfl
            try simp only [Act.put, List.setIfInBounds_toArray, List.set_cons_zero, List.set_cons_succ]
            refine wpAnyH_ready (rs := [15]) (by kernel_rfl) (by simp) ?_
            refine AllReadyH.cons (o := ⟨some 151, _, _, _, _, _⟩) rfl (fun K hK => ?_) AllReadyH.nil
            go_simp
            refine (closed_any (TD.out _ hHeld)).mono ?_
            rintro e wt ⟨rfl, rfl⟩
            go_simp
            refine hK.out _ _ hHeld (fun hHeld => ?_)
            clear hK K
            try simp only [Act.put, List.setIfInBounds_toArray, List.set_cons_zero, List.set_cons_succ]
            refine wpAnyH_take (i := 18) (oi := ⟨some 154, _, _, _, _, _⟩) (v := ?_) rfl (by kernel_rfl) (by kernel_rfl) (by kernel_rfl) (fun _ _ _ h => h) (Or.inl ⟨by rfl, ?_⟩) (by assumption) ?_
            rotate_left
            · intro w hSw; go_simp; first | done | with_reducible rfl
            try simp only [Act.put, List.setIfInBounds_toArray, List.set_cons_zero, List.set_cons_succ]
            refine wpAnyH_take (i := 19) (oi := ⟨some 155, _, _, _, _, _⟩) (v := ?_) rfl (by kernel_rfl) (by kernel_rfl) (by kernel_rfl) (fun _ _ _ h => h) (Or.inl ⟨by rfl, ?_⟩) (by assumption) ?_
            rotate_left
            · intro w hSw; go_simp; first | done | with_reducible rfl
            try simp only [Act.put, List.setIfInBounds_toArray, List.set_cons_zero, List.set_cons_succ]
            refine wpAnyH_done (by kernel_rfl) ?_ _
            refine NoPanic.normal ?_
            have HBE := Lib.hid (HBT.out.below hHeld (Nat.le_refl _))
            clear tc0 tc1 tc2 hHeld
            go_wp2_with fail
            go_roundw
            case rel => exact ⟨k + 1, s2, F5, gg, A2, c2, by omega, rfl, by go_num, HBE.out, hs2l⟩
            case measure => simp [intOf]; omega
        
      · have hn0' : ((xn : Int) == 0) = false := by rw [beq_eq_false_iff_ne]; exact hn0
        by_cases hn1 : xn = 1
        · subst hn1
          clear hn0 hn0'
          have i0 : ((1 : Int) == 0) = false := rfl
          obtain ⟨e0, e1, e2, ef0, ef1, ef2⟩ := HBa.out.cel
          obtain ⟨⟨cd, p, er⟩, hG⟩ : ∃ x, nxG m s = x := ⟨_, rfl⟩
          have HG := Lib.hid hG
          have hpl : p.length ≤ 100000 := by
            have := nxG_len m s HM.out
            rw [hG] at this
            simp only at this
            omega
          have HRN := Lib.hid (rnext_any (w := wa) (A := X) (s := s) (c := xc) rfl rfl HM.out HBa.out.arg (by omega))
          unfold rnextPost at HRN
          rw [hG] at HRN
          simp only at HRN
          obtain ⟨s2, hs2⟩ : ∃ s2, s2 = nxS m s := ⟨_, rfl⟩
          have hs2l : s2.held.length ≤ 300 * (k + 1) := by
            have := nxS_len m s
            rw [← hs2] at this; omega
          have HS2 := Lib.hid hs2
          rw [← hs2] at HRN
          have hba : b < wa.heap.size := by omega
          rw [hwa] at e0 e1 e2 ef0 ef1 ef2
          clear hG hs2
          go_wp2_with fail
          rw [← hwa]
          clear e0 e1 e2 ef0 ef1 ef2
          clear hwa
          refine HRN.out.mono ?_
          rintro e w1 ⟨A2, c2, V, vc, rfl, htr, hfr, hfre, hb1⟩
          have HARG1 : Hid (Arg w1 A2 s2.held c2) := htr w1 (HBa.out.below hb1 (Nat.le_refl _)).arg
          have HA2 : Hid (∀ y, A2 = some y → ∃ a0, X = some a0 ∧ a0.block = y.block) := fun y hy => by
            rcases hfr (y.block + 1) y hy with h | h
            · exact h
            · omega
          have HB1' := Lib.hid (HBa.out.below hb1 (Nat.le_refl _))
          have HV := Lib.hid hfre
          have hz1' := hb1.size
          obtain ⟨w2', hw2⟩ : ∃ w2', w2' = ((((w1.setCell ⟨b, 0, none⟩ (.int .i64 m)).setCell ⟨b, 1, none⟩ (.slice A2 s2.held.length c2)).setCell ⟨b, 2, none⟩ (.bool s2.shut)).alloc (.cells #[.int .i64 m, .slice A2 s2.held.length c2, .bool s2.shut] 31)).alloc (.cells #[.int .u8 (cd.toNat : Int), .slice V p.length vc] 39) := ⟨_, rfl⟩
          have O4 : Hid (Only (fun j => j = b) w1 w2') := by
            show Only _ _ _
            rw [hw2]
            exact ((((Only.refl (fun j => j = b) w1).put (ad := ⟨b, 0, none⟩) rfl _).put (ad := ⟨b, 1, none⟩) rfl _).put (ad := ⟨b, 2, none⟩) rfl _ |>.alloc _).alloc _
          have HC4 : Hid (Cel3 w2' b (.int .i64 m) (.slice A2 s2.held.length c2) (.bool s2.shut)) := by
            show Cel3 _ _ _ _ _
            rw [hw2]
            exact (HB1'.out.cel.set _ _ _).below (two_below _ _ _) (Nat.le_refl _)
          have hz4 : w2'.heap.size = w1.heap.size + 1 + 1 := by rw [hw2]; simp
          have HF4 : Hid (Cel w2' (w1.heap.size + 1) (.int .u8 (cd.toNat : Int)) (.slice V p.length vc)) := by
            show Cel _ _ _ _
            have := Cel.new ((((w1.setCell ⟨b, 0, none⟩ (.int .i64 m)).setCell ⟨b, 1, none⟩ (.slice A2 s2.held.length c2)).setCell ⟨b, 2, none⟩ (.bool s2.shut)).alloc (.cells #[.int .i64 m, .slice A2 s2.held.length c2, .bool s2.shut] 31)) (.int .u8 (cd.toNat : Int)) (.slice V p.length vc) 39
            rw [← hw2] at this
            simpa using this
          have HD4 := Lib.hid (HB1'.out.dec.only O4.out (fun j hf e => HB1'.out.bF (e ▸ hf)))
          have HA4 : Hid (∀ a, A2 = some a → ¬ F a.block ∧ a.block ≠ b ∧ N ≤ a.block ∧ a.block < w2'.heap.size) := fun a ha => by
            obtain ⟨a0, ea, eb⟩ := HA2.out a ha
            have := HBO.out.aF a0 ea
            rw [eb] at this
            exact ⟨this.1, this.2.1, this.2.2.1, by omega⟩
          have HARG4 : Hid (Arg w2' A2 s2.held c2) := arg_only HARG1.out O4.out (fun a ha e => (HA4.out a ha).2.1 e)
          have HRV4 : Hid (Rb w2' V p) := rb_only HV.out.rd O4.out (fun a ha e => by have := (HV.out.base a ha).1; omega)
          have HVB : Hid (∀ a, V = some a → wa.heap.size ≤ a.block ∧ a.block < w1.heap.size) := HV.out.base
          have HNX := Lib.hid (next_any HM.out HD4.out (by omega))
          unfold nextPost at HNX
          rw [HG.out, ← HS2.out] at HNX
          simp only at HNX
          have hlb : b < w1.heap.size := by omega
          obtain ⟨e0, e1, e2, ef0, ef1, ef2⟩ := HB1'.out.cel
          clear htr hfr hfre hb1
          go_wp2_with fail
          rw [← hw2]
          clear hw2 e0 e1 e2 ef0 ef1 ef2
          refine HNX.out.mono ?_
          rintro e w3 ⟨V3, v3, rfl, hm3, hd3, ho3⟩
          have HM3 := Lib.hid hm3
          have hz3 := ho3.size
          have hfl := HBO.out.fl
          have HB3 : Hid (Both N W w3 F gg b m s2 A2 c2) := by
            refine ⟨hd3, HC4.out.only ho3 HBO.out.bF, arg_only HARG4.out ho3 (fun a ha hf => (HA4.out a ha).1 hf), fun j hj => ⟨(hfl j hj).1, by have := (hfl j hj).2; omega⟩, HBO.out.bF, hbN, fun a ha => ?_, ?_, by omega⟩
            · have h4 := HA4.out a ha
              exact ⟨h4.1, h4.2.1, h4.2.2.1, by omega⟩
            · exact (HB1'.out.bel.trans (O4.out.below (fun j e => by omega) (by omega))).trans (ho3.below (fun j hf => (hfl j hf).1) (by omega))
          have HF3 := Lib.hid (cel_only HF4.out ho3 (fun hf => by have := (hfl _ hf).2; omega))
          have HRV3 : Hid (Rb w3 V p) := rb_only HRV4.out ho3 (fun a ha hf => by have h1 := (HVB.out a ha).1; have h2 := (hfl _ hf).2; omega)
          obtain ⟨w6, hw6⟩ : ∃ w6, w6 = w3.alloc (.cells #[.int .u8 (cd.toNat : Int), .slice V3 p.length v3] 39) := ⟨_, rfl⟩
          have b6 : Below w3.heap.size w3 w6 := by rw [hw6]; exact below_new _ _
          have HC6 : Hid (Cel w6 w3.heap.size (.int .u8 (cd.toNat : Int)) (.slice V3 p.length v3)) := by show Cel _ _ _ _; rw [hw6]; exact Cel.new _ _ _ _
          have HM6 : Hid (MineB w2'.heap.size w6 V3 p v3) := HM3.out.below b6 (Nat.le_refl _)
          have HV3B : Hid (∀ a, V3 = some a → w2'.heap.size ≤ a.block ∧ a.block < w3.heap.size) := fun a ha => ⟨(HM3.out.base ha).1, (HM3.out.base ha).2.1⟩
          have HB6 := Lib.hid (HB3.out.below b6 (Nat.le_refl _))
          have HEQ : Hid (Calls Try.prog 16 #[.agg #[.int .u8 (cd.toNat : Int), .slice V3 p.length v3], .agg #[.int .u8 (cd.toNat : Int), .slice V p.length vc]] w6 (boolOf true w6)) := by
            have := requal_any cd cd V3 V p p v3 vc w6 (rb_mine HM6.out) (HRV3.out.below b6 (Nat.le_refl _))
            rw [eqv_self] at this; exact this
          obtain ⟨h0, h1, _, _⟩ := HF3.out
          have hl3 : w1.heap.size + 1 < w3.heap.size := by omega
          clear hm3 hd3 ho3 b6
          go_wp2_with fail
          rw [← hw6]
          refine HEQ.out.mono ?_
          rintro e w7 ⟨rfl, hb7⟩
          have HC7 := Lib.hid (HC6.out.below hb7 (Nat.le_refl _))
          have HM7 := Lib.hid (HM6.out.below hb7 (Nat.le_refl _))
          have HB7 := Lib.hid (HB6.out.below hb7 (Nat.le_refl _))
          have hne : ((er : Int) != er) = false := by simp
          have HQ3 : Hid (w3.heap.size < w7.heap.size) := HC7.out.lt
          obtain ⟨q, hq⟩ : ∃ q, q = w3.heap.size := ⟨_, rfl⟩
          rw [← hq] at HC7 HV3B HQ3
          rw [← hq]
          have hqb : b < q := by omega
          have hq2 : w2'.heap.size ≤ q := by omega
          have hNq : N ≤ w2'.heap.size := by omega
          have HXB : Hid (∀ y, A2 = some y → y.block < w2'.heap.size) := fun y hy => (HA4.out y hy).2.2.2
          have HFB : Hid (∀ j, F j → j < w2'.heap.size) := fun j hj => by have := (hfl j hj).2; omega
          have hbb : b < w2'.heap.size := by omega
          clear hb7 h0 h1 hw6 hq
          obtain ⟨cz0, cz1, _, _⟩ := HC7.out
          go_wp2_with fail
          clear cz0 cz1
          go_loopw [125] (fun i wr => ∃ (j : Nat) (bs : Bs), j ≤ p.length ∧ i = .int .i64 (j : Int) ∧ bs.length = p.length ∧ Mine w2'.heap.size 1 wr V3 p.length v3 (bs.map byteV) ∧ Both N W wr F gg b m s2 A2 c2 ∧ Cel wr q (.int .u8 (cd.toNat : Int)) (.slice V3 p.length v3)) (fun i _ => p.length - (intOf i).toNat)
          case atStart => exact ⟨0, p, Nat.zero_le _, rfl, rfl, HM7.out, HB7.out, HC7.out⟩
          case round =>
            obtain ⟨j, bs, hj, rfl, hbs, hmi, hbt, hct⟩ := hrel
            have HMI := Lib.hid hmi; have HBT := Lib.hid hbt; have HBS := Lib.hid hbs; have HCT := Lib.hid hct
            clear hmi hbt hct
            by_cases hlt : j < p.length
            · obtain ⟨og, oo, rfl⟩ : ∃ og oo, V3 = some ⟨og, oo, none⟩ := by
                cases V3 with
                | none => have h1 := HMI.out.non rfl; have h2 := HMI.out.le; omega
                | some a => obtain ⟨og, oo, e, _⟩ := HMI.out.lies a rfl; exact ⟨og, oo, by rw [e]⟩
              have hjb : j < bs.length := by omega
              have hc0 : wr.cell? ⟨og, oo + j, none⟩ = some (.int .u8 (bs[j].toNat : Int)) := by
                obtain ⟨og', oo', e, _, _, _, h4⟩ := HMI.out.lies _ rfl
                injection e with e1 e2
                subst e1; subst e2
                rw [h4 j (by simpa using hjb)]
                simp [byteV]
              have hf0 : wr.frozen? ⟨og, oo + j, none⟩ = false := by
                obtain ⟨og', oo', e, _, _, h3, _⟩ := HMI.out.lies _ rfl
                injection e with e1 e2
                subst e1; subst e2
                exact (h3 j (by have := HMI.out.le; omega)).2
              have hx := bs[j].toNat_lt
              have HS := Lib.hid (mine_set hbs HMI.out j ((bs[j].toNat + 1) % 256) hlt (by omega))
              have hogb := HV3B.out _ rfl
              simp only at hogb
              have HBT2 := Lib.hid (HBT.out.only (G := fun i => i = og) (((Only.refl (fun i => i = og) wr).put (ad := ⟨og, oo + j, none⟩) rfl (.int .u8 (((bs[j].toNat + 1) % 256 : Nat) : Int)))) (fun i _ e => by
                subst e
                exact ⟨by omega, fun hf => by have := HFB.out _ hf; omega, by omega, fun y hy => by have := HXB.out y hy; omega⟩))
              have HCT2 := Lib.hid (cel_only HCT.out (F := fun i => i = og) (((Only.refl (fun i => i = og) wr).put (ad := ⟨og, oo + j, none⟩) rfl (.int .u8 (((bs[j].toNat + 1) % 256 : Nat) : Int)))) (fun e => by omega))
              have i2 : (j : Int) < p.length := by omega
              obtain ⟨cz0, cz1, _, _⟩ := HCT.out
              clear hbs hx
              go_wp2_with fail
              go_roundw
              case rel => exact ⟨j + 1, _, by omega, by go_num, by rw [List.length_set]; exact HBS.out, HS.out, HBT2.out, HCT2.out⟩
              case measure => simp [intOf]; omega
            · obtain rfl : j = p.length := by omega
              have hnn2 : ¬ (p.length : Int) < p.length := by omega
              have TD : Hid (∀ v, Below wr.heap.size wr v → Dec F v gg m s2) := fun v hv => HBT.out.dec.below hv (Nat.le_refl _)
              have TA : Hid (∀ v, Below wr.heap.size wr v → Arg v A2 s2.held c2) := fun v hv => arg_below HBT.out.arg hv (Nat.le_refl _)
              have tc0 : ∀ v, Below wr.heap.size wr v → v.cell? ⟨b, 0, none⟩ = some (.int .i64 m) := fun v hv => (HBT.out.cel.below hv (Nat.le_refl _)).c0
              have tc1 : ∀ v, Below wr.heap.size wr v → v.cell? ⟨b, 1, none⟩ = some (.slice A2 s2.held.length c2) := fun v hv => (HBT.out.cel.below hv (Nat.le_refl _)).c1
              have tc2 : ∀ v, Below wr.heap.size wr v → v.cell? ⟨b, 2, none⟩ = some (.bool s2.shut) := fun v hv => (HBT.out.cel.below hv (Nat.le_refl _)).c2
              have TN : Hid (∀ v, Below wr.heap.size wr v → Calls Try.prog 19 #[.pointer (some ⟨gg, 0, none⟩)] v (intOfN (need m s2) v)) := fun v hv => need_any HM.out (TD.out v hv) (by omega)
              have TR : Hid (∀ v, Below wr.heap.size wr v → Calls Try.prog 20 #[.agg #[.int .i64 m, .slice A2 s2.held.length c2, .bool s2.shut]] v (intOfN (need m s2) v)) := fun v hv => rneed_any rfl rfl HM.out (TA.out v hv) (by omega)
              generalize need m s2 = nd at TN TR
              go_wp2_with fail
              refine wp_region_noPanic ?_
              refine wp_region_held_drew (S := fun v => Below wr.heap.size wr v) (by kernel_rfl) ((Below.refl _ _).drew) (fun hHeld => ?_)
              refine wpAnyH_take (i := 0) (oi := ⟨some 136, _, _, _, _, _⟩) (v := ?_) rfl (by kernel_rfl) (by kernel_rfl) (by kernel_rfl) (fun _ _ _ h => h) (Or.inl ⟨by rfl, ?_⟩) (by assumption) ?_
              rotate_left
              · intro w hSw; go_simp; first | done | with_reducible rfl
              try simp only [Act.put, List.setIfInBounds_toArray, List.set_cons_zero, List.set_cons_succ]
              refine wpAnyH_take (i := 2) (oi := ⟨some 138, _, _, _, _, _⟩) (v := ?_) rfl (by kernel_rfl) (by kernel_rfl) (by kernel_rfl) (fun _ _ _ h => h) (Or.inl ⟨by rfl, ?_⟩) (by assumption) ?_
              rotate_left
              · intro w hSw; go_simp; first | done | with_reducible rfl
              try simp only [Act.put, List.setIfInBounds_toArray, List.set_cons_zero, List.set_cons_succ]
              refine wpAnyH_take (i := 3) (oi := ⟨some 139, _, _, _, _, _⟩) (v := ?_) rfl (by kernel_rfl) (by kernel_rfl) (by kernel_rfl) (fun _ _ _ h => h) (Or.inl ⟨by rfl, ?_⟩) (by assumption) ?_
              rotate_left
              · intro w hSw; go_simp; first | done | with_reducible rfl
              try simp only [Act.put, List.setIfInBounds_toArray, List.set_cons_zero, List.set_cons_succ]
              refine wpAnyH_take (i := 4) (oi := ⟨some 140, _, _, _, _, _⟩) (v := ?_) rfl (by kernel_rfl) (by kernel_rfl) (by kernel_rfl) (fun _ _ _ h => h) (Or.inl ⟨by rfl, ?_⟩) (by assumption) ?_
              rotate_left
              · intro w hSw; go_simp; first | done | with_reducible rfl
              try simp only [Act.put, List.setIfInBounds_toArray, List.set_cons_zero, List.set_cons_succ]
              refine wpAnyH_ready (rs := [1]) (by kernel_rfl) (by simp) ?_
              refine AllReadyH.cons (o := ⟨some 137, _, _, _, _, _⟩) rfl (fun K hK => ?_) AllReadyH.nil
              go_simp
              refine (held_any (TD.out _ hHeld)).mono ?_
              rintro e wt ⟨rfl, rfl⟩
              go_simp
              refine hK.out _ _ hHeld (fun hHeld => ?_)
              clear hK K
              try simp only [Act.put, List.setIfInBounds_toArray, List.set_cons_zero, List.set_cons_succ]
              refine wpAnyH_take (i := 5) (oi := ⟨some 141, _, _, _, _, _⟩) (v := ?_) rfl (by kernel_rfl) (by kernel_rfl) (by kernel_rfl) (fun _ _ _ h => h) (Or.inl ⟨by rfl, ?_⟩) (by assumption) ?_
              rotate_left
              · intro w hSw; go_simp; first | done | with_reducible rfl
              try simp only [Act.put, List.setIfInBounds_toArray, List.set_cons_zero, List.set_cons_succ]
              refine wpAnyH_take (i := 6) (oi := ⟨some 142, _, _, _, _, _⟩) (v := ?_) rfl (by kernel_rfl) (by kernel_rfl) (by kernel_rfl) (fun _ _ _ h => h) (Or.inl ⟨by rfl, ?_⟩) (by assumption) ?_
              rotate_left
              · intro w hSw; go_simp; first | done | with_reducible rfl
              try simp only [Act.put, List.setIfInBounds_toArray, List.set_cons_zero, List.set_cons_succ]
              refine wpAnyH_take (i := 7) (oi := ⟨some 143, _, _, _, _, _⟩) (v := ?_) rfl (by kernel_rfl) (by kernel_rfl) (by kernel_rfl) (fun _ _ _ h => h) (Or.inl ⟨by rfl, ?_⟩) (by assumption) ?_
              rotate_left
              · intro w hSw; go_simp; first | done | with_reducible rfl
              try simp only [Act.put, List.setIfInBounds_toArray, List.set_cons_zero, List.set_cons_succ]
              refine wpAnyH_take (i := 9) (oi := ⟨some 145, _, _, _, _, _⟩) (v := ?_) rfl (by kernel_rfl) (by kernel_rfl) (by kernel_rfl) (fun _ _ _ h => h) (Or.inl ⟨by rfl, ?_⟩) (by assumption) ?_
              rotate_left
              · intro w hSw; go_simp; first | done | with_reducible rfl
              try simp only [Act.put, List.setIfInBounds_toArray, List.set_cons_zero, List.set_cons_succ]
              refine wpAnyH_ready (rs := [8]) (by kernel_rfl) (by simp) ?_
              refine AllReadyH.cons (o := ⟨some 144, _, _, _, _, _⟩) rfl (fun K hK => ?_) AllReadyH.nil
              go_simp
              refine (TN.out _ hHeld).mono ?_
              rintro e wt ⟨rfl, hbt⟩
              have hHeld := step0 hHeld hbt
              clear hbt
              go_simp
              refine hK.out _ _ hHeld (fun hHeld => ?_)
              clear hK K
              try simp only [Act.put, List.setIfInBounds_toArray, List.set_cons_zero, List.set_cons_succ]
              refine wpAnyH_ready (rs := [10]) (by kernel_rfl) (by simp) ?_
              refine AllReadyH.cons (o := ⟨some 146, _, _, _, _, _⟩) rfl (fun K hK => ?_) AllReadyH.nil
              go_simp
              refine (TR.out _ hHeld).mono ?_
              rintro e wt ⟨rfl, hbt⟩
              have hHeld := step0 hHeld hbt
              clear hbt
              go_simp
              refine hK.out _ _ hHeld (fun hHeld => ?_)
              clear hK K
              try simp only [Act.put, List.setIfInBounds_toArray, List.set_cons_zero, List.set_cons_succ]
              refine wpAnyH_take (i := 11) (oi := ⟨some 147, _, _, _, _, _⟩) (v := ?_) rfl (by kernel_rfl) (by kernel_rfl) (by kernel_rfl) (fun _ _ _ h => h) (Or.inl ⟨by rfl, ?_⟩) (by assumption) ?_
              rotate_left
              · intro w hSw; go_simp; first | done | with_reducible rfl
              try simp only [Act.put, List.setIfInBounds_toArray, List.set_cons_zero, List.set_cons_succ]
              refine wpAnyH_take (i := 12) (oi := ⟨some 148, _, _, _, _, _⟩) (v := ?_) rfl (by kernel_rfl) (by kernel_rfl) (by kernel_rfl) (fun _ _ _ h => h) (Or.inl ⟨by rfl, ?_⟩) (by assumption) ?_
              rotate_left
              · intro w hSw; go_simp; first | done | with_reducible rfl
              try simp only [Act.put, List.setIfInBounds_toArray, List.set_cons_zero, List.set_cons_succ]
              refine wpAnyH_take (i := 13) (oi := ⟨some 149, _, _, _, _, _⟩) (v := ?_) rfl (by kernel_rfl) (by kernel_rfl) (by kernel_rfl) (fun _ _ _ h => h) (Or.inl ⟨by rfl, ?_⟩) (by assumption) ?_
              rotate_left
              · intro w hSw; go_simp; first | done | with_reducible rfl
              try simp only [Act.put, List.setIfInBounds_toArray, List.set_cons_zero, List.set_cons_succ]
              refine wpAnyH_take (i := 14) (oi := ⟨some 150, _, _, _, _, _⟩) (v := ?_) rfl (by kernel_rfl) (by kernel_rfl) (by kernel_rfl) (fun _ _ _ h => h) (Or.inl ⟨by rfl, ?_⟩) (by assumption) ?_
              rotate_left
              · intro w hSw; go_simp; first | done | with_reducible rfl
              try simp only [Act.put, List.setIfInBounds_toArray, List.set_cons_zero, List.set_cons_succ]
              refine wpAnyH_take (i := 16) (oi := ⟨some 152, _, _, _, _, _⟩) (v := ?_) rfl (by kernel_rfl) (by kernel_rfl) (by kernel_rfl) (fun _ _ _ h => h) (Or.inl ⟨by rfl, ?_⟩) (by assumption) ?_
              rotate_left
              · intro w hSw; go_simp; first | done | with_reducible rfl
              try simp only [Act.put, List.setIfInBounds_toArray, List.set_cons_zero, List.set_cons_succ]
              refine wpAnyH_take (i := 17) (oi := ⟨some 153, _, _, _, _, _⟩) (v := ?_) rfl (by kernel_rfl) (by kernel_rfl) (by kernel_rfl) (fun _ _ _ h => h) (Or.inl ⟨by rfl, ?_⟩) (by assumption) ?_
              rotate_left
              · intro w hSw; go_simp; first | done | with_reducible rfl
              try simp only [Act.put, List.setIfInBounds_toArray, List.set_cons_zero, List.set_cons_succ]
              refine wpAnyH_ready (rs := [15]) (by kernel_rfl) (by simp) ?_
              refine AllReadyH.cons (o := ⟨some 151, _, _, _, _, _⟩) rfl (fun K hK => ?_) AllReadyH.nil
              go_simp
              refine (closed_any (TD.out _ hHeld)).mono ?_
              rintro e wt ⟨rfl, rfl⟩
              go_simp
              refine hK.out _ _ hHeld (fun hHeld => ?_)
              clear hK K
              try simp only [Act.put, List.setIfInBounds_toArray, List.set_cons_zero, List.set_cons_succ]
              refine wpAnyH_take (i := 18) (oi := ⟨some 154, _, _, _, _, _⟩) (v := ?_) rfl (by kernel_rfl) (by kernel_rfl) (by kernel_rfl) (fun _ _ _ h => h) (Or.inl ⟨by rfl, ?_⟩) (by assumption) ?_
              rotate_left
              · intro w hSw; go_simp; first | done | with_reducible rfl
              try simp only [Act.put, List.setIfInBounds_toArray, List.set_cons_zero, List.set_cons_succ]
              refine wpAnyH_take (i := 19) (oi := ⟨some 155, _, _, _, _, _⟩) (v := ?_) rfl (by kernel_rfl) (by kernel_rfl) (by kernel_rfl) (fun _ _ _ h => h) (Or.inl ⟨by rfl, ?_⟩) (by assumption) ?_
              rotate_left
              · intro w hSw; go_simp; first | done | with_reducible rfl
              try simp only [Act.put, List.setIfInBounds_toArray, List.set_cons_zero, List.set_cons_succ]
              refine wpAnyH_done (by kernel_rfl) ?_ _
              refine NoPanic.normal ?_
              have HBE := Lib.hid (HBT.out.below hHeld (Nat.le_refl _))
              clear tc0 tc1 tc2 hHeld
              go_wp2_with fail
              go_roundw
              case rel => exact ⟨k + 1, s2, F, gg, A2, c2, by omega, rfl, by go_num, HBE.out, hs2l⟩
              case measure => simp [intOf]; omega
          
        · have hn1' : ((xn : Int) == 1) = false := by rw [beq_eq_false_iff_ne]; exact hn1
          clear hn0 hn1
          obtain ⟨w1, hw1⟩ : ∃ w1, w1 = wa := ⟨_, rfl⟩
          have hn0'' := hn0'
          have HCP := Lib.hid (copy_any HBa.out.dec (by omega))
          go_wp2_with fail
          rw [← hwa]
          clear hwa hw1
          refine HCP.out.mono ?_
          rintro e w2' ⟨g2, rfl, hd2, hb2⟩
          have hz2' := hb2.size
          have hfl := HBO.out.fl
          have HO2 := Lib.hid (HBa.out.below hb2 (Nat.le_refl _))
          have HB2 : Hid (Both N W w2' (fun j => wa.heap.size ≤ j ∧ j < w2'.heap.size) g2 b m s X xc) := by
            refine ⟨hd2.tight, HO2.out.cel, HO2.out.arg, fun j hj => ⟨by omega, hj.2⟩, fun hf => by omega, hbN, fun a ha => ?_, HO2.out.bel, HO2.out.nN⟩
            have := HBO.out.aF a ha
            exact ⟨fun hf => by omega, this.2.1, this.2.2.1, by omega⟩
          have hbB : b < w2'.heap.size := by omega
          have HXB : Hid (∀ a, X = some a → a.block < wr.heap.size ∧ ¬ F a.block) := fun a ha => ⟨(HBO.out.aF a ha).2.2.2, (HBO.out.aF a ha).1⟩
          obtain ⟨F2, hF2⟩ : ∃ F2, F2 = (fun j => wa.heap.size ≤ j ∧ j < w2'.heap.size) := ⟨_, rfl⟩
          have HF2 : Hid (∀ j, F2 j → wa.heap.size ≤ j ∧ j < w2'.heap.size) := by show ∀ j, _; rw [hF2]; exact fun j h => h
          rw [← hF2] at HB2
          obtain ⟨w3, hw3⟩ : ∃ w3, w3 = w2'.alloc (.cells #[.int .u8 1, .int .u8 2, .int .u8 255, .int .u8 255, .int .u8 255, .int .u8 127] 5) := ⟨_, rfl⟩
          have b3 : Below w2'.heap.size w2' w3 := by rw [hw3]; exact below_new _ _
          have HR3 : Hid (Rb w3 (some ⟨w2'.heap.size, 0, none⟩) [1, 2, 255, 255, 255, 127]) := by show Rb _ _ _; rw [hw3]; exact Rb.lit w2' [1, 2, 255, 255, 255, 127] (by simp)
          have HB3 := Lib.hid (HB2.out.below b3 (Nat.le_refl _))
          have HO3 := Lib.hid (HO2.out.below b3 (Nat.le_refl _))
          have hz3 := b3.size
          have HFD := Lib.hid (feed_any HO3.out.dec (some ⟨w2'.heap.size, 0, none⟩) [1, 2, 255, 255, 255, 127] 6 6 rfl HR3.out (fun e => by cases e) (by omega) (by simp))
          have hnk : s.held.length ≤ 300 * (k + 1) := by omega
          clear hd2 hb2 b3 hF2
          go_wp2_with fail
          rw [← hw3]
          clear hw3
          refine HFD.out.mono ?_
          rintro e w4 ⟨rfl, hd4, ho4⟩
          have HD4 := Lib.hid hd4
          have hz4 := ho4.size
          have HB4 := Lib.hid (HB3.out.only ho4 (fun j hj hf => by
            have h1 := hfl j hf
            exact ⟨h1.1, fun h2 => by have := HF2.out j h2; omega, fun e => HBO.out.bF (e ▸ hf), fun a ha e => (HXB.out a ha).2 (e ▸ hf)⟩))
          obtain ⟨s4, hs4⟩ : ∃ s4, s4 = feed s [1, 2, 255, 255, 255, 127] := ⟨_, rfl⟩
          rw [← hs4] at HD4
          have hs4l : s4.held.length ≤ 300 * (k + 1) := by
            rw [hs4]; unfold feed; split
            · omega
            · simp; omega
          have HG4 : Hid (∀ j, j < w4.heap.size → More F w3 j → N ≤ j ∧ ¬ F2 j ∧ j ≠ b ∧ ∀ a, X = some a → a.block ≠ j) := fun j _ hf => by
            rcases hf with hf | hf
            · have h1 := hfl j hf
              exact ⟨h1.1, fun h2 => by have := HF2.out j h2; omega, fun e => HBO.out.bF (e ▸ hf), fun a ha e => (HXB.out a ha).2 (e ▸ hf)⟩
            · exact ⟨by omega, fun h2 => by have := HF2.out j h2; omega, by omega, fun a ha e => by have := (HXB.out a ha).1; omega⟩
          have HNX := Lib.hid (next_any HM.out HD4.out (by omega))
          clear hd4 ho4 hs4
          go_wp2_with fail
          refine HNX.out.mono ?_
          rintro e w5 ⟨V5, v5, rfl, _, hd5, ho5⟩
          have HD5 := Lib.hid hd5
          have HB5 := Lib.hid (HB4.out.only ho5 HG4.out)
          have hz5 := ho5.size
          have hs5 := Nat.le_trans (nxS_len m s4) hs4l
          have HNY := Lib.hid (next_any HM.out HD5.out (by omega))
          clear hd5 ho5
          go_wp2_with fail
          refine HNY.out.mono ?_
          rintro e w6 ⟨V6, v6, rfl, _, hd6, ho6⟩
          have HB6 := Lib.hid (HB5.out.only ho6 (fun j hj hf => by
            rcases hf with hf | hf
            · exact HG4.out j (by have := (hfl j hf).2; omega) (Or.inl hf)
            · exact ⟨by omega, fun h2 => by have := HF2.out j h2; omega, by omega, fun a ha e => by have := (HXB.out a ha).1; omega⟩))
          clear hd6 ho6 HNX HNY HFD
          have TD : Hid (∀ v, Below w6.heap.size w6 v → Dec F2 v g2 m s) := fun v hv => HB6.out.dec.below hv (Nat.le_refl _)
          have TA : Hid (∀ v, Below w6.heap.size w6 v → Arg v X s.held xc) := fun v hv => arg_below HB6.out.arg hv (Nat.le_refl _)
          have tc0 : ∀ v, Below w6.heap.size w6 v → v.cell? ⟨b, 0, none⟩ = some (.int .i64 m) := fun v hv => (HB6.out.cel.below hv (Nat.le_refl _)).c0
          have tc1 : ∀ v, Below w6.heap.size w6 v → v.cell? ⟨b, 1, none⟩ = some (.slice X s.held.length xc) := fun v hv => (HB6.out.cel.below hv (Nat.le_refl _)).c1
          have tc2 : ∀ v, Below w6.heap.size w6 v → v.cell? ⟨b, 2, none⟩ = some (.bool s.shut) := fun v hv => (HB6.out.cel.below hv (Nat.le_refl _)).c2
          have TN : Hid (∀ v, Below w6.heap.size w6 v → Calls Try.prog 19 #[.pointer (some ⟨g2, 0, none⟩)] v (intOfN (need m s) v)) := fun v hv => need_any HM.out (TD.out v hv) (by omega)
          have TR : Hid (∀ v, Below w6.heap.size w6 v → Calls Try.prog 20 #[.agg #[.int .i64 m, .slice X s.held.length xc, .bool s.shut]] v (intOfN (need m s) v)) := fun v hv => rneed_any rfl rfl HM.out (TA.out v hv) (by omega)
          generalize need m s = nd at TN TR
          go_wp2_with fail
          refine wp_region_noPanic ?_
          refine wp_region_held_drew (S := fun v => Below w6.heap.size w6 v) (by kernel_rfl) ((Below.refl _ _).drew) (fun hHeld => ?_)
          refine wpAnyH_take (i := 0) (oi := ⟨some 136, _, _, _, _, _⟩) (v := ?_) rfl (by kernel_rfl) (by kernel_rfl) (by kernel_rfl) (fun _ _ _ h => h) (Or.inl ⟨by rfl, ?_⟩) (by assumption) ?_
          rotate_left
          · intro w hSw; go_simp; first | done | with_reducible rfl
          try simp only [Act.put, List.setIfInBounds_toArray, List.set_cons_zero, List.set_cons_succ]
          refine wpAnyH_take (i := 2) (oi := ⟨some 138, _, _, _, _, _⟩) (v := ?_) rfl (by kernel_rfl) (by kernel_rfl) (by kernel_rfl) (fun _ _ _ h => h) (Or.inl ⟨by rfl, ?_⟩) (by assumption) ?_
          rotate_left
          · intro w hSw; go_simp; first | done | with_reducible rfl
          try simp only [Act.put, List.setIfInBounds_toArray, List.set_cons_zero, List.set_cons_succ]
          refine wpAnyH_take (i := 3) (oi := ⟨some 139, _, _, _, _, _⟩) (v := ?_) rfl (by kernel_rfl) (by kernel_rfl) (by kernel_rfl) (fun _ _ _ h => h) (Or.inl ⟨by rfl, ?_⟩) (by assumption) ?_
          rotate_left
          · intro w hSw; go_simp; first | done | with_reducible rfl
          try simp only [Act.put, List.setIfInBounds_toArray, List.set_cons_zero, List.set_cons_succ]
          refine wpAnyH_take (i := 4) (oi := ⟨some 140, _, _, _, _, _⟩) (v := ?_) rfl (by kernel_rfl) (by kernel_rfl) (by kernel_rfl) (fun _ _ _ h => h) (Or.inl ⟨by rfl, ?_⟩) (by assumption) ?_
          rotate_left
          · intro w hSw; go_simp; first | done | with_reducible rfl
          try simp only [Act.put, List.setIfInBounds_toArray, List.set_cons_zero, List.set_cons_succ]
          refine wpAnyH_ready (rs := [1]) (by kernel_rfl) (by simp) ?_
          refine AllReadyH.cons (o := ⟨some 137, _, _, _, _, _⟩) rfl (fun K hK => ?_) AllReadyH.nil
          go_simp
          refine (held_any (TD.out _ hHeld)).mono ?_
          rintro e wt ⟨rfl, rfl⟩
          go_simp
          refine hK.out _ _ hHeld (fun hHeld => ?_)
          clear hK K
          try simp only [Act.put, List.setIfInBounds_toArray, List.set_cons_zero, List.set_cons_succ]
          refine wpAnyH_take (i := 5) (oi := ⟨some 141, _, _, _, _, _⟩) (v := ?_) rfl (by kernel_rfl) (by kernel_rfl) (by kernel_rfl) (fun _ _ _ h => h) (Or.inl ⟨by rfl, ?_⟩) (by assumption) ?_
          rotate_left
          · intro w hSw; go_simp; first | done | with_reducible rfl
          try simp only [Act.put, List.setIfInBounds_toArray, List.set_cons_zero, List.set_cons_succ]
          refine wpAnyH_take (i := 6) (oi := ⟨some 142, _, _, _, _, _⟩) (v := ?_) rfl (by kernel_rfl) (by kernel_rfl) (by kernel_rfl) (fun _ _ _ h => h) (Or.inl ⟨by rfl, ?_⟩) (by assumption) ?_
          rotate_left
          · intro w hSw; go_simp; first | done | with_reducible rfl
          try simp only [Act.put, List.setIfInBounds_toArray, List.set_cons_zero, List.set_cons_succ]
          refine wpAnyH_take (i := 7) (oi := ⟨some 143, _, _, _, _, _⟩) (v := ?_) rfl (by kernel_rfl) (by kernel_rfl) (by kernel_rfl) (fun _ _ _ h => h) (Or.inl ⟨by rfl, ?_⟩) (by assumption) ?_
          rotate_left
          · intro w hSw; go_simp; first | done | with_reducible rfl
          try simp only [Act.put, List.setIfInBounds_toArray, List.set_cons_zero, List.set_cons_succ]
          refine wpAnyH_take (i := 9) (oi := ⟨some 145, _, _, _, _, _⟩) (v := ?_) rfl (by kernel_rfl) (by kernel_rfl) (by kernel_rfl) (fun _ _ _ h => h) (Or.inl ⟨by rfl, ?_⟩) (by assumption) ?_
          rotate_left
          · intro w hSw; go_simp; first | done | with_reducible rfl
          try simp only [Act.put, List.setIfInBounds_toArray, List.set_cons_zero, List.set_cons_succ]
          refine wpAnyH_ready (rs := [8]) (by kernel_rfl) (by simp) ?_
          refine AllReadyH.cons (o := ⟨some 144, _, _, _, _, _⟩) rfl (fun K hK => ?_) AllReadyH.nil
          go_simp
          refine (TN.out _ hHeld).mono ?_
          rintro e wt ⟨rfl, hbt⟩
          have hHeld := step0 hHeld hbt
          clear hbt
          go_simp
          refine hK.out _ _ hHeld (fun hHeld => ?_)
          clear hK K
          try simp only [Act.put, List.setIfInBounds_toArray, List.set_cons_zero, List.set_cons_succ]
          refine wpAnyH_ready (rs := [10]) (by kernel_rfl) (by simp) ?_
          refine AllReadyH.cons (o := ⟨some 146, _, _, _, _, _⟩) rfl (fun K hK => ?_) AllReadyH.nil
          go_simp
          refine (TR.out _ hHeld).mono ?_
          rintro e wt ⟨rfl, hbt⟩
          have hHeld := step0 hHeld hbt
          clear hbt
          go_simp
          refine hK.out _ _ hHeld (fun hHeld => ?_)
          clear hK K
          try simp only [Act.put, List.setIfInBounds_toArray, List.set_cons_zero, List.set_cons_succ]
          refine wpAnyH_take (i := 11) (oi := ⟨some 147, _, _, _, _, _⟩) (v := ?_) rfl (by kernel_rfl) (by kernel_rfl) (by kernel_rfl) (fun _ _ _ h => h) (Or.inl ⟨by rfl, ?_⟩) (by assumption) ?_
          rotate_left
          · intro w hSw; go_simp; first | done | with_reducible rfl
          try simp only [Act.put, List.setIfInBounds_toArray, List.set_cons_zero, List.set_cons_succ]
          refine wpAnyH_take (i := 12) (oi := ⟨some 148, _, _, _, _, _⟩) (v := ?_) rfl (by kernel_rfl) (by kernel_rfl) (by kernel_rfl) (fun _ _ _ h => h) (Or.inl ⟨by rfl, ?_⟩) (by assumption) ?_
          rotate_left
          · intro w hSw; go_simp; first | done | with_reducible rfl
          try simp only [Act.put, List.setIfInBounds_toArray, List.set_cons_zero, List.set_cons_succ]
          refine wpAnyH_take (i := 13) (oi := ⟨some 149, _, _, _, _, _⟩) (v := ?_) rfl (by kernel_rfl) (by kernel_rfl) (by kernel_rfl) (fun _ _ _ h => h) (Or.inl ⟨by rfl, ?_⟩) (by assumption) ?_
          rotate_left
          · intro w hSw; go_simp; first | done | with_reducible rfl
          try simp only [Act.put, List.setIfInBounds_toArray, List.set_cons_zero, List.set_cons_succ]
          refine wpAnyH_take (i := 14) (oi := ⟨some 150, _, _, _, _, _⟩) (v := ?_) rfl (by kernel_rfl) (by kernel_rfl) (by kernel_rfl) (fun _ _ _ h => h) (Or.inl ⟨by rfl, ?_⟩) (by assumption) ?_
          rotate_left
          · intro w hSw; go_simp; first | done | with_reducible rfl
          try simp only [Act.put, List.setIfInBounds_toArray, List.set_cons_zero, List.set_cons_succ]
          refine wpAnyH_take (i := 16) (oi := ⟨some 152, _, _, _, _, _⟩) (v := ?_) rfl (by kernel_rfl) (by kernel_rfl) (by kernel_rfl) (fun _ _ _ h => h) (Or.inl ⟨by rfl, ?_⟩) (by assumption) ?_
          rotate_left
          · intro w hSw; go_simp; first | done | with_reducible rfl
          try simp only [Act.put, List.setIfInBounds_toArray, List.set_cons_zero, List.set_cons_succ]
          refine wpAnyH_take (i := 17) (oi := ⟨some 153, _, _, _, _, _⟩) (v := ?_) rfl (by kernel_rfl) (by kernel_rfl) (by kernel_rfl) (fun _ _ _ h => h) (Or.inl ⟨by rfl, ?_⟩) (by assumption) ?_
          rotate_left
          · intro w hSw; go_simp; first | done | with_reducible rfl
          try simp only [Act.put, List.setIfInBounds_toArray, List.set_cons_zero, List.set_cons_succ]
          refine wpAnyH_ready (rs := [15]) (by kernel_rfl) (by simp) ?_
          refine AllReadyH.cons (o := ⟨some 151, _, _, _, _, _⟩) rfl (fun K hK => ?_) AllReadyH.nil
          go_simp
          refine (closed_any (TD.out _ hHeld)).mono ?_
          rintro e wt ⟨rfl, rfl⟩
          go_simp
          refine hK.out _ _ hHeld (fun hHeld => ?_)
          clear hK K
          try simp only [Act.put, List.setIfInBounds_toArray, List.set_cons_zero, List.set_cons_succ]
          refine wpAnyH_take (i := 18) (oi := ⟨some 154, _, _, _, _, _⟩) (v := ?_) rfl (by kernel_rfl) (by kernel_rfl) (by kernel_rfl) (fun _ _ _ h => h) (Or.inl ⟨by rfl, ?_⟩) (by assumption) ?_
          rotate_left
          · intro w hSw; go_simp; first | done | with_reducible rfl
          try simp only [Act.put, List.setIfInBounds_toArray, List.set_cons_zero, List.set_cons_succ]
          refine wpAnyH_take (i := 19) (oi := ⟨some 155, _, _, _, _, _⟩) (v := ?_) rfl (by kernel_rfl) (by kernel_rfl) (by kernel_rfl) (fun _ _ _ h => h) (Or.inl ⟨by rfl, ?_⟩) (by assumption) ?_
          rotate_left
          · intro w hSw; go_simp; first | done | with_reducible rfl
          try simp only [Act.put, List.setIfInBounds_toArray, List.set_cons_zero, List.set_cons_succ]
          refine wpAnyH_done (by kernel_rfl) ?_ _
          refine NoPanic.normal ?_
          have HBE := Lib.hid (HB6.out.below hHeld (Nat.le_refl _))
          clear tc0 tc1 tc2 hHeld
          go_wp2_with fail
          go_roundw
          case rel => exact ⟨k + 1, s, F2, g2, X, xc, by omega, rfl, by go_num, HBE.out, hnk⟩
          case measure => simp [intOf]; omega
          
    · obtain rfl : k = l.length := by omega
      have hnn : ¬ (l.length : Int) < l.length := by omega
      go_wp2_with fail
      refine (HK.out _).mono ?_
      rintro e w7 ⟨rfl, hb⟩
      have HB7 : Hid (Below N W w7) := HBO.out.bel.trans (hb.mono hNr); clear hb
      go_wp2_with fail
      go_ret
      exact ⟨rfl, by rw [← hN]; exact HB7.out⟩
end Go.Proofs.Ytmphielkohnpgaa.Dt
