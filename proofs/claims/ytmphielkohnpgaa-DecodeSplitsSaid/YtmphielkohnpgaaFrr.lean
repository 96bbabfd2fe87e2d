/- Proves what the specification's Read returns: the frame that bytes begin with, or the errors. Conditions: few bytes. -/
import Derived.Test.YtmphielkohnpgaaFr
import Derived.Test.YtmphielkohnpgaaVgr
namespace Go.Proofs.Ytmphielkohnpgaa.Frr
open Go.RowKit Vm Ap Vw Va Gc Fm Fw Fr Vg Vgr

theorem alloc_cel (w : World) : ∃ w0, w0 = w.alloc (.cells #[.int .u8 0, .slice none 0 0] 39) ∧ Below w.heap.size w w0 ∧ Cel w0 w.heap.size (.int .u8 0) (.slice none 0 0) :=
  ⟨_, rfl, alloc_below _ _, Cel.new _ _ _ _⟩

set_option maxRecDepth 100000 in
set_option maxHeartbeats 1000000 in
theorem rread_any (A : Option Addr) (l : Bs) (c : Nat) (most : Int) (w : World) (hA : Rb w A l) (hl : l.length ≤ 1000000000) (hlc : l.length ≤ c) (hm1 : -9223372036854775808 ≤ most) (hm2 : most ≤ 9223372036854775807) :
    Calls Try.prog 29 #[.slice A l.length c, .int .i64 most] w (readPost w (readV l most)) := by
  by_cases hm : most < 0 ∨ 2097152 < most
  · have HP := Lib.hid (read_arg (l := l) hm)
    have HB := Lib.hid (alloc_below w (.cells #[.int .u8 0, .slice none 0 0] 39))
    by_cases h0 : most < 0
    · clear hm
      go_enter Try.func29, Try.ntmps29
      go_wp2_with fail
      exact bodyPost_ret (v := .tuple #[.agg #[.int .u8 0, .slice none 0 0], .int .i64 0, .int .i64 2]) (by simp [results, Try.results29, go_sem]) rfl (read_none HP.out rfl HB.out)
    · have h1 : 2097152 < most := by omega
      have d0 : decide (most < 0) = false := by simp; omega
      have d1 : decide (2097152 < most) = true := by simp; omega
      clear hm h0
      go_enter Try.func29, Try.ntmps29
      go_wp2_with fail
      exact bodyPost_ret (v := .tuple #[.agg #[.int .u8 0, .slice none 0 0], .int .i64 0, .int .i64 2]) (by simp [results, Try.results29, go_sem]) rfl (read_none HP.out rfl HB.out)
  · have HM := Lib.hid hm
    have h0 : 0 ≤ most := by omega
    have h1 : most ≤ 2097152 := by omega
    have d0 : decide (most < 0) = false := by simp; omega
    have d1 : decide (2097152 < most) = false := by simp; omega
    obtain ⟨w0, hw0, B0, hce⟩ := alloc_cel w
    have HA0 := Lib.hid (hA.below B0 (Nat.le_refl _))
    have HG : Hid (Calls Try.prog 33 #[.slice A l.length c] w0 (getPost w0 l)) := rget_any A l c w0 HA0.out hl
    have HB0 := Lib.hid B0
    have CE := Lib.hid hce
    obtain ⟨g1, g2, g3⟩ := get_lt l
    clear hce B0 hm
    by_cases he : getE l = 0
    · have HE := Lib.hid he
      have HGR : Hid (getR l = .tuple #[.int .u64 (getN l : Int), .int .i64 (getS l : Int), .int .i64 0]) := by show _ = _; unfold getR; rw [he]; rfl
      clear he
      by_cases hz : getN l = 0
      · have HP := Lib.hid (read_zero HM.out HE.out hz)
        rw [hz] at HGR
        clear g1 hz
        generalize readV l most = R at *
        generalize getS l = s at *
        go_enter Try.func29, Try.ntmps29
        go_wp2_with fail
        rw [← hw0]
        clear hw0
        refine HG.out.mono ?_
        rintro e w' ⟨rfl, rfl⟩
        rw [HGR.out]
        obtain ⟨cx0, cx1, cf0, cf1⟩ := CE.out
        go_wp2_with fail
        exact bodyPost_ret (v := .tuple #[.agg #[.int .u8 0, .slice none 0 0], .int .i64 0, .int .i64 6]) (by simp [results, Try.results29, go_sem, cx0, cx1]) rfl (read_none HP.out rfl ((HB0.out.setCell (Nat.le_refl _) _).setCell (Nat.le_refl _) _))
      · by_cases hn : most + 1 < (getN l : Int)
        · have HP := Lib.hid (read_long HM.out HE.out hz hn)
          have hz1 : ((getN l : Int) == 0) = false := by rw [beq_eq_false_iff_ne]; omega
          have hz2 : 1 ≤ (getN l : Int) := by omega
          have d2 : decide (most < (getN l : Int) - 1) = true := by simp; omega
          unfold big at g1
          clear hz
          generalize readV l most = R at *
          generalize getS l = s at *
          generalize getN l = n at *
          clear hn
          go_enter Try.func29, Try.ntmps29
          go_wp2_with fail
          rw [← hw0]
          clear hw0
          refine HG.out.mono ?_
          rintro e w' ⟨rfl, rfl⟩
          rw [HGR.out]
          obtain ⟨cx0, cx1, cf0, cf1⟩ := CE.out
          go_wp2_with fail
          exact bodyPost_ret (v := .tuple #[.agg #[.int .u8 0, .slice none 0 0], .int .i64 0, .int .i64 5]) (by simp [results, Try.results29, go_sem, cx0, cx1]) rfl (read_none HP.out rfl ((HB0.out.setCell (Nat.le_refl _) _).setCell (Nat.le_refl _) _))
        · have hz1 : ((getN l : Int) == 0) = false := by rw [beq_eq_false_iff_ne]; omega
          have hz2 : 1 ≤ (getN l : Int) := by omega
          have d2 : decide (most < (getN l : Int) - 1) = false := by simp; omega
          have hn2 : (getN l : Int) ≤ 2097153 := by omega
          by_cases hs : l.length - getS l < getN l
          · have HP := Lib.hid (read_short HM.out HE.out hz hn hs)
            have hs' : (l.length : Int) - getS l < getN l := by omega
            clear hz g1 hn
            generalize readV l most = R at *
            generalize getS l = s at *
            generalize getN l = n at *
            clear hs
            go_enter Try.func29, Try.ntmps29
            go_wp2_with fail
            rw [← hw0]
            clear hw0
            refine HG.out.mono ?_
            rintro e w' ⟨rfl, rfl⟩
            rw [HGR.out]
            obtain ⟨cx0, cx1, cf0, cf1⟩ := CE.out
            go_wp2_with fail
            exact bodyPost_ret (v := .tuple #[.agg #[.int .u8 0, .slice none 0 0], .int .i64 0, .int .i64 4]) (by simp [results, Try.results29, go_sem, cx0, cx1]) rfl (read_none HP.out rfl ((HB0.out.setCell (Nat.le_refl _) _).setCell (Nat.le_refl _) _))
          · have HP := Lib.hid (read_ok HM.out HE.out hz hn hs)
            have hs' : (getN l : Int) ≤ (l.length : Int) - getS l := by omega
            clear hz g1 hn
            generalize readV l most = R at *
            generalize getS l = s at *
            generalize getN l = n at *
            clear hs
            obtain ⟨b, o, rfl, hbl, hcell⟩ := HA0.out (by omega)
            have hsl : s < l.length := by omega
            have hcs := hcell s hsl
            have HGD : Hid (l.getD s 0 = l[s]) := by show _ = _; rw [List.getD_eq_getElem?_getD, List.getElem?_eq_getElem hsl]; rfl
            obtain ⟨m, hmm⟩ : ∃ m, m = (l.drop (s + 1)).take (n - 1) := ⟨_, rfl⟩
            have hml : m.length = n - 1 := by rw [hmm, List.length_take, List.length_drop]; omega
            have HSUB : Hid (Rb w0 (some ⟨b, o + (s + 1), none⟩) m) := by rw [hmm]; exact Rb.sub HA0.out (s + 1) (n - 1)
            rw [← hmm, HGD.out] at HP
            have HML := Lib.hid hml
            clear hmm hcell
            by_cases hc1 : c = s + 1
            · subst hc1
              obtain rfl : n = 1 := by omega
              have hm0 : m = [] := List.eq_nil_of_length_eq_zero (by omega)
              subst hm0
              clear hml
              go_enter Try.func29, Try.ntmps29
              go_wp2_with fail
              rw [← hw0]
              clear hw0
              refine HG.out.mono ?_
              rintro e w' ⟨rfl, rfl⟩
              rw [HGR.out]
              obtain ⟨cx0, cx1, cf0, cf1⟩ := CE.out
              go_wp2_with (at_builtin; (refine wpList_at rfl _ _ rfl rfl (own_nil w0.heap.size w0) [] (some ⟨b, o, none⟩) _ _ rfl (by simp) (fun e => by cases e) (Rb.nil _ _) (by simp) (by simp) (Nat.le_refl _) ?_))
              intro v2 w2 h2 g2
              have h2' : Own w0.heap.size w2 v2 [] := h2
              obtain ⟨V, vc, shV⟩ := own_shape h2'
              obtain rfl := shV.val
              have SV := Lib.hid shV
              have b2 : Below w0.heap.size w0 w2 := below_of_grown g2 (Nat.le_refl _) (by intro k e; cases e)
              have HB2 := Lib.hid (HB0.out.trans (b2.mono HB0.out.size))
              rw [← b2.cell (p := ⟨b, o + s, none⟩) hbl] at hcs
              have CE2 := Lib.hid (CE.out.below b2 (Nat.le_refl _))
              clear cx0 cx1 cf0 cf1 h2 h2' shV g2 b2
              obtain ⟨cx0, cx1, cf0, cf1⟩ := CE2.out
              go_wp2_with fail
              refine bodyPost_ret (v := .tuple #[.agg #[.int .u8 (l[s].toNat : Int), .slice V 0 vc], .int .i64 ((s : Int) + 1), .int .i64 0]) (by simp [results, Try.results29, go_sem, cx0, cx1]) rfl ⟨V, vc, by rw [HP.out]; rfl, ?_, (HB2.out.setCell (Nat.le_refl _) _).setCell (Nat.le_refl _) _⟩
              rw [HP.out]
              exact ⟨SV.out.rd.grown (grown_store (grown_store (World.grownBy.refl w2 _) 0 _) 1 _) (fun a e e2 => by have := (SV.out.base a e).1; have := CE.out.lt; injection e2 with e2; omega), SV.out.non, fun a e => ⟨Nat.le_trans HB0.out.size (SV.out.base a e).1, by simpa using (SV.out.base a e).2⟩⟩
            · clear hml
              go_enter Try.func29, Try.ntmps29
              go_wp2_with fail
              rw [← hw0]
              clear hw0
              refine HG.out.mono ?_
              rintro e w' ⟨rfl, rfl⟩
              rw [HGR.out]
              obtain ⟨cx0, cx1, cf0, cf1⟩ := CE.out
              go_wp2_with (at_builtin; (refine wpList_at rfl _ _ rfl rfl (own_nil w0.heap.size w0) m (some ⟨b, o + (s + 1), none⟩) _ _ rfl (by rw [HML.out]; omega) (fun e => by cases e) HSUB.out (by simp) (by rw [HML.out]; omega) (Nat.le_refl _) ?_))
              intro v2 w2 h2 g2
              have h2' : Own w0.heap.size w2 v2 m := h2
              obtain ⟨V, vc, shV⟩ := own_shape h2'
              obtain rfl := shV.val
              have SV := Lib.hid shV
              have b2 : Below w0.heap.size w0 w2 := below_of_grown g2 (Nat.le_refl _) (by intro k e; cases e)
              have HB2 := Lib.hid (HB0.out.trans (b2.mono HB0.out.size))
              rw [← b2.cell (p := ⟨b, o + s, none⟩) hbl] at hcs
              have CE2 := Lib.hid (CE.out.below b2 (Nat.le_refl _))
              clear cx0 cx1 cf0 cf1 h2 h2' shV g2 b2
              obtain ⟨cx0, cx1, cf0, cf1⟩ := CE2.out
              go_wp2_with fail
              refine bodyPost_ret (v := .tuple #[.agg #[.int .u8 (l[s].toNat : Int), .slice V m.length vc], .int .i64 ((s : Int) + n), .int .i64 0]) (by simp [results, Try.results29, go_sem, cx0, cx1]) rfl ⟨V, vc, by rw [HP.out]; rfl, ?_, (HB2.out.setCell (Nat.le_refl _) _).setCell (Nat.le_refl _) _⟩
              rw [HP.out]
              exact ⟨SV.out.rd.grown (grown_store (grown_store (World.grownBy.refl w2 _) 0 _) 1 _) (fun a e e2 => by have := (SV.out.base a e).1; have := CE.out.lt; injection e2 with e2; omega), SV.out.non, fun a e => ⟨Nat.le_trans HB0.out.size (SV.out.base a e).1, by simpa using (SV.out.base a e).2⟩⟩
    · obtain ⟨e1, e2, e3⟩ := get_no l he
      have HGR : Hid (getR l = .tuple #[.int .u64 0, .int .i64 0, .int .i64 (getE l : Int)]) := by show _ = _; unfold getR; rw [e2, e3]; rfl
      clear e2 e3 g1 g2 g3
      rcases e1 with h4 | h6
      · have HP := Lib.hid (read_in HM.out h4)
        rw [h4] at HGR
        clear he h4
        generalize readV l most = R at *
        go_enter Try.func29, Try.ntmps29
        go_wp2_with fail
        rw [← hw0]
        clear hw0
        refine HG.out.mono ?_
        rintro e w' ⟨rfl, rfl⟩
        rw [HGR.out]
        obtain ⟨cx0, cx1, cf0, cf1⟩ := CE.out
        go_wp2_with fail
        exact bodyPost_ret (v := .tuple #[.agg #[.int .u8 0, .slice none 0 0], .int .i64 0, .int .i64 4]) (by simp [results, Try.results29, go_sem, cx0, cx1]) rfl (read_none HP.out rfl ((HB0.out.setCell (Nat.le_refl _) _).setCell (Nat.le_refl _) _))
      · have HP := Lib.hid (read_no HM.out (by omega) he)
        rw [h6] at HGR
        clear he h6
        generalize readV l most = R at *
        go_enter Try.func29, Try.ntmps29
        go_wp2_with fail
        rw [← hw0]
        clear hw0
        refine HG.out.mono ?_
        rintro e w' ⟨rfl, rfl⟩
        rw [HGR.out]
        obtain ⟨cx0, cx1, cf0, cf1⟩ := CE.out
        go_wp2_with fail
        exact bodyPost_ret (v := .tuple #[.agg #[.int .u8 0, .slice none 0 0], .int .i64 0, .int .i64 5]) (by simp [results, Try.results29, go_sem, cx0, cx1]) rfl (read_none HP.out rfl ((HB0.out.setCell (Nat.le_refl _) _).setCell (Nat.le_refl _) _))
end Go.Proofs.Ytmphielkohnpgaa.Frr
