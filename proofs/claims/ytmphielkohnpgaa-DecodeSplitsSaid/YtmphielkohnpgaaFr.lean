/- Proves what package frame's Read returns: the frame that bytes begin with, or the errors. Conditions: few bytes. -/
import Derived.Test.YtmphielkohnpgaaFwa
import Derived.Test.YtmphielkohnpgaaVp
import Derived.Test.YtmphielkohnpgaaMb
namespace Go.Proofs.Ytmphielkohnpgaa.Fr
open Go.RowKit Vm Ap Vw Va Gc Fm Fw Vp Mi Mb

/-- What a reading of a frame leaves: a code, a payload, a size, an error. -/
def readPost (w : World) (r : UInt8 × Bs × Nat × Nat) : Ending → World → Prop := fun e w' =>
  ∃ A k, e = .returned (.tuple #[.agg #[.int .u8 (r.1.toNat : Int), .slice A r.2.1.length k], .int .i64 (r.2.2.1 : Int), .int .i64 (r.2.2.2 : Int)]) ∧ Fre w.heap.size w' A r.2.1 k ∧ Below w.heap.size w w'
/-- The same, and the payload may be written. -/
def readPostM (w : World) (r : UInt8 × Bs × Nat × Nat) : Ending → World → Prop := fun e w' =>
  ∃ A k, e = .returned (.tuple #[.agg #[.int .u8 (r.1.toNat : Int), .slice A r.2.1.length k], .int .i64 (r.2.2.1 : Int), .int .i64 (r.2.2.2 : Int)]) ∧ MineB w.heap.size w' A r.2.1 k ∧ Below w.heap.size w w'
theorem read_noneM {w w' : World} {r : UInt8 × Bs × Nat × Nat} {n : Nat} {x : Value} (h : r = (0, [], 0, n)) (hx : x = .tuple #[.agg #[.int .u8 0, .slice none 0 0], .int .i64 0, .int .i64 (n : Int)]) (hb : Below w.heap.size w w') : readPostM w r (.returned x) w' := by
  subst h; subst hx
  exact ⟨none, 0, rfl, Mine.nil _ _ _, hb⟩
theorem read_none {w w' : World} {r : UInt8 × Bs × Nat × Nat} {n : Nat} {x : Value} (h : r = (0, [], 0, n)) (hx : x = .tuple #[.agg #[.int .u8 0, .slice none 0 0], .int .i64 0, .int .i64 (n : Int)]) (hb : Below w.heap.size w w') : readPost w r (.returned x) w' := by
  subst h; subst hx
  exact ⟨none, 0, rfl, Fre.nil _ _, hb⟩

set_option maxRecDepth 100000 in
set_option maxHeartbeats 1000000 in
theorem fread_m (A : Option Addr) (l : Bs) (c : Nat) (most : Int) (w : World) (hA : Rb w A l) (hl : l.length ≤ 1000000000) (hlc : l.length ≤ c) (hm1 : -9223372036854775808 ≤ most) (hm2 : most ≤ 9223372036854775807) :
    Calls Try.prog 30 #[.slice A l.length c, .int .i64 most] w (readPostM w (readV l most)) := by
  by_cases hm : most < 0 ∨ 2097152 < most
  · have HP := Lib.hid (read_arg (l := l) hm)
    have HB := Lib.hid (alloc_below w (.cells #[.int .u8 0, .slice none 0 0] 39))
    by_cases h0 : most < 0
    · clear hm
      go_enter Try.func30, Try.ntmps30
      go_wp2_with fail
      exact bodyPost_ret (v := .tuple #[.agg #[.int .u8 0, .slice none 0 0], .int .i64 0, .int .i64 2]) (by simp [results, Try.results30, go_sem]) rfl (read_noneM HP.out rfl HB.out)
    · have h1 : 2097152 < most := by omega
      have d0 : decide (most < 0) = false := by simp; omega
      have d1 : decide (2097152 < most) = true := by simp; omega
      clear hm h0
      go_enter Try.func30, Try.ntmps30
      go_wp2_with fail
      exact bodyPost_ret (v := .tuple #[.agg #[.int .u8 0, .slice none 0 0], .int .i64 0, .int .i64 2]) (by simp [results, Try.results30, go_sem]) rfl (read_noneM HP.out rfl HB.out)
  · have HM := Lib.hid hm
    have h0 : 0 ≤ most := by omega
    have h1 : most ≤ 2097152 := by omega
    have d0 : decide (most < 0) = false := by simp; omega
    have d1 : decide (2097152 < most) = false := by simp; omega
    have HP0 := Lib.hid (read_part (l := l) hm)
    obtain ⟨w0, hw0⟩ : ∃ w0, w0 = w.alloc (.cells #[.int .u8 0, .slice none 0 0] 39) := ⟨_, rfl⟩
    have B0 : Below w.heap.size w w0 := by rw [hw0]; exact alloc_below _ _
    have hce : Cel w0 w.heap.size (.int .u8 0) (.slice none 0 0) := by rw [hw0]; exact Cel.new _ _ _ _
    have HG : Hid (Calls Try.prog 37 #[.slice A l.length c, .int .i64 (1 + most)] w0 (partPost w0 l (most + 1))) := by
      have := getB_any A l c (most + 1) w0 (hA.below B0 (Nat.le_refl _)) hl hlc (by omega) (by omega)
      rw [Int.add_comm most 1] at this
      rwa [Int.add_comm most 1]
    have hsz := part_size l (most + 1)
    obtain ⟨⟨P, S, E⟩, hpv⟩ : ∃ x, x = partV l (most + 1) := ⟨_, rfl⟩
    unfold partPost at HG
    rw [← hpv] at HG HP0 hsz
    simp only at HG HP0 hsz
    have HB0 := Lib.hid B0
    have CE := Lib.hid hce
    generalize readV l most = R at *
    clear hce B0 hm hpv hA
    by_cases h6 : E = 6
    · subst h6
      have HP : Hid (R = (0, [], 0, 5)) := HP0.out
      go_enter Try.func30, Try.ntmps30
      go_wp2_with fail
      rw [← hw0]
      clear hw0
      refine HG.out.mono ?_
      rintro e w1 ⟨v, rfl, hv, hb⟩
      obtain ⟨cx0, cx1, cf0, cf1⟩ := CE.out.below hb (Nat.le_refl _)
      have HB := Lib.hid (HB0.out.trans (hb.mono HB0.out.size))
      clear hv hb
      go_wp2_with fail
      exact bodyPost_ret (v := .tuple #[.agg #[.int .u8 0, .slice none 0 0], .int .i64 0, .int .i64 5]) (by simp [results, Try.results30, go_sem, cx0, cx1]) rfl (read_noneM HP.out rfl ((HB.out.setCell (Nat.le_refl _) _).setCell (Nat.le_refl _) _))
    · have e6 : ((E : Int) == 6) = false := by rw [beq_eq_false_iff_ne]; omega
      by_cases h00 : E = 0
      · subst h00
        by_cases hP : P.length < 1
        · have HP : Hid (R = (0, [], 0, 6)) := by show _ = _; rw [HP0.out, if_neg (by omega), if_neg (by omega), if_pos hP]
          have hp0 : (P.length : Int) < 1 := by omega
          clear h6
          go_enter Try.func30, Try.ntmps30
          go_wp2_with fail
          rw [← hw0]
          clear hw0
          refine HG.out.mono ?_
          rintro e w1 ⟨v, rfl, hv, hb⟩
          obtain ⟨cx0, cx1, cf0, cf1⟩ := CE.out.below hb (Nat.le_refl _)
          have HB := Lib.hid (HB0.out.trans (hb.mono HB0.out.size))
          obtain ⟨V, vc, shV⟩ := own_shape hv
          obtain rfl := shV.val
          clear hv hb shV
          go_wp2_with fail
          exact bodyPost_ret (v := .tuple #[.agg #[.int .u8 0, .slice none 0 0], .int .i64 0, .int .i64 6]) (by simp [results, Try.results30, go_sem, cx0, cx1]) rfl (read_noneM HP.out rfl ((HB.out.setCell (Nat.le_refl _) _).setCell (Nat.le_refl _) _))
        · have HP : Hid (R = (P.getD 0 0, P.drop 1, S, 0)) := by show _ = _; rw [HP0.out, if_neg (by omega), if_neg (by omega), if_neg hP]
          have hp0 : 1 ≤ (P.length : Int) := by omega
          have hpos : 0 < P.length := by omega
          clear h6 hP
          go_enter Try.func30, Try.ntmps30
          go_wp2_with fail
          rw [← hw0]
          clear hw0
          refine HG.out.mono ?_
          rintro e w1 ⟨v, rfl, hv, hb⟩
          obtain ⟨cx0, cx1, cf0, cf1⟩ := CE.out.below hb (Nat.le_refl _)
          have HB := Lib.hid (HB0.out.trans (hb.mono HB0.out.size))
          rcases own_form hv with ⟨_, hnil⟩ | ⟨g, cap, rfl, hBg, hgl, hcap⟩
          · rw [hnil] at hpos; simp at hpos
          · have cb := (own_cell rfl hv hpos).1
            have HR := Lib.hid (mine_own hv)
            have hne : ¬ w.heap.size = g := by have := HB0.out.size; have := CE.out.lt; omega
            have HWG : Hid (w.heap.size ≤ g) := Nat.le_trans HB0.out.size hBg
            have HNB : Hid (∀ k a, some (⟨g, k, none⟩ : Addr) = some a → some a.block ≠ some w.heap.size) := fun k a e e2 => by
              injection e with e; subst e; injection e2 with e2; simp only at e2; omega
            have HPZ : Hid (P.getD 0 0 = P[0]) := by show _ = _; rw [List.getD_eq_getElem?_getD, List.getElem?_eq_getElem hpos]; rfl
            clear hv hb
            have HCUT := Lib.hid (mine_cut HR.out 1 (by omega))
            by_cases hc1 : cap = 1
            · subst hc1
              have hp1 : P.length = 1 := by omega
              rw [cutA, if_pos rfl] at HCUT
              have HL : Hid ((P.drop 1).length = 0) := by show _ = _; rw [List.length_drop]; omega
              clear hp1
              go_wp2_with fail
              go_region
              all_goals
                go_wp2_with fail
                refine bodyPost_ret (v := .tuple #[.agg #[.int .u8 (P[0].toNat : Int), .slice (some ⟨g, 0, none⟩) 0 0], .int .i64 (S : Int), .int .i64 0]) (by simp [results, Try.results30, go_sem, cx0, cx1]) rfl ⟨some ⟨g, 0, none⟩, 0, by rw [HP.out, HL.out, HPZ.out]; rfl, ?_, ((HB.out.setCell (Nat.le_refl _) _).setCell (Nat.le_refl _) _).drew⟩
                rw [HP.out]
                exact (HCUT.out.only (F := fun j => j = w.heap.size) (((Only.refl (fun j => j = w.heap.size) w1).setCell (ad := ⟨w.heap.size, 0, none⟩) (Or.inl rfl) _).setCell (ad := ⟨w.heap.size, 1, none⟩) (Or.inl rfl) _).drew (fun a e hf => HNB.out 0 a e (congrArg some hf))).mono HB0.out.size
            · rw [cutA, if_neg (by omega), Option.map_some, add_plain, Nat.zero_add] at HCUT
              have HL : Hid ((P.drop 1).length = P.length - 1) := by show _ = _; rw [List.length_drop]
              go_wp2_with fail
              go_region
              all_goals
                go_wp2_with fail
                refine bodyPost_ret (v := .tuple #[.agg #[.int .u8 (P[0].toNat : Int), .slice (some ⟨g, 1, none⟩) (P.length - 1) (cap - 1)], .int .i64 (S : Int), .int .i64 0]) (by simp [results, Try.results30, go_sem, cx0, cx1]) rfl ⟨some ⟨g, 1, none⟩, cap - 1, by rw [HP.out, HL.out, HPZ.out]; rfl, ?_, ((HB.out.setCell (Nat.le_refl _) _).setCell (Nat.le_refl _) _).drew⟩
                rw [HP.out]
                exact (HCUT.out.only (F := fun j => j = w.heap.size) (((Only.refl (fun j => j = w.heap.size) w1).setCell (ad := ⟨w.heap.size, 0, none⟩) (Or.inl rfl) _).setCell (ad := ⟨w.heap.size, 1, none⟩) (Or.inl rfl) _).drew (fun a e hf => HNB.out 1 a e (congrArg some hf))).mono HB0.out.size
      · have ne0 : ((E : Int) != 0) = true := by rw [bne_iff_ne]; omega
        have HP : Hid (R = (0, [], 0, E)) := by show _ = _; rw [HP0.out, if_neg h6, if_pos h00]
        clear h6 h00
        go_enter Try.func30, Try.ntmps30
        go_wp2_with fail
        rw [← hw0]
        clear hw0
        refine HG.out.mono ?_
        rintro e w1 ⟨v, rfl, hv, hb⟩
        obtain ⟨cx0, cx1, cf0, cf1⟩ := CE.out.below hb (Nat.le_refl _)
        have HB := Lib.hid (HB0.out.trans (hb.mono HB0.out.size))
        clear hv hb
        go_wp2_with fail
        exact bodyPost_ret (v := .tuple #[.agg #[.int .u8 0, .slice none 0 0], .int .i64 0, .int .i64 (E : Int)]) (by simp [results, Try.results30, go_sem, cx0, cx1]) rfl (read_noneM HP.out rfl ((HB.out.setCell (Nat.le_refl _) _).setCell (Nat.le_refl _) _))
theorem fread_any (A : Option Addr) (l : Bs) (c : Nat) (most : Int) (w : World) (hA : Rb w A l) (hl : l.length ≤ 1000000000) (hlc : l.length ≤ c) (hm1 : -9223372036854775808 ≤ most) (hm2 : most ≤ 9223372036854775807) :
    Calls Try.prog 30 #[.slice A l.length c, .int .i64 most] w (readPost w (readV l most)) :=
  (fread_m A l c most w hA hl hlc hm1 hm2).mono fun _ _ ⟨V, k, h1, h2, h3⟩ => ⟨V, k, h1, fre_mine h2, h3⟩
end Go.Proofs.Ytmphielkohnpgaa.Fr
