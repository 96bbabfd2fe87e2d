/- Proves that ArenaHolds returns true at every argument. Conditions: as the row gives them. -/
import Derived.Test.YtighehonkookhaaNt
import Derived.Test.YtighehonkookhaaOb
import Derived.Test.YtighehonkookhaaOc
namespace Go.Proofs.Ytighehonkookhaa.Od
open Go.RowKit Ap Mi Nm Nw Na Nb Rg Nc Nd Nx Nf Ng Nh Nj Nk Nl Np Nq Nt
open No (acL acL_get acL_len)
open Oa (In kl Owns Rng at_ok at_no at_store at_rng at_all made)
open Ob

/-- The arena in block g, and the map in block b, apart. -/
structure Base (N : Nat) (w : World) (F : Nat → Prop) (g m G : Nat) (s : St) (b n : Nat) (D : DataW Unit) : Prop where
  are : Are F w g m G s
  own : Owns w b n D
  fl : ∀ j, F j → N ≤ j ∧ j < w.heap.size
  bN : N ≤ b
  bF : ¬ F b
section
variable {N : Nat} {w w' : World} {F H : Nat → Prop} {g m G b n : Nat} {s : St} {D : DataW Unit}
theorem Base.lt (h : Base N w F g m G s b n D) : b < w.heap.size := World.ownsMap.lt h.own
theorem Base.only (h : Base N w F g m G s b n D) (ho : Only H w w') (hF : ∀ j, H j → ¬ F j) (hb : ¬ H b) : Base N w' F g m G s b n D :=
  ⟨h.are.only ho (fun j hf hh => hF j hh hf), h.own.kept ho hb, fun j hf => ⟨(h.fl j hf).1, Nat.lt_of_lt_of_le (h.fl j hf).2 ho.size⟩, h.bN, h.bF⟩
theorem Base.below {B : Nat} (h : Base N w F g m G s b n D) (hb : Below B w w') (hB : w.heap.size ≤ B) : Base N w' F g m G s b n D :=
  h.only (Only.of_below hb hB (fun _ => False)) (fun _ hf => hf.elim) (fun hf => hf)
theorem Base.more {G' : Nat} (h : Base N w F g m G s b n D) (hG : G ≤ G') : Base N w F g m G' s b n D := ⟨h.are.more hG, h.own, h.fl, h.bN, h.bF⟩
theorem Base.took {G' : Nat} {s' : St} (h : Base N w F g m G s b n D) (hN : N ≤ w.heap.size) (ha : Are (More F w) w' g m G' s') (ho : Only F w w') : Base N w' (fun j => More F w j ∧ j < w'.heap.size) g m G' s' b n D :=
  ⟨ha.tight, h.own.kept ho h.bF, fun j hj => ⟨by
    rcases hj.1 with hf | hf
    · exact (h.fl j hf).1
    · omega, hj.2⟩, h.bN, fun hb => by
    rcases hb.1 with hf | hf
    · exact h.bF hf
    · have := h.lt; omega⟩
theorem Base.store {n' : Nat} {D' : DataW Unit} (h : Base N w F g m G s b n D) (hw : Owns w' b n' D') (ho : Only (fun k => k = b) w w') : Base N w' F g m G s b n' D' :=
  ⟨h.are.only ho (fun j hf e => h.bF (by rw [← e]; exact hf)), hw, fun j hf => ⟨(h.fl j hf).1, Nat.lt_of_lt_of_le (h.fl j hf).2 ho.size⟩, h.bN, h.bF⟩
end
set_option maxRecDepth 100000 in
set_option maxHeartbeats 8000000 in
theorem holds_walk (n : Int) (C : Option Addr) (q : Nat) (l : List (Int × Int × Int)) (W : World) (ha : Rs W 3 C l.length q (acL l)) (hbd : ∀ x ∈ l, In x.2.1 ∧ In x.2.2) :
    Calls Try.prog 7 #[.int .i64 n, .slice C l.length q] W (boolTo true W) := by
  have HK := known_hid
  have HD := Lib.hid ha
  have HBD := Lib.hid hbd
  have hdl := ha.le
  have hdm := ha.max
  unfold maxLen at hdm
  clear ha hbd
  obtain ⟨N, hN⟩ : ∃ N, N = W.heap.size := ⟨_, rfl⟩
  have HN := Lib.hid hN
  unfold boolTo
  unfold boolTo at HK
  rw [← hN]
  by_cases h1 : n < 1
  · clear hN
    go_enter Try.func7, Try.ntmps7
    go_wp2_with fail
    refine (HK.out _).mono ?_
    rintro e w1 ⟨rfl, hb⟩
    go_wp2_with fail
    go_ret
    exact ⟨rfl, by rw [HN.out]; exact hb⟩
  by_cases h2 : 20 < n
  · have h1' : 1 ≤ n := by omega
    clear hN h1
    go_enter Try.func7, Try.ntmps7
    go_wp2_with fail
    refine (HK.out _).mono ?_
    rintro e w1 ⟨rfl, hb⟩
    go_wp2_with fail
    go_ret
    exact ⟨rfl, by rw [HN.out]; exact hb⟩
  obtain ⟨m, rfl⟩ : ∃ m : Nat, n = (m : Int) := ⟨n.toNat, by omega⟩
  have i0 : 1 ≤ (m : Int) := by omega
  have i2 : (m : Int) ≤ 20 := by omega
  have hm1 : 1 ≤ m := by omega
  have hm2 : m ≤ 20 := by omega
  clear h1 h2
  by_cases h100 : 100 < l.length
  · have i1 : (100 : Int) < (l.length : Int) := by omega
    clear hN h100
    go_enter Try.func7, Try.ntmps7
    go_wp2_with fail
    refine (HK.out _).mono ?_
    rintro e w1 ⟨rfl, hb⟩
    go_wp2_with fail
    go_ret
    exact ⟨rfl, by rw [HN.out]; exact hb⟩
  have i1 : (l.length : Int) ≤ 100 := by omega
  have hl100 : l.length ≤ 100 := by omega
  clear h100
  have HNW := Lib.hid (new_yes m W (by omega) (by omega))
  rw [← hN] at HNW
  clear hN
  have hmm := @run_makeMap Try.prog
  go_enter Try.func7, Try.ntmps7
  go_wp2_with fail
  refine HNW.out.mono ?_
  rintro e w1 ⟨g, rfl, ha, hb⟩
  have HA := Lib.hid ha.tight; have HB1 := Lib.hid hb
  have hz1 : N ≤ w1.heap.size := by rw [HN.out]; exact hb.size
  clear ha hb HNW
  go_upto_region 8 with (fail)
  obtain ⟨b7, hb7⟩ : ∃ b7, b7 = w1.heap.size := ⟨_, rfl⟩
  obtain ⟨w3, hw3⟩ : ∃ w3, w3 = w1.alloc (.map #[] 0) := ⟨_, rfl⟩
  have b3 : Below w1.heap.size w1 w3 := by rw [hw3]; exact bnew _ _
  have HB3 := Lib.hid (HB1.out.trans (b3.mono hz1))
  have hz3 : w1.heap.size ≤ w3.heap.size := b3.size
  have HBO : Hid (Base N w3 (fun j => N ≤ j ∧ j < w1.heap.size) g m 1 ⟨[], [], []⟩ b7 0 (.map [])) :=
    ⟨HA.out.below b3 (Nat.le_refl _), by rw [hw3, hb7]; exact made w1, fun j hj => ⟨hj.1, by omega⟩, by omega, fun hj => by omega⟩
  rw [← hw3, ← hb7]
  clear hw3 hb7 b3
  go_wp2_with fail
  go_loopw [8, 48] (fun v8 i wr => ∃ (k n G : Nat) (F : Nat → Prop) (s : St) (D : DataW Unit), k ≤ l.length ∧ v8 = .int .i64 (cntS s : Int) ∧ i = .int .i64 (k : Int) ∧ Base N wr F g m G s b7 n D ∧ Tracks D s ∧ n ≤ k ∧ 1 ≤ G ∧ G ≤ 1 + k ∧ Below N W wr ∧ N ≤ wr.heap.size) (fun _ i _ => l.length - (intOf i).toNat)
  case atStart => exact ⟨0, 0, 1, _, _, _, Nat.zero_le _, rfl, rfl, HBO.out, tracks_start, Nat.le_refl _, Nat.le_refl _, Nat.le_refl _, HB3.out, by omega⟩
  case round =>
    obtain ⟨k, n, G, F, s, D, hk, rfl, rfl, hbo, htr, hnk, hG1, hGk, hbl, hNr⟩ := hrel
    have BO := Lib.hid hbo; have TR := Lib.hid htr; have BL := Lib.hid hbl
    clear hbo htr hbl
    by_cases hlt : k < l.length
    · have j1 : (k : Int) < (l.length : Int) := by omega
      obtain ⟨f0, f1, f2⟩ := acL_get l k hlt
      have RD := HD.out.rd.below BL.out (by have := HN.out; omega)
      obtain ⟨tb, to_, rfl, ltb, a0⟩ := RD.at_ f0
      obtain ⟨tb', to', e1, _, a1⟩ := RD.at_ f1
      injection e1 with e1; injection e1 with e11 e12; subst e11; subst e12
      obtain ⟨tb', to', e1, _, a2⟩ := RD.at_ f2
      injection e1 with e1; injection e1 with e11 e12; subst e11; subst e12
      rw [← Nat.add_assoc] at a1 a2
      obtain ⟨hin, hig⟩ := HBD.out _ (List.getElem_mem hlt)
      obtain ⟨⟨xa, xn, xg⟩, hx⟩ : ∃ x, x = l[k] := ⟨_, rfl⟩
      rw [← hx] at a0 a1 a2 hin hig
      simp only at a0 a1 a2 hin hig
      have HIN := Lib.hid hin; have HIG := Lib.hid hig
      obtain ⟨v0, hv0⟩ : ∃ v0, v0 = wr.alloc (.cells #[.int .i64 xa, .int .i64 xn, .int .i64 xg] 37) := ⟨_, rfl⟩
      obtain ⟨b10, hb10⟩ : ∃ b10, b10 = wr.heap.size := ⟨_, rfl⟩
      have b0 : Below wr.heap.size wr v0 := by rw [hv0]; exact bnew _ _
      have P10 : Hid (Blk v0 b10 #[.int .i64 xa, .int .i64 xn, .int .i64 xg] 37) := by show Blk _ _ _ _; rw [hv0, hb10]; exact Blk.new _ _ _
      have BO0 := Lib.hid (BO.out.below b0 (Nat.le_refl _))
      have BL0 := Lib.hid (BL.out.trans (b0.mono hNr))
      have lz0 : wr.heap.size < v0.heap.size := by rw [hv0]; simp
      have l10 : b10 < v0.heap.size := P10.out.lt
      have HF10 : Hid (¬ F b10) := fun hf => by have := (BO.out.fl _ hf).2; omega
      have hb710 : b7 ≠ b10 := by have := BO.out.lt; omega
      have hN10 : N ≤ b10 := by omega
      clear f0 f1 f2 RD hx b0 hin hig
      go_upto_region 12 with (fail)
      rw [← hv0, ← hb10]
      clear hv0 hb10 a0 a1 a2
      by_cases q0 : xa = 0
      · subst q0
        rcases take_step TR.out BO0.out.are.inv (by omega) (by omega) with ⟨e1, e2, e3, e4, e5⟩ | ⟨e1, e5, e6, e7, e8, e9, e10, e11⟩
        · have TK := Lib.hid (take_any BO0.out.are hG1)
          unfold takePost at TK
          rw [e1, e2, e3, e4] at TK
          have j2 : (cntS s : Int) = (m : Int) := by omega
          have hI0 : In 0 := in_small (Int.le_refl 0) (by omega)
          have HI0 := Lib.hid hI0
          obtain ⟨hh, hv⟩ := TR.out.at_ 0 0 hI0 hI0
          have HH := Lib.hid hh; have HV := Lib.hid hv
          clear e1 e2 e3 e4 hI0 hh hv
          obtain ⟨L, hL⟩ : ∃ L, L = (cntS s : Int) := ⟨_, rfl⟩
          go_wp2_with fail
          refine (made_any BO0.out.are).mono ?_
          rintro r v1 ⟨rfl, rfl⟩
          go_wp2_with fail
          refine TK.out.mono ?_
          rintro r v1 ⟨rfl, ha, ho⟩
          have BO1 := Lib.hid (BO0.out.took (by omega) ha ho)
          have BL1 := Lib.hid (BL0.out.trans (ho.below (B := N) (fun j hf => (BO0.out.fl j hf).1) (by omega)))
          have hN1 : N ≤ v1.heap.size := Nat.le_trans (by omega) ho.size
          clear ha ho TK
          go_upto_region 15 with (fail)
          obtain ⟨b12, hb12⟩ : ∃ b12, b12 = v1.heap.size := ⟨_, rfl⟩
          obtain ⟨v2, hv2⟩ : ∃ v2, v2 = v1.alloc (.cells #[.int .i64 0, .int .i64 0] 35) := ⟨_, rfl⟩
          have b2 : Below v1.heap.size v1 v2 := by rw [hv2]; exact bnew _ _
          have P12 : Hid (Blk v2 b12 #[.int .i64 0, .int .i64 0] 35) := by show Blk _ _ _ _; rw [hv2, hb12]; exact Blk.new _ _ _
          have BO2 := Lib.hid (BO1.out.below b2 (Nat.le_refl _))
          have BL2 := Lib.hid (BL1.out.trans (b2.mono hN1))
          have hN2 : N ≤ v2.heap.size := Nat.le_trans hN1 b2.size
          have l12 : b12 < v2.heap.size := P12.out.lt
          rw [← hv2, ← hb12]
          clear hv2 hb12 b2
          obtain ⟨y0, y1, _⟩ := P12.out.two
          have j3 : ¬ (m : Int) < (m : Int) := by omega
          have j4 : ¬ (s.gens.length : Int) < (s.gens.length : Int) := by omega
          go_wp2_with (at_lookup; refine at_ok _ rfl _ _ rfl b7 n D rfl BO2.out.own 0 0 HI0.out HI0.out rfl _ _ HV.out HH.out ?_)
          refine (made_any BO2.out.are).mono ?_
          rintro r v3 ⟨rfl, rfl⟩
          have HCM : Hid (((s.gens.length - s.fr.length : Nat) : Int) = (m : Int)) := by show _ = _; have := e5; unfold cntS at this; omega
          have TT := TR; have HCC := HCM; have BT := BO2
          have hrN := hN2
          go_wp2_with (at_range; refine at_rng _ rfl _ rfl b7 (n) D rfl BT.out.own ?_; intro w0 hr0 hb0 hs0)
          try go_frame
          have BR := Lib.hid (BT.out.below hb0 (Nat.le_refl _))
          have BLR := Lib.hid (BL2.out.trans (hb0.mono hrN))
          obtain ⟨r, hr⟩ : ∃ r, r = v2.heap.size := ⟨_, rfl⟩
          rw [← hr] at hr0
          rw [← hr]
          have hNr0 : N ≤ w0.heap.size := by omega
          have hrF : Hid (∀ j, j = r → ¬ _) := fun j e hf => by have := (BT.out.fl j hf).2; omega
          have hr7 : b7 ≠ r := by have := BT.out.lt; omega
          have hNrr : N ≤ r := by omega
          have HAT : Hid (∀ i j : Int, In i → In j → DataW.atKey D (kl i j) (.lit (.bool false)) = .lit (.bool (hasB s i j))) := fun i j hi hj => (TT.out.at_ i j hi hj).2
          have HR0 := Lib.hid hr0
          clear hr hr0 hb0 hs0
          go_loopw [21] (fun _ wr => ∃ cnt, Rng wr b7 r (n) D cnt ∧ Base N wr _ g m G s b7 (n) D ∧ Below N W wr ∧ N ≤ wr.heap.size) (fun _ wr => wr.rangeLeft b7 r)
          case atStart => exact ⟨_, HR0.out, BR.out, BLR.out, hNr0⟩
          case round =>
            obtain ⟨cnt, hrg, hbo, hbl, hNx⟩ := hrel
            have RG := Lib.hid hrg; have BX := Lib.hid hbo; have BLX := Lib.hid hbl
            clear hrg hbo hbl
            go_wp2_with (at_next; refine at_all _ rfl _ rfl b7 r (n) D cnt (fun i j => hasB s i j) HAT.out rfl RG.out ?_ ?_)
            · go_wp2_with fail
              refine (klen BX.out.are (m : Int) HCC.out).mono ?_
              rintro e w5 ⟨rfl, hb⟩
              have BX5 := Lib.hid (BX.out.below hb (Nat.le_refl _))
              have BLX5 := Lib.hid (BLX.out.trans (hb.mono hNx))
              have hN5 : N ≤ w5.heap.size := Nat.le_trans hNx hb.size
              clear hb
              go_wp2_with fail
              go_roundw
              case rel => exact ⟨k + 1, n, G, _, s, D, by omega, by rw [e5], by go_num, BX5.out, TT.out, by omega, by omega, by omega, BLX5.out, hN5⟩
              case measure => simp [intOf]; omega
            · intro i j w2 cnt2 hrg2 hlt2 ho2 hen
              have B2 := Lib.hid (BX.out.only ho2 hrF.out hr7)
              have R2 := Lib.hid hrg2
              have L2 := Lib.hid (BLX.out.trans (ho2.below (B := N) (fun j e => by omega) hNx))
              have hN2' : N ≤ w2.heap.size := Nat.le_trans hNx ho2.size
              clear ho2 hrg2
              go_upto_region 36 with (fail)
              obtain ⟨b20, hb20⟩ : ∃ b20, b20 = w2.heap.size := ⟨_, rfl⟩
              obtain ⟨w4, hw4⟩ : ∃ w4, w4 = w2.alloc (.cells #[.int .i64 i, .int .i64 j] 35) := ⟨_, rfl⟩
              have b4 : Below w2.heap.size w2 w4 := by rw [hw4]; exact bnew _ _
              have P20 : Hid (Blk w4 b20 #[.int .i64 i, .int .i64 j] 35) := by show Blk _ _ _ _; rw [hw4, hb20]; exact Blk.new _ _ _
              have B4 := Lib.hid (B2.out.below b4 (Nat.le_refl _))
              have R4 := Lib.hid (R2.out.kept (F := fun _ => False) (Only.of_below b4 (Nat.le_refl _) _) (fun hf => hf) (fun hf => hf))
              have L4 := Lib.hid (L2.out.trans (b4.mono hN2'))
              have hN4 : N ≤ w4.heap.size := Nat.le_trans hN2' b4.size
              have l20 : b20 < w4.heap.size := P20.out.lt
              rw [← hw4, ← hb20]
              clear hw4 hb20 b4 hen
              obtain ⟨z0, z1, _⟩ := P20.out.two
              have hself : ∀ b : Bool, (b != b) = false := fun b => by cases b <;> rfl
              go_wp2_with fail
              refine (khas B4.out.are i j _ rfl).mono ?_
              rintro e w5 ⟨rfl, hb⟩
              have B5 := Lib.hid (B4.out.below hb (Nat.le_refl _))
              have R5 := Lib.hid (R4.out.kept (F := fun _ => False) (Only.of_below hb (Nat.le_refl _) _) (fun hf => hf) (fun hf => hf))
              have L5 := Lib.hid (L4.out.trans (hb.mono hN4))
              have hN5 : N ≤ w5.heap.size := Nat.le_trans hN4 hb.size
              clear hb z0 z1
              go_wp2_with fail
              go_roundw
              case rel => exact ⟨cnt2, R5.out, B5.out, L5.out, hN5⟩
              case measure => rw [R5.out.left, RG.out.left]; exact hlt2
        · by_cases hle : (tkS m s).gens.length ≤ s.gens.length
          · have TK := Lib.hid (take_any BO0.out.are hG1)
            unfold takePost at TK
            rw [e1] at TK
            obtain ⟨_, hv⟩ := TR.out.at_ _ _ e8 e9
            obtain ⟨xN, hxN⟩ : ∃ x, x = tkN m s := ⟨_, rfl⟩
            obtain ⟨xG, hxG⟩ : ∃ x, x = tkG m s := ⟨_, rfl⟩
            obtain ⟨s1, hs1⟩ : ∃ x, x = tkS m s := ⟨_, rfl⟩
            rw [← hxN, ← hxG, ← hs1] at TK
            rw [← hxN, ← hxG] at e10 e11 hv
            rw [← hxN] at e8
            rw [← hxG] at e9
            rw [← hs1] at e11 e6 e7 hle
            obtain ⟨D1, hD1⟩ : ∃ x, x = D.put (kl xN xG) (.lit (.bool true)) := ⟨_, rfl⟩
            rw [← hD1] at e11
            have HI1 := Lib.hid e8; have HI2 := Lib.hid e9; have HH := Lib.hid e10; have HV := Lib.hid hv; have TR1 := Lib.hid e11; have HE6 := Lib.hid e6; have HD1 := Lib.hid hD1
            have j2 : (cntS s : Int) < (m : Int) := by omega
            clear e1 e8 e9 e10 e11 hv hxN hxG hs1 hD1 e6
            go_wp2_with fail
            refine (made_any BO0.out.are).mono ?_
            rintro r v1 ⟨rfl, rfl⟩
            go_wp2_with fail
            refine TK.out.mono ?_
            rintro r v1 ⟨rfl, ha, ho⟩
            have BO1 := Lib.hid (BO0.out.took (by omega) ha ho)
            have BL1 := Lib.hid (BL0.out.trans (ho.below (B := N) (fun j hf => (BO0.out.fl j hf).1) (by omega)))
            have hN1 : N ≤ v1.heap.size := Nat.le_trans (by omega) ho.size
            clear ha ho TK
            go_upto_region 15 with (fail)
            obtain ⟨b12, hb12⟩ : ∃ b12, b12 = v1.heap.size := ⟨_, rfl⟩
            obtain ⟨v2, hv2⟩ : ∃ v2, v2 = v1.alloc (.cells #[.int .i64 xN, .int .i64 xG] 35) := ⟨_, rfl⟩
            have b2 : Below v1.heap.size v1 v2 := by rw [hv2]; exact bnew _ _
            have P12 : Hid (Blk v2 b12 #[.int .i64 xN, .int .i64 xG] 35) := by show Blk _ _ _ _; rw [hv2, hb12]; exact Blk.new _ _ _
            have BO2 := Lib.hid (BO1.out.below b2 (Nat.le_refl _))
            have BL2 := Lib.hid (BL1.out.trans (b2.mono hN1))
            have hN2 : N ≤ v2.heap.size := Nat.le_trans hN1 b2.size
            have l12 : b12 < v2.heap.size := P12.out.lt
            rw [← hv2, ← hb12]
            clear hv2 hb12 b2
            obtain ⟨y0, y1, _⟩ := P12.out.two
            have j3 : (s1.gens.length : Int) ≤ (s.gens.length : Int) := by omega
            clear e7 hle
            go_wp2_with (at_lookup; refine at_ok _ rfl _ _ rfl b7 n D rfl BO2.out.own xN xG HI1.out HI2.out rfl _ _ HV.out HH.out ?_)
            refine (made_any BO2.out.are).mono ?_
            rintro r v3 ⟨rfl, rfl⟩
            go_upto_region 33 with (at_mapUpdate; refine at_store _ rfl _ _ _ rfl b7 n D rfl BO2.out.own (by omega) xN xG HI1.out HI2.out rfl true rfl ?_; intro v3 hw3 ho3)
            rw [← HD1.out] at hw3
            have BO3 := Lib.hid (BO2.out.store hw3 ho3)
            have BL3 := Lib.hid (BL2.out.trans (ho3.below (B := N) (fun j e => by have := BO2.out.bN; omega) hN2))
            have hN3 : N ≤ v3.heap.size := Nat.le_trans hN2 ho3.size
            have HCM : Hid (((s1.gens.length - s1.fr.length : Nat) : Int) = (cntS s : Int) + 1) := by show _ = _; have := HE6.out; unfold cntS at this ⊢; omega
            clear hw3 ho3 y0 y1
            have TT := TR1; have HCC := HCM; have BT := BO3
            have hrN := hN3
            go_wp2_with (at_range; refine at_rng _ rfl _ rfl b7 (n + 1) D1 rfl BT.out.own ?_; intro w0 hr0 hb0 hs0)
            try go_frame
            have BR := Lib.hid (BT.out.below hb0 (Nat.le_refl _))
            have BLR := Lib.hid (BL3.out.trans (hb0.mono hrN))
            obtain ⟨r, hr⟩ : ∃ r, r = v3.heap.size := ⟨_, rfl⟩
            rw [← hr] at hr0
            rw [← hr]
            have hNr0 : N ≤ w0.heap.size := by omega
            have hrF : Hid (∀ j, j = r → ¬ _) := fun j e hf => by have := (BT.out.fl j hf).2; omega
            have hr7 : b7 ≠ r := by have := BT.out.lt; omega
            have hNrr : N ≤ r := by omega
            have HAT : Hid (∀ i j : Int, In i → In j → DataW.atKey D1 (kl i j) (.lit (.bool false)) = .lit (.bool (hasB s1 i j))) := fun i j hi hj => (TT.out.at_ i j hi hj).2
            have HR0 := Lib.hid hr0
            clear hr hr0 hb0 hs0
            go_loopw [21] (fun _ wr => ∃ cnt, Rng wr b7 r (n + 1) D1 cnt ∧ Base N wr _ g m G s1 b7 (n + 1) D1 ∧ Below N W wr ∧ N ≤ wr.heap.size) (fun _ wr => wr.rangeLeft b7 r)
            case atStart => exact ⟨_, HR0.out, BR.out, BLR.out, hNr0⟩
            case round =>
              obtain ⟨cnt, hrg, hbo, hbl, hNx⟩ := hrel
              have RG := Lib.hid hrg; have BX := Lib.hid hbo; have BLX := Lib.hid hbl
              clear hrg hbo hbl
              go_wp2_with (at_next; refine at_all _ rfl _ rfl b7 r (n + 1) D1 cnt (fun i j => hasB s1 i j) HAT.out rfl RG.out ?_ ?_)
              · go_wp2_with fail
                refine (klen BX.out.are ((cntS s : Int) + 1) HCC.out).mono ?_
                rintro e w5 ⟨rfl, hb⟩
                have BX5 := Lib.hid (BX.out.below hb (Nat.le_refl _))
                have BLX5 := Lib.hid (BLX.out.trans (hb.mono hNx))
                have hN5 : N ≤ w5.heap.size := Nat.le_trans hNx hb.size
                clear hb
                go_wp2_with fail
                go_roundw
                case rel => exact ⟨k + 1, n + 1, G, _, s1, D1, by omega, by rw [show (cntS s1 : Int) = (cntS s : Int) + 1 from by have := HE6.out; omega], by go_num, BX5.out, TT.out, by omega, by omega, by omega, BLX5.out, hN5⟩
                case measure => simp [intOf]; omega
              · intro i j w2 cnt2 hrg2 hlt2 ho2 hen
                have B2 := Lib.hid (BX.out.only ho2 hrF.out hr7)
                have R2 := Lib.hid hrg2
                have L2 := Lib.hid (BLX.out.trans (ho2.below (B := N) (fun j e => by omega) hNx))
                have hN2' : N ≤ w2.heap.size := Nat.le_trans hNx ho2.size
                clear ho2 hrg2
                go_upto_region 36 with (fail)
                obtain ⟨b20, hb20⟩ : ∃ b20, b20 = w2.heap.size := ⟨_, rfl⟩
                obtain ⟨w4, hw4⟩ : ∃ w4, w4 = w2.alloc (.cells #[.int .i64 i, .int .i64 j] 35) := ⟨_, rfl⟩
                have b4 : Below w2.heap.size w2 w4 := by rw [hw4]; exact bnew _ _
                have P20 : Hid (Blk w4 b20 #[.int .i64 i, .int .i64 j] 35) := by show Blk _ _ _ _; rw [hw4, hb20]; exact Blk.new _ _ _
                have B4 := Lib.hid (B2.out.below b4 (Nat.le_refl _))
                have R4 := Lib.hid (R2.out.kept (F := fun _ => False) (Only.of_below b4 (Nat.le_refl _) _) (fun hf => hf) (fun hf => hf))
                have L4 := Lib.hid (L2.out.trans (b4.mono hN2'))
                have hN4 : N ≤ w4.heap.size := Nat.le_trans hN2' b4.size
                have l20 : b20 < w4.heap.size := P20.out.lt
                rw [← hw4, ← hb20]
                clear hw4 hb20 b4 hen
                obtain ⟨z0, z1, _⟩ := P20.out.two
                have hself : ∀ b : Bool, (b != b) = false := fun b => by cases b <;> rfl
                go_wp2_with fail
                refine (khas B4.out.are i j _ rfl).mono ?_
                rintro e w5 ⟨rfl, hb⟩
                have B5 := Lib.hid (B4.out.below hb (Nat.le_refl _))
                have R5 := Lib.hid (R4.out.kept (F := fun _ => False) (Only.of_below hb (Nat.le_refl _) _) (fun hf => hf) (fun hf => hf))
                have L5 := Lib.hid (L4.out.trans (hb.mono hN4))
                have hN5 : N ≤ w5.heap.size := Nat.le_trans hN4 hb.size
                clear hb z0 z1
                go_wp2_with fail
                go_roundw
                case rel => exact ⟨cnt2, R5.out, B5.out, L5.out, hN5⟩
                case measure => rw [R5.out.left, RG.out.left]; exact hlt2
          · have TK := Lib.hid (take_any BO0.out.are hG1)
            unfold takePost at TK
            rw [e1] at TK
            obtain ⟨_, hv⟩ := TR.out.at_ _ _ e8 e9
            obtain ⟨xN, hxN⟩ : ∃ x, x = tkN m s := ⟨_, rfl⟩
            obtain ⟨xG, hxG⟩ : ∃ x, x = tkG m s := ⟨_, rfl⟩
            obtain ⟨s1, hs1⟩ : ∃ x, x = tkS m s := ⟨_, rfl⟩
            rw [← hxN, ← hxG, ← hs1] at TK
            rw [← hxN, ← hxG] at e10 e11 hv
            rw [← hxN] at e8
            rw [← hxG] at e9
            rw [← hs1] at e11 e6 e7 hle
            obtain ⟨D1, hD1⟩ : ∃ x, x = D.put (kl xN xG) (.lit (.bool true)) := ⟨_, rfl⟩
            rw [← hD1] at e11
            have HI1 := Lib.hid e8; have HI2 := Lib.hid e9; have HH := Lib.hid e10; have HV := Lib.hid hv; have TR1 := Lib.hid e11; have HE6 := Lib.hid e6; have HD1 := Lib.hid hD1
            have j2 : (cntS s : Int) < (m : Int) := by omega
            clear e1 e8 e9 e10 e11 hv hxN hxG hs1 hD1 e6
            go_wp2_with fail
            refine (made_any BO0.out.are).mono ?_
            rintro r v1 ⟨rfl, rfl⟩
            go_wp2_with fail
            refine TK.out.mono ?_
            rintro r v1 ⟨rfl, ha, ho⟩
            have BO1 := Lib.hid (BO0.out.took (by omega) ha ho)
            have BL1 := Lib.hid (BL0.out.trans (ho.below (B := N) (fun j hf => (BO0.out.fl j hf).1) (by omega)))
            have hN1 : N ≤ v1.heap.size := Nat.le_trans (by omega) ho.size
            clear ha ho TK
            go_upto_region 15 with (fail)
            obtain ⟨b12, hb12⟩ : ∃ b12, b12 = v1.heap.size := ⟨_, rfl⟩
            obtain ⟨v2, hv2⟩ : ∃ v2, v2 = v1.alloc (.cells #[.int .i64 xN, .int .i64 xG] 35) := ⟨_, rfl⟩
            have b2 : Below v1.heap.size v1 v2 := by rw [hv2]; exact bnew _ _
            have P12 : Hid (Blk v2 b12 #[.int .i64 xN, .int .i64 xG] 35) := by show Blk _ _ _ _; rw [hv2, hb12]; exact Blk.new _ _ _
            have BO2 := Lib.hid (BO1.out.below b2 (Nat.le_refl _))
            have BL2 := Lib.hid (BL1.out.trans (b2.mono hN1))
            have hN2 : N ≤ v2.heap.size := Nat.le_trans hN1 b2.size
            have l12 : b12 < v2.heap.size := P12.out.lt
            rw [← hv2, ← hb12]
            clear hv2 hb12 b2
            obtain ⟨y0, y1, _⟩ := P12.out.two
            have j3 : (s.gens.length : Int) < (s1.gens.length : Int) := by omega
            have j4 : (cntS s : Int) = (s.gens.length : Int) := by omega
            clear e7 hle
            go_wp2_with (at_lookup; refine at_ok _ rfl _ _ rfl b7 n D rfl BO2.out.own xN xG HI1.out HI2.out rfl _ _ HV.out HH.out ?_)
            refine (made_any BO2.out.are).mono ?_
            rintro r v3 ⟨rfl, rfl⟩
            go_upto_region 33 with (at_mapUpdate; refine at_store _ rfl _ _ _ rfl b7 n D rfl BO2.out.own (by omega) xN xG HI1.out HI2.out rfl true rfl ?_; intro v3 hw3 ho3)
            rw [← HD1.out] at hw3
            have BO3 := Lib.hid (BO2.out.store hw3 ho3)
            have BL3 := Lib.hid (BL2.out.trans (ho3.below (B := N) (fun j e => by have := BO2.out.bN; omega) hN2))
            have hN3 : N ≤ v3.heap.size := Nat.le_trans hN2 ho3.size
            have HCM : Hid (((s1.gens.length - s1.fr.length : Nat) : Int) = (cntS s : Int) + 1) := by show _ = _; have := HE6.out; unfold cntS at this ⊢; omega
            clear hw3 ho3 y0 y1
            have TT := TR1; have HCC := HCM; have BT := BO3
            have hrN := hN3
            go_wp2_with (at_range; refine at_rng _ rfl _ rfl b7 (n + 1) D1 rfl BT.out.own ?_; intro w0 hr0 hb0 hs0)
            try go_frame
            have BR := Lib.hid (BT.out.below hb0 (Nat.le_refl _))
            have BLR := Lib.hid (BL3.out.trans (hb0.mono hrN))
            obtain ⟨r, hr⟩ : ∃ r, r = v3.heap.size := ⟨_, rfl⟩
            rw [← hr] at hr0
            rw [← hr]
            have hNr0 : N ≤ w0.heap.size := by omega
            have hrF : Hid (∀ j, j = r → ¬ _) := fun j e hf => by have := (BT.out.fl j hf).2; omega
            have hr7 : b7 ≠ r := by have := BT.out.lt; omega
            have hNrr : N ≤ r := by omega
            have HAT : Hid (∀ i j : Int, In i → In j → DataW.atKey D1 (kl i j) (.lit (.bool false)) = .lit (.bool (hasB s1 i j))) := fun i j hi hj => (TT.out.at_ i j hi hj).2
            have HR0 := Lib.hid hr0
            clear hr hr0 hb0 hs0
            go_loopw [21] (fun _ wr => ∃ cnt, Rng wr b7 r (n + 1) D1 cnt ∧ Base N wr _ g m G s1 b7 (n + 1) D1 ∧ Below N W wr ∧ N ≤ wr.heap.size) (fun _ wr => wr.rangeLeft b7 r)
            case atStart => exact ⟨_, HR0.out, BR.out, BLR.out, hNr0⟩
            case round =>
              obtain ⟨cnt, hrg, hbo, hbl, hNx⟩ := hrel
              have RG := Lib.hid hrg; have BX := Lib.hid hbo; have BLX := Lib.hid hbl
              clear hrg hbo hbl
              go_wp2_with (at_next; refine at_all _ rfl _ rfl b7 r (n + 1) D1 cnt (fun i j => hasB s1 i j) HAT.out rfl RG.out ?_ ?_)
              · go_wp2_with fail
                refine (klen BX.out.are ((cntS s : Int) + 1) HCC.out).mono ?_
                rintro e w5 ⟨rfl, hb⟩
                have BX5 := Lib.hid (BX.out.below hb (Nat.le_refl _))
                have BLX5 := Lib.hid (BLX.out.trans (hb.mono hNx))
                have hN5 : N ≤ w5.heap.size := Nat.le_trans hNx hb.size
                clear hb
                go_wp2_with fail
                go_roundw
                case rel => exact ⟨k + 1, n + 1, G, _, s1, D1, by omega, by rw [show (cntS s1 : Int) = (s.gens.length : Int) + 1 from by have := HE6.out; omega], by go_num, BX5.out, TT.out, by omega, by omega, by omega, BLX5.out, hN5⟩
                case measure => simp [intOf]; omega
              · intro i j w2 cnt2 hrg2 hlt2 ho2 hen
                have B2 := Lib.hid (BX.out.only ho2 hrF.out hr7)
                have R2 := Lib.hid hrg2
                have L2 := Lib.hid (BLX.out.trans (ho2.below (B := N) (fun j e => by omega) hNx))
                have hN2' : N ≤ w2.heap.size := Nat.le_trans hNx ho2.size
                clear ho2 hrg2
                go_upto_region 36 with (fail)
                obtain ⟨b20, hb20⟩ : ∃ b20, b20 = w2.heap.size := ⟨_, rfl⟩
                obtain ⟨w4, hw4⟩ : ∃ w4, w4 = w2.alloc (.cells #[.int .i64 i, .int .i64 j] 35) := ⟨_, rfl⟩
                have b4 : Below w2.heap.size w2 w4 := by rw [hw4]; exact bnew _ _
                have P20 : Hid (Blk w4 b20 #[.int .i64 i, .int .i64 j] 35) := by show Blk _ _ _ _; rw [hw4, hb20]; exact Blk.new _ _ _
                have B4 := Lib.hid (B2.out.below b4 (Nat.le_refl _))
                have R4 := Lib.hid (R2.out.kept (F := fun _ => False) (Only.of_below b4 (Nat.le_refl _) _) (fun hf => hf) (fun hf => hf))
                have L4 := Lib.hid (L2.out.trans (b4.mono hN2'))
                have hN4 : N ≤ w4.heap.size := Nat.le_trans hN2' b4.size
                have l20 : b20 < w4.heap.size := P20.out.lt
                rw [← hw4, ← hb20]
                clear hw4 hb20 b4 hen
                obtain ⟨z0, z1, _⟩ := P20.out.two
                have hself : ∀ b : Bool, (b != b) = false := fun b => by cases b <;> rfl
                go_wp2_with fail
                refine (khas B4.out.are i j _ rfl).mono ?_
                rintro e w5 ⟨rfl, hb⟩
                have B5 := Lib.hid (B4.out.below hb (Nat.le_refl _))
                have R5 := Lib.hid (R4.out.kept (F := fun _ => False) (Only.of_below hb (Nat.le_refl _) _) (fun hf => hf) (fun hf => hf))
                have L5 := Lib.hid (L4.out.trans (hb.mono hN4))
                have hN5 : N ≤ w5.heap.size := Nat.le_trans hN4 hb.size
                clear hb z0 z1
                go_wp2_with fail
                go_roundw
                case rel => exact ⟨cnt2, R5.out, B5.out, L5.out, hN5⟩
                case measure => rw [R5.out.left, RG.out.left]; exact hlt2
      · by_cases q1 : xa = 1
        · subst q1
          cases hb : hasB s xn xg
          · obtain ⟨yN, q1⟩ : ∃ x, aN s xn = x := ⟨_, rfl⟩
            obtain ⟨yG, q2⟩ : ∃ x, aG s xn = x := ⟨_, rfl⟩
            obtain ⟨yE, q3⟩ : ∃ x, aE s xn = x := ⟨_, rfl⟩
            have HRG := HIG
            have hv := (TR.out.at_ xn xg HIN.out HRG.out).2
            rw [hb] at hv
            have HV := Lib.hid hv
            obtain ⟨f1, f2⟩ := fr_no hb
            have HF1 := Lib.hid f1; have HF2 := Lib.hid f2
            clear f1 f2 hv
            have HB := Lib.hid hb; have HQ1 := Lib.hid q1; have HQ2 := Lib.hid q2; have HQ3 := Lib.hid q3
            clear hb q1 q2 q3
            obtain ⟨y0, y1, y2, _⟩ := P10.out.three
            go_upto_region 24 with (fail)
            obtain ⟨b16, hb16⟩ : ∃ b16, b16 = v0.heap.size := ⟨_, rfl⟩
            obtain ⟨v1, hv1⟩ : ∃ v1, v1 = v0.alloc (.cells #[.int .i64 xn, .int .i64 xg] 35) := ⟨_, rfl⟩
            have b1 : Below v0.heap.size v0 v1 := by rw [hv1]; exact bnew _ _
            have P16 : Hid (Blk v1 b16 #[.int .i64 xn, .int .i64 xg] 35) := by show Blk _ _ _ _; rw [hv1, hb16]; exact Blk.new _ _ _
            have BO1 := Lib.hid (BO0.out.below b1 (Nat.le_refl _))
            have BL1 := Lib.hid (BL0.out.trans (b1.mono (by omega)))
            have Q10 := Lib.hid (P10.out.below b1 P10.out.lt)
            have hN1 : N ≤ v1.heap.size := Nat.le_trans (by omega) b1.size
            have l16 : b16 < v1.heap.size := P16.out.lt
            have hF16 : Hid (∀ j, j = b16 → ¬ F j) := fun j e hf => by have := (BO0.out.fl j hf).2; omega
            have h716 : b7 ≠ b16 := by have := BO0.out.lt; omega
            have hN16 : N ≤ b16 := by omega
            have AT := Lib.hid (at_any BO1.out.are xn)
            unfold atPost at AT
            rw [HQ1.out, HQ2.out, HQ3.out] at AT
            rw [← hv1, ← hb16]
            clear hv1 hb16 b1 y0 y1 y2
            obtain ⟨z0, z1, _⟩ := P16.out.two
            go_wp2_with fail
            refine AT.out.mono ?_
            rintro e v2 ⟨rfl, hb⟩
            have BO2 := Lib.hid (BO1.out.below hb (Nat.le_refl _))
            have BL2 := Lib.hid (BL1.out.trans (hb.mono hN1))
            have Q10' := Lib.hid (Q10.out.below hb Q10.out.lt); have Q16 := Lib.hid (P16.out.below hb P16.out.lt)
            have hN2 : N ≤ v2.heap.size := Nat.le_trans hN1 hb.size
            have hz2 : v1.heap.size ≤ v2.heap.size := hb.size
            clear hb z0 z1 AT
            go_upto_region 25 with (fail)
            obtain ⟨b17, hb17⟩ : ∃ b17, b17 = v2.heap.size := ⟨_, rfl⟩
            obtain ⟨v3, hv3⟩ : ∃ v3, v3 = v2.alloc (.cells #[.int .i64 yN, .int .i64 yG] 35) := ⟨_, rfl⟩
            have b3 : Below v2.heap.size v2 v3 := by rw [hv3]; exact bnew _ _
            have P17 : Hid (Blk v3 b17 #[.int .i64 yN, .int .i64 yG] 35) := by show Blk _ _ _ _; rw [hv3, hb17]; exact Blk.new _ _ _
            have BO3 := Lib.hid (BO2.out.below b3 (Nat.le_refl _))
            have BL3 := Lib.hid (BL2.out.trans (b3.mono hN2))
            have S10 := Lib.hid (Q10'.out.below b3 Q10'.out.lt); have S16 := Lib.hid (Q16.out.below b3 Q16.out.lt)
            have hN3 : N ≤ v3.heap.size := Nat.le_trans hN2 b3.size
            have hz3 : v2.heap.size ≤ v3.heap.size := b3.size
            have l16' : b16 < v3.heap.size := S16.out.lt
            have l10' : b10 < v3.heap.size := S10.out.lt
            have l17 : b17 < v3.heap.size := P17.out.lt
            rw [← hv3, ← hb17]
            clear hv3 hb17 b3
            obtain ⟨y0, y1, y2, _⟩ := S10.out.three
            obtain ⟨z0, z1, _⟩ := S16.out.two
            have FR := Lib.hid (free_any BO3.out.are (by omega) xn xg)
            unfold freePost at FR
            rw [HF2.out, HF1.out] at FR
            go_wp2_with (at_lookup; refine at_no _ rfl _ _ rfl b7 n D rfl BO3.out.own xn xg HIN.out HRG.out rfl _ HV.out ?_)
            refine FR.out.mono ?_
            rintro e v5 ⟨rfl, ha, ho⟩
            have BO5 := Lib.hid (BO3.out.took hN3 ha ho)
            have BL5 := Lib.hid (BL3.out.trans (ho.below (B := N) (fun j hf => (BO3.out.fl j hf).1) hN3))
            have hN5 : N ≤ v5.heap.size := Nat.le_trans hN3 ho.size
            have U16 := Lib.hid (S16.out.only ho (hF16.out b16 rfl))
            have lu16 : b16 < v5.heap.size := U16.out.lt
            clear ha ho FR z0 z1 y0 y1 y2
            go_upto_region 33 with (fail)
            have HCM : Hid (((s.gens.length - s.fr.length : Nat) : Int) = (cntS s : Int)) := rfl
            have TT := TR; have HCC := HCM; have BT := BO5
            have hrN := hN5
            go_wp2_with (at_range; refine at_rng _ rfl _ rfl b7 (n) D rfl BT.out.own ?_; intro w0 hr0 hb0 hs0)
            try go_frame
            have BR := Lib.hid (BT.out.below hb0 (Nat.le_refl _))
            have BLR := Lib.hid (BL5.out.trans (hb0.mono hrN))
            obtain ⟨r, hr⟩ : ∃ r, r = v5.heap.size := ⟨_, rfl⟩
            rw [← hr] at hr0
            rw [← hr]
            have hNr0 : N ≤ w0.heap.size := by omega
            have hrF : Hid (∀ j, j = r → ¬ _) := fun j e hf => by have := (BT.out.fl j hf).2; omega
            have hr7 : b7 ≠ r := by have := BT.out.lt; omega
            have hNrr : N ≤ r := by omega
            have HAT : Hid (∀ i j : Int, In i → In j → DataW.atKey D (kl i j) (.lit (.bool false)) = .lit (.bool (hasB s i j))) := fun i j hi hj => (TT.out.at_ i j hi hj).2
            have HR0 := Lib.hid hr0
            clear hr hr0 hb0 hs0
            go_loopw [21] (fun _ wr => ∃ cnt, Rng wr b7 r (n) D cnt ∧ Base N wr _ g m (G + 1) s b7 (n) D ∧ Below N W wr ∧ N ≤ wr.heap.size) (fun _ wr => wr.rangeLeft b7 r)
            case atStart => exact ⟨_, HR0.out, BR.out, BLR.out, hNr0⟩
            case round =>
              obtain ⟨cnt, hrg, hbo, hbl, hNx⟩ := hrel
              have RG := Lib.hid hrg; have BX := Lib.hid hbo; have BLX := Lib.hid hbl
              clear hrg hbo hbl
              go_wp2_with (at_next; refine at_all _ rfl _ rfl b7 r (n) D cnt (fun i j => hasB s i j) HAT.out rfl RG.out ?_ ?_)
              · go_wp2_with fail
                refine (klen BX.out.are (cntS s : Int) HCC.out).mono ?_
                rintro e w5 ⟨rfl, hb⟩
                have BX5 := Lib.hid (BX.out.below hb (Nat.le_refl _))
                have BLX5 := Lib.hid (BLX.out.trans (hb.mono hNx))
                have hN5 : N ≤ w5.heap.size := Nat.le_trans hNx hb.size
                clear hb
                go_wp2_with fail
                go_roundw
                case rel => exact ⟨k + 1, n, (G + 1), _, s, D, by omega, rfl, by go_num, BX5.out, TT.out, by omega, by omega, by omega, BLX5.out, hN5⟩
                case measure => simp [intOf]; omega
              · intro i j w2 cnt2 hrg2 hlt2 ho2 hen
                have B2 := Lib.hid (BX.out.only ho2 hrF.out hr7)
                have R2 := Lib.hid hrg2
                have L2 := Lib.hid (BLX.out.trans (ho2.below (B := N) (fun j e => by omega) hNx))
                have hN2' : N ≤ w2.heap.size := Nat.le_trans hNx ho2.size
                clear ho2 hrg2
                go_upto_region 36 with (fail)
                obtain ⟨b20, hb20⟩ : ∃ b20, b20 = w2.heap.size := ⟨_, rfl⟩
                obtain ⟨w4, hw4⟩ : ∃ w4, w4 = w2.alloc (.cells #[.int .i64 i, .int .i64 j] 35) := ⟨_, rfl⟩
                have b4 : Below w2.heap.size w2 w4 := by rw [hw4]; exact bnew _ _
                have P20 : Hid (Blk w4 b20 #[.int .i64 i, .int .i64 j] 35) := by show Blk _ _ _ _; rw [hw4, hb20]; exact Blk.new _ _ _
                have B4 := Lib.hid (B2.out.below b4 (Nat.le_refl _))
                have R4 := Lib.hid (R2.out.kept (F := fun _ => False) (Only.of_below b4 (Nat.le_refl _) _) (fun hf => hf) (fun hf => hf))
                have L4 := Lib.hid (L2.out.trans (b4.mono hN2'))
                have hN4 : N ≤ w4.heap.size := Nat.le_trans hN2' b4.size
                have l20 : b20 < w4.heap.size := P20.out.lt
                rw [← hw4, ← hb20]
                clear hw4 hb20 b4 hen
                obtain ⟨z0, z1, _⟩ := P20.out.two
                have hself : ∀ b : Bool, (b != b) = false := fun b => by cases b <;> rfl
                go_wp2_with fail
                refine (khas B4.out.are i j _ rfl).mono ?_
                rintro e w5 ⟨rfl, hb⟩
                have B5 := Lib.hid (B4.out.below hb (Nat.le_refl _))
                have R5 := Lib.hid (R4.out.kept (F := fun _ => False) (Only.of_below hb (Nat.le_refl _) _) (fun hf => hf) (fun hf => hf))
                have L5 := Lib.hid (L4.out.trans (hb.mono hN4))
                have hN5 : N ≤ w5.heap.size := Nat.le_trans hN4 hb.size
                clear hb z0 z1
                go_wp2_with fail
                go_roundw
                case rel => exact ⟨cnt2, R5.out, B5.out, L5.out, hN5⟩
                case measure => rw [R5.out.left, RG.out.left]; exact hlt2
          · obtain ⟨yN, q1⟩ : ∃ x, aN s xn = x := ⟨_, rfl⟩
            obtain ⟨yG, q2⟩ : ∃ x, aG s xn = x := ⟨_, rfl⟩
            obtain ⟨yE, q3⟩ : ∃ x, aE s xn = x := ⟨_, rfl⟩
            have HRG := HIG
            have hv := (TR.out.at_ xn xg HIN.out HRG.out).2
            rw [hb] at hv
            have HV := Lib.hid hv
            obtain ⟨t1, t2⟩ := free_step TR.out BO0.out.are.inv HIN.out HRG.out hb
            obtain ⟨f1, f2⟩ := fr_yes hb
            obtain ⟨s1, hs1⟩ : ∃ x, x = frS s xn xg := ⟨_, rfl⟩
            rw [← hs1] at t1 t2
            obtain ⟨D1, hD1⟩ : ∃ x, x = D.put (kl xn xg) (.lit (.bool false)) := ⟨_, rfl⟩
            rw [← hD1] at t1
            have TR1 := Lib.hid t1; have HE6 := Lib.hid t2; have HD1 := Lib.hid hD1; have HS1 := Lib.hid hs1
            have hpos : (1 : Int) ≤ (cntS s : Int) := by omega
            have hcle : (cntS s : Int) ≤ 20 := by have := BO0.out.are.inv.le; unfold cntS; omega
            have HF2 := Lib.hid f2
            clear t1 t2 f1 f2 hD1 hs1 hv
            have HB := Lib.hid hb; have HQ1 := Lib.hid q1; have HQ2 := Lib.hid q2; have HQ3 := Lib.hid q3
            clear hb q1 q2 q3
            obtain ⟨y0, y1, y2, _⟩ := P10.out.three
            go_upto_region 24 with (fail)
            obtain ⟨b16, hb16⟩ : ∃ b16, b16 = v0.heap.size := ⟨_, rfl⟩
            obtain ⟨v1, hv1⟩ : ∃ v1, v1 = v0.alloc (.cells #[.int .i64 xn, .int .i64 xg] 35) := ⟨_, rfl⟩
            have b1 : Below v0.heap.size v0 v1 := by rw [hv1]; exact bnew _ _
            have P16 : Hid (Blk v1 b16 #[.int .i64 xn, .int .i64 xg] 35) := by show Blk _ _ _ _; rw [hv1, hb16]; exact Blk.new _ _ _
            have BO1 := Lib.hid (BO0.out.below b1 (Nat.le_refl _))
            have BL1 := Lib.hid (BL0.out.trans (b1.mono (by omega)))
            have Q10 := Lib.hid (P10.out.below b1 P10.out.lt)
            have hN1 : N ≤ v1.heap.size := Nat.le_trans (by omega) b1.size
            have l16 : b16 < v1.heap.size := P16.out.lt
            have hF16 : Hid (∀ j, j = b16 → ¬ F j) := fun j e hf => by have := (BO0.out.fl j hf).2; omega
            have h716 : b7 ≠ b16 := by have := BO0.out.lt; omega
            have hN16 : N ≤ b16 := by omega
            have AT := Lib.hid (at_any BO1.out.are xn)
            unfold atPost at AT
            rw [HQ1.out, HQ2.out, HQ3.out] at AT
            rw [← hv1, ← hb16]
            clear hv1 hb16 b1 y0 y1 y2
            obtain ⟨z0, z1, _⟩ := P16.out.two
            go_wp2_with fail
            refine AT.out.mono ?_
            rintro e v2 ⟨rfl, hb⟩
            have BO2 := Lib.hid (BO1.out.below hb (Nat.le_refl _))
            have BL2 := Lib.hid (BL1.out.trans (hb.mono hN1))
            have Q10' := Lib.hid (Q10.out.below hb Q10.out.lt); have Q16 := Lib.hid (P16.out.below hb P16.out.lt)
            have hN2 : N ≤ v2.heap.size := Nat.le_trans hN1 hb.size
            have hz2 : v1.heap.size ≤ v2.heap.size := hb.size
            clear hb z0 z1 AT
            go_upto_region 25 with (fail)
            obtain ⟨b17, hb17⟩ : ∃ b17, b17 = v2.heap.size := ⟨_, rfl⟩
            obtain ⟨v3, hv3⟩ : ∃ v3, v3 = v2.alloc (.cells #[.int .i64 yN, .int .i64 yG] 35) := ⟨_, rfl⟩
            have b3 : Below v2.heap.size v2 v3 := by rw [hv3]; exact bnew _ _
            have P17 : Hid (Blk v3 b17 #[.int .i64 yN, .int .i64 yG] 35) := by show Blk _ _ _ _; rw [hv3, hb17]; exact Blk.new _ _ _
            have BO3 := Lib.hid (BO2.out.below b3 (Nat.le_refl _))
            have BL3 := Lib.hid (BL2.out.trans (b3.mono hN2))
            have S10 := Lib.hid (Q10'.out.below b3 Q10'.out.lt); have S16 := Lib.hid (Q16.out.below b3 Q16.out.lt)
            have hN3 : N ≤ v3.heap.size := Nat.le_trans hN2 b3.size
            have hz3 : v2.heap.size ≤ v3.heap.size := b3.size
            have l16' : b16 < v3.heap.size := S16.out.lt
            have l10' : b10 < v3.heap.size := S10.out.lt
            have l17 : b17 < v3.heap.size := P17.out.lt
            rw [← hv3, ← hb17]
            clear hv3 hb17 b3
            obtain ⟨y0, y1, y2, _⟩ := S10.out.three
            obtain ⟨z0, z1, _⟩ := S16.out.two
            have FR := Lib.hid (free_any BO3.out.are (by omega) xn xg)
            unfold freePost at FR
            rw [HF2.out, ← HS1.out] at FR
            go_wp2_with (at_lookup; refine at_no _ rfl _ _ rfl b7 n D rfl BO3.out.own xn xg HIN.out HRG.out rfl _ HV.out ?_)
            refine FR.out.mono ?_
            rintro e v5 ⟨rfl, ha, ho⟩
            have BO5 := Lib.hid (BO3.out.took hN3 ha ho)
            have BL5 := Lib.hid (BL3.out.trans (ho.below (B := N) (fun j hf => (BO3.out.fl j hf).1) hN3))
            have hN5 : N ≤ v5.heap.size := Nat.le_trans hN3 ho.size
            have U16 := Lib.hid (S16.out.only ho (hF16.out b16 rfl))
            have lu16 : b16 < v5.heap.size := U16.out.lt
            clear ha ho FR z0 z1 y0 y1 y2
            obtain ⟨z0, z1, _⟩ := U16.out.two
            go_upto_region 33 with (at_mapUpdate; refine at_store _ rfl _ _ _ rfl b7 n D rfl BO5.out.own (by omega) xn xg HIN.out HRG.out rfl false rfl ?_; intro v6 hw6 ho6)
            rw [← HD1.out] at hw6
            have BO6 := Lib.hid (BO5.out.store hw6 ho6)
            have BL6 := Lib.hid (BL5.out.trans (ho6.below (B := N) (fun j e => by have := BO5.out.bN; omega) hN5))
            have hN6 : N ≤ v6.heap.size := Nat.le_trans hN5 ho6.size
            have HCM : Hid (((s1.gens.length - s1.fr.length : Nat) : Int) = (cntS s : Int) - 1) := by show _ = _; have := HE6.out; unfold cntS at this ⊢; omega
            clear hw6 ho6 z0 z1
            have TT := TR1; have HCC := HCM; have BT := BO6
            have hrN := hN6
            go_wp2_with (at_range; refine at_rng _ rfl _ rfl b7 (n + 1) D1 rfl BT.out.own ?_; intro w0 hr0 hb0 hs0)
            try go_frame
            have BR := Lib.hid (BT.out.below hb0 (Nat.le_refl _))
            have BLR := Lib.hid (BL6.out.trans (hb0.mono hrN))
            obtain ⟨r, hr⟩ : ∃ r, r = v6.heap.size := ⟨_, rfl⟩
            rw [← hr] at hr0
            rw [← hr]
            have hNr0 : N ≤ w0.heap.size := by omega
            have hrF : Hid (∀ j, j = r → ¬ _) := fun j e hf => by have := (BT.out.fl j hf).2; omega
            have hr7 : b7 ≠ r := by have := BT.out.lt; omega
            have hNrr : N ≤ r := by omega
            have HAT : Hid (∀ i j : Int, In i → In j → DataW.atKey D1 (kl i j) (.lit (.bool false)) = .lit (.bool (hasB s1 i j))) := fun i j hi hj => (TT.out.at_ i j hi hj).2
            have HR0 := Lib.hid hr0
            clear hr hr0 hb0 hs0
            go_loopw [21] (fun _ wr => ∃ cnt, Rng wr b7 r (n + 1) D1 cnt ∧ Base N wr _ g m (G + 1) s1 b7 (n + 1) D1 ∧ Below N W wr ∧ N ≤ wr.heap.size) (fun _ wr => wr.rangeLeft b7 r)
            case atStart => exact ⟨_, HR0.out, BR.out, BLR.out, hNr0⟩
            case round =>
              obtain ⟨cnt, hrg, hbo, hbl, hNx⟩ := hrel
              have RG := Lib.hid hrg; have BX := Lib.hid hbo; have BLX := Lib.hid hbl
              clear hrg hbo hbl
              go_wp2_with (at_next; refine at_all _ rfl _ rfl b7 r (n + 1) D1 cnt (fun i j => hasB s1 i j) HAT.out rfl RG.out ?_ ?_)
              · go_wp2_with fail
                refine (klen BX.out.are ((cntS s : Int) - 1) HCC.out).mono ?_
                rintro e w5 ⟨rfl, hb⟩
                have BX5 := Lib.hid (BX.out.below hb (Nat.le_refl _))
                have BLX5 := Lib.hid (BLX.out.trans (hb.mono hNx))
                have hN5 : N ≤ w5.heap.size := Nat.le_trans hNx hb.size
                clear hb
                go_wp2_with fail
                go_roundw
                case rel => exact ⟨k + 1, n + 1, (G + 1), _, s1, D1, by omega, by rw [show (cntS s1 : Int) = (cntS s : Int) - 1 from by have := HE6.out; omega], by go_num, BX5.out, TT.out, by omega, by omega, by omega, BLX5.out, hN5⟩
                case measure => simp [intOf]; omega
              · intro i j w2 cnt2 hrg2 hlt2 ho2 hen
                have B2 := Lib.hid (BX.out.only ho2 hrF.out hr7)
                have R2 := Lib.hid hrg2
                have L2 := Lib.hid (BLX.out.trans (ho2.below (B := N) (fun j e => by omega) hNx))
                have hN2' : N ≤ w2.heap.size := Nat.le_trans hNx ho2.size
                clear ho2 hrg2
                go_upto_region 36 with (fail)
                obtain ⟨b20, hb20⟩ : ∃ b20, b20 = w2.heap.size := ⟨_, rfl⟩
                obtain ⟨w4, hw4⟩ : ∃ w4, w4 = w2.alloc (.cells #[.int .i64 i, .int .i64 j] 35) := ⟨_, rfl⟩
                have b4 : Below w2.heap.size w2 w4 := by rw [hw4]; exact bnew _ _
                have P20 : Hid (Blk w4 b20 #[.int .i64 i, .int .i64 j] 35) := by show Blk _ _ _ _; rw [hw4, hb20]; exact Blk.new _ _ _
                have B4 := Lib.hid (B2.out.below b4 (Nat.le_refl _))
                have R4 := Lib.hid (R2.out.kept (F := fun _ => False) (Only.of_below b4 (Nat.le_refl _) _) (fun hf => hf) (fun hf => hf))
                have L4 := Lib.hid (L2.out.trans (b4.mono hN2'))
                have hN4 : N ≤ w4.heap.size := Nat.le_trans hN2' b4.size
                have l20 : b20 < w4.heap.size := P20.out.lt
                rw [← hw4, ← hb20]
                clear hw4 hb20 b4 hen
                obtain ⟨z0, z1, _⟩ := P20.out.two
                have hself : ∀ b : Bool, (b != b) = false := fun b => by cases b <;> rfl
                go_wp2_with fail
                refine (khas B4.out.are i j _ rfl).mono ?_
                rintro e w5 ⟨rfl, hb⟩
                have B5 := Lib.hid (B4.out.below hb (Nat.le_refl _))
                have R5 := Lib.hid (R4.out.kept (F := fun _ => False) (Only.of_below hb (Nat.le_refl _) _) (fun hf => hf) (fun hf => hf))
                have L5 := Lib.hid (L4.out.trans (hb.mono hN4))
                have hN5 : N ≤ w5.heap.size := Nat.le_trans hN4 hb.size
                clear hb z0 z1
                go_wp2_with fail
                go_roundw
                case rel => exact ⟨cnt2, R5.out, B5.out, L5.out, hN5⟩
                case measure => rw [R5.out.left, RG.out.left]; exact hlt2
        · by_cases q2 : xa = 2
          · subst q2
            cases hi : ist s xn
            · obtain ⟨q1, q2, q3⟩ := ans_no hi
              have hb : hasB s xn xg = false := has_no hi
              have HRG := HIG
              clear hi
              have hv := (TR.out.at_ xn xg HIN.out HRG.out).2
              rw [hb] at hv
              have HV := Lib.hid hv
              obtain ⟨f1, f2⟩ := fr_no hb
              have HF1 := Lib.hid f1; have HF2 := Lib.hid f2
              clear f1 f2 hv
              have HB := Lib.hid hb; have HQ1 := Lib.hid q1; have HQ2 := Lib.hid q2; have HQ3 := Lib.hid q3
              clear hb q1 q2 q3
              obtain ⟨y0, y1, y2, _⟩ := P10.out.three
              go_upto_region 24 with (fail)
              obtain ⟨b16, hb16⟩ : ∃ b16, b16 = v0.heap.size := ⟨_, rfl⟩
              obtain ⟨v1, hv1⟩ : ∃ v1, v1 = v0.alloc (.cells #[.int .i64 xn, .int .i64 xg] 35) := ⟨_, rfl⟩
              have b1 : Below v0.heap.size v0 v1 := by rw [hv1]; exact bnew _ _
              have P16 : Hid (Blk v1 b16 #[.int .i64 xn, .int .i64 xg] 35) := by show Blk _ _ _ _; rw [hv1, hb16]; exact Blk.new _ _ _
              have BO1 := Lib.hid (BO0.out.below b1 (Nat.le_refl _))
              have BL1 := Lib.hid (BL0.out.trans (b1.mono (by omega)))
              have Q10 := Lib.hid (P10.out.below b1 P10.out.lt)
              have hN1 : N ≤ v1.heap.size := Nat.le_trans (by omega) b1.size
              have l16 : b16 < v1.heap.size := P16.out.lt
              have hF16 : Hid (∀ j, j = b16 → ¬ F j) := fun j e hf => by have := (BO0.out.fl j hf).2; omega
              have h716 : b7 ≠ b16 := by have := BO0.out.lt; omega
              have hN16 : N ≤ b16 := by omega
              have AT := Lib.hid (at_any BO1.out.are xn)
              unfold atPost at AT
              rw [HQ1.out, HQ2.out, HQ3.out] at AT
              rw [← hv1, ← hb16]
              clear hv1 hb16 b1 y0 y1 y2
              obtain ⟨z0, z1, _⟩ := P16.out.two
              go_wp2_with fail
              refine AT.out.mono ?_
              rintro e v2 ⟨rfl, hb⟩
              have BO2 := Lib.hid (BO1.out.below hb (Nat.le_refl _))
              have BL2 := Lib.hid (BL1.out.trans (hb.mono hN1))
              have Q10' := Lib.hid (Q10.out.below hb Q10.out.lt); have Q16 := Lib.hid (P16.out.below hb P16.out.lt)
              have hN2 : N ≤ v2.heap.size := Nat.le_trans hN1 hb.size
              have hz2 : v1.heap.size ≤ v2.heap.size := hb.size
              clear hb z0 z1 AT
              go_upto_region 25 with (fail)
              obtain ⟨b17, hb17⟩ : ∃ b17, b17 = v2.heap.size := ⟨_, rfl⟩
              obtain ⟨v3, hv3⟩ : ∃ v3, v3 = v2.alloc (.cells #[.int .i64 0, .int .i64 0] 35) := ⟨_, rfl⟩
              have b3 : Below v2.heap.size v2 v3 := by rw [hv3]; exact bnew _ _
              have P17 : Hid (Blk v3 b17 #[.int .i64 0, .int .i64 0] 35) := by show Blk _ _ _ _; rw [hv3, hb17]; exact Blk.new _ _ _
              have BO3 := Lib.hid (BO2.out.below b3 (Nat.le_refl _))
              have BL3 := Lib.hid (BL2.out.trans (b3.mono hN2))
              have S10 := Lib.hid (Q10'.out.below b3 Q10'.out.lt); have S16 := Lib.hid (Q16.out.below b3 Q16.out.lt)
              have hN3 : N ≤ v3.heap.size := Nat.le_trans hN2 b3.size
              have hz3 : v2.heap.size ≤ v3.heap.size := b3.size
              have l16' : b16 < v3.heap.size := S16.out.lt
              have l10' : b10 < v3.heap.size := S10.out.lt
              have l17 : b17 < v3.heap.size := P17.out.lt
              rw [← hv3, ← hb17]
              clear hv3 hb17 b3
              obtain ⟨y0, y1, y2, _⟩ := S10.out.three
              obtain ⟨z0, z1, _⟩ := S16.out.two
              have FR := Lib.hid (free_any BO3.out.are (by omega) xn xg)
              unfold freePost at FR
              rw [HF2.out, HF1.out] at FR
              go_wp2_with (at_lookup; refine at_no _ rfl _ _ rfl b7 n D rfl BO3.out.own xn xg HIN.out HRG.out rfl _ HV.out ?_)
              refine FR.out.mono ?_
              rintro e v5 ⟨rfl, ha, ho⟩
              have BO5 := Lib.hid (BO3.out.took hN3 ha ho)
              have BL5 := Lib.hid (BL3.out.trans (ho.below (B := N) (fun j hf => (BO3.out.fl j hf).1) hN3))
              have hN5 : N ≤ v5.heap.size := Nat.le_trans hN3 ho.size
              have U16 := Lib.hid (S16.out.only ho (hF16.out b16 rfl))
              have lu16 : b16 < v5.heap.size := U16.out.lt
              clear ha ho FR z0 z1 y0 y1 y2
              go_upto_region 33 with (fail)
              have HCM : Hid (((s.gens.length - s.fr.length : Nat) : Int) = (cntS s : Int)) := rfl
              have TT := TR; have HCC := HCM; have BT := BO5
              have hrN := hN5
              go_wp2_with (at_range; refine at_rng _ rfl _ rfl b7 (n) D rfl BT.out.own ?_; intro w0 hr0 hb0 hs0)
              try go_frame
              have BR := Lib.hid (BT.out.below hb0 (Nat.le_refl _))
              have BLR := Lib.hid (BL5.out.trans (hb0.mono hrN))
              obtain ⟨r, hr⟩ : ∃ r, r = v5.heap.size := ⟨_, rfl⟩
              rw [← hr] at hr0
              rw [← hr]
              have hNr0 : N ≤ w0.heap.size := by omega
              have hrF : Hid (∀ j, j = r → ¬ _) := fun j e hf => by have := (BT.out.fl j hf).2; omega
              have hr7 : b7 ≠ r := by have := BT.out.lt; omega
              have hNrr : N ≤ r := by omega
              have HAT : Hid (∀ i j : Int, In i → In j → DataW.atKey D (kl i j) (.lit (.bool false)) = .lit (.bool (hasB s i j))) := fun i j hi hj => (TT.out.at_ i j hi hj).2
              have HR0 := Lib.hid hr0
              clear hr hr0 hb0 hs0
              go_loopw [21] (fun _ wr => ∃ cnt, Rng wr b7 r (n) D cnt ∧ Base N wr _ g m (G + 1) s b7 (n) D ∧ Below N W wr ∧ N ≤ wr.heap.size) (fun _ wr => wr.rangeLeft b7 r)
              case atStart => exact ⟨_, HR0.out, BR.out, BLR.out, hNr0⟩
              case round =>
                obtain ⟨cnt, hrg, hbo, hbl, hNx⟩ := hrel
                have RG := Lib.hid hrg; have BX := Lib.hid hbo; have BLX := Lib.hid hbl
                clear hrg hbo hbl
                go_wp2_with (at_next; refine at_all _ rfl _ rfl b7 r (n) D cnt (fun i j => hasB s i j) HAT.out rfl RG.out ?_ ?_)
                · go_wp2_with fail
                  refine (klen BX.out.are (cntS s : Int) HCC.out).mono ?_
                  rintro e w5 ⟨rfl, hb⟩
                  have BX5 := Lib.hid (BX.out.below hb (Nat.le_refl _))
                  have BLX5 := Lib.hid (BLX.out.trans (hb.mono hNx))
                  have hN5 : N ≤ w5.heap.size := Nat.le_trans hNx hb.size
                  clear hb
                  go_wp2_with fail
                  go_roundw
                  case rel => exact ⟨k + 1, n, (G + 1), _, s, D, by omega, rfl, by go_num, BX5.out, TT.out, by omega, by omega, by omega, BLX5.out, hN5⟩
                  case measure => simp [intOf]; omega
                · intro i j w2 cnt2 hrg2 hlt2 ho2 hen
                  have B2 := Lib.hid (BX.out.only ho2 hrF.out hr7)
                  have R2 := Lib.hid hrg2
                  have L2 := Lib.hid (BLX.out.trans (ho2.below (B := N) (fun j e => by omega) hNx))
                  have hN2' : N ≤ w2.heap.size := Nat.le_trans hNx ho2.size
                  clear ho2 hrg2
                  go_upto_region 36 with (fail)
                  obtain ⟨b20, hb20⟩ : ∃ b20, b20 = w2.heap.size := ⟨_, rfl⟩
                  obtain ⟨w4, hw4⟩ : ∃ w4, w4 = w2.alloc (.cells #[.int .i64 i, .int .i64 j] 35) := ⟨_, rfl⟩
                  have b4 : Below w2.heap.size w2 w4 := by rw [hw4]; exact bnew _ _
                  have P20 : Hid (Blk w4 b20 #[.int .i64 i, .int .i64 j] 35) := by show Blk _ _ _ _; rw [hw4, hb20]; exact Blk.new _ _ _
                  have B4 := Lib.hid (B2.out.below b4 (Nat.le_refl _))
                  have R4 := Lib.hid (R2.out.kept (F := fun _ => False) (Only.of_below b4 (Nat.le_refl _) _) (fun hf => hf) (fun hf => hf))
                  have L4 := Lib.hid (L2.out.trans (b4.mono hN2'))
                  have hN4 : N ≤ w4.heap.size := Nat.le_trans hN2' b4.size
                  have l20 : b20 < w4.heap.size := P20.out.lt
                  rw [← hw4, ← hb20]
                  clear hw4 hb20 b4 hen
                  obtain ⟨z0, z1, _⟩ := P20.out.two
                  have hself : ∀ b : Bool, (b != b) = false := fun b => by cases b <;> rfl
                  go_wp2_with fail
                  refine (khas B4.out.are i j _ rfl).mono ?_
                  rintro e w5 ⟨rfl, hb⟩
                  have B5 := Lib.hid (B4.out.below hb (Nat.le_refl _))
                  have R5 := Lib.hid (R4.out.kept (F := fun _ => False) (Only.of_below hb (Nat.le_refl _) _) (fun hf => hf) (fun hf => hf))
                  have L5 := Lib.hid (L4.out.trans (hb.mono hN4))
                  have hN5 : N ≤ w5.heap.size := Nat.le_trans hN4 hb.size
                  clear hb z0 z1
                  go_wp2_with fail
                  go_roundw
                  case rel => exact ⟨cnt2, R5.out, B5.out, L5.out, hN5⟩
                  case measure => rw [R5.out.left, RG.out.left]; exact hlt2
            · obtain ⟨q1, q2, q3⟩ := ans_yes hi
              have hb : hasB s xn (genAt s xn : Int) = true := has_mk hi rfl
              have hgg : In (genAt s xn : Int) := in_small (by omega) (by have := genAt_le BO0.out.are.inv xn; omega)
              obtain ⟨gg, hgd⟩ : ∃ x : Int, x = (genAt s xn : Int) := ⟨_, rfl⟩
              rw [← hgd] at q2 hb hgg
              have HRG := Lib.hid hgg
              clear hgg hgd hi
              have hv := (TR.out.at_ xn gg HIN.out HRG.out).2
              rw [hb] at hv
              have HV := Lib.hid hv
              obtain ⟨t1, t2⟩ := free_step TR.out BO0.out.are.inv HIN.out HRG.out hb
              obtain ⟨f1, f2⟩ := fr_yes hb
              obtain ⟨s1, hs1⟩ : ∃ x, x = frS s xn gg := ⟨_, rfl⟩
              rw [← hs1] at t1 t2
              obtain ⟨D1, hD1⟩ : ∃ x, x = D.put (kl xn gg) (.lit (.bool false)) := ⟨_, rfl⟩
              rw [← hD1] at t1
              have TR1 := Lib.hid t1; have HE6 := Lib.hid t2; have HD1 := Lib.hid hD1; have HS1 := Lib.hid hs1
              have hpos : (1 : Int) ≤ (cntS s : Int) := by omega
              have hcle : (cntS s : Int) ≤ 20 := by have := BO0.out.are.inv.le; unfold cntS; omega
              have HF2 := Lib.hid f2
              clear t1 t2 f1 f2 hD1 hs1 hv
              have HB := Lib.hid hb; have HQ1 := Lib.hid q1; have HQ2 := Lib.hid q2; have HQ3 := Lib.hid q3
              clear hb q1 q2 q3
              obtain ⟨y0, y1, y2, _⟩ := P10.out.three
              go_upto_region 24 with (fail)
              obtain ⟨b16, hb16⟩ : ∃ b16, b16 = v0.heap.size := ⟨_, rfl⟩
              obtain ⟨v1, hv1⟩ : ∃ v1, v1 = v0.alloc (.cells #[.int .i64 xn, .int .i64 xg] 35) := ⟨_, rfl⟩
              have b1 : Below v0.heap.size v0 v1 := by rw [hv1]; exact bnew _ _
              have P16 : Hid (Blk v1 b16 #[.int .i64 xn, .int .i64 xg] 35) := by show Blk _ _ _ _; rw [hv1, hb16]; exact Blk.new _ _ _
              have BO1 := Lib.hid (BO0.out.below b1 (Nat.le_refl _))
              have BL1 := Lib.hid (BL0.out.trans (b1.mono (by omega)))
              have Q10 := Lib.hid (P10.out.below b1 P10.out.lt)
              have hN1 : N ≤ v1.heap.size := Nat.le_trans (by omega) b1.size
              have l16 : b16 < v1.heap.size := P16.out.lt
              have hF16 : Hid (∀ j, j = b16 → ¬ F j) := fun j e hf => by have := (BO0.out.fl j hf).2; omega
              have h716 : b7 ≠ b16 := by have := BO0.out.lt; omega
              have hN16 : N ≤ b16 := by omega
              have AT := Lib.hid (at_any BO1.out.are xn)
              unfold atPost at AT
              rw [HQ1.out, HQ2.out, HQ3.out] at AT
              rw [← hv1, ← hb16]
              clear hv1 hb16 b1 y0 y1 y2
              obtain ⟨z0, z1, _⟩ := P16.out.two
              go_wp2_with fail
              refine AT.out.mono ?_
              rintro e v2 ⟨rfl, hb⟩
              have BO2 := Lib.hid (BO1.out.below hb (Nat.le_refl _))
              have BL2 := Lib.hid (BL1.out.trans (hb.mono hN1))
              have Q10' := Lib.hid (Q10.out.below hb Q10.out.lt); have Q16 := Lib.hid (P16.out.below hb P16.out.lt)
              have hN2 : N ≤ v2.heap.size := Nat.le_trans hN1 hb.size
              have hz2 : v1.heap.size ≤ v2.heap.size := hb.size
              clear hb z0 z1 AT
              go_upto_region 25 with (fail)
              obtain ⟨b17, hb17⟩ : ∃ b17, b17 = v2.heap.size := ⟨_, rfl⟩
              obtain ⟨v3, hv3⟩ : ∃ v3, v3 = v2.alloc (.cells #[.int .i64 xn, .int .i64 gg] 35) := ⟨_, rfl⟩
              have b3 : Below v2.heap.size v2 v3 := by rw [hv3]; exact bnew _ _
              have P17 : Hid (Blk v3 b17 #[.int .i64 xn, .int .i64 gg] 35) := by show Blk _ _ _ _; rw [hv3, hb17]; exact Blk.new _ _ _
              have BO3 := Lib.hid (BO2.out.below b3 (Nat.le_refl _))
              have BL3 := Lib.hid (BL2.out.trans (b3.mono hN2))
              have S10 := Lib.hid (Q10'.out.below b3 Q10'.out.lt); have S16 := Lib.hid (Q16.out.below b3 Q16.out.lt)
              have hN3 : N ≤ v3.heap.size := Nat.le_trans hN2 b3.size
              have hz3 : v2.heap.size ≤ v3.heap.size := b3.size
              have l16' : b16 < v3.heap.size := S16.out.lt
              have l10' : b10 < v3.heap.size := S10.out.lt
              have l17 : b17 < v3.heap.size := P17.out.lt
              rw [← hv3, ← hb17]
              clear hv3 hb17 b3
              obtain ⟨y0, y1, y2, _⟩ := S10.out.three
              obtain ⟨z0, z1, zf0, zf1⟩ := S16.out.two
              obtain ⟨x0, x1, _⟩ := P17.out.two
              go_upto_region 27 with (fail)
              obtain ⟨v4, hv4⟩ : ∃ v4, v4 = (v3.setCell ⟨b16, 0, none⟩ (.int .i64 xn)).setCell ⟨b16, 1, none⟩ (.int .i64 gg) := ⟨_, rfl⟩
              have O4 : Only (fun j => j = b16) v3 v4 := by rw [hv4]; exact ((Only.refl (fun j => j = b16) v3).put (ad := ⟨b16, 0, none⟩) rfl _).put (ad := ⟨b16, 1, none⟩) rfl _
              have T16 : Hid (Blk v4 b16 #[.int .i64 xn, .int .i64 gg] 35) := by
                have h1 := (S16.out.set 0 (.int .i64 xn)).set 1 (.int .i64 gg)
                show Blk _ _ _ _
                rw [hv4]; exact h1
              have BO4 := Lib.hid (BO3.out.only O4 hF16.out h716)
              have BL4 := Lib.hid (BL3.out.trans (O4.below (B := N) (fun j e => by omega) hN3))
              have hN4 : N ≤ v4.heap.size := Nat.le_trans hN3 O4.size
              rw [← hv4]
              clear hv4 O4 y0 y1 y2 z0 z1 zf0 zf1 x0 x1
              obtain ⟨z0, z1, _⟩ := T16.out.two
              have FR := Lib.hid (free_any BO4.out.are (by omega) xn gg)
              unfold freePost at FR
              rw [HF2.out, ← HS1.out] at FR
              go_wp2_with (at_lookup; refine at_no _ rfl _ _ rfl b7 n D rfl BO4.out.own xn gg HIN.out HRG.out rfl _ HV.out ?_)
              refine FR.out.mono ?_
              rintro e v5 ⟨rfl, ha, ho⟩
              have BO5 := Lib.hid (BO4.out.took hN4 ha ho)
              have BL5 := Lib.hid (BL4.out.trans (ho.below (B := N) (fun j hf => (BO4.out.fl j hf).1) hN4))
              have hN5 : N ≤ v5.heap.size := Nat.le_trans hN4 ho.size
              have U16 := Lib.hid (T16.out.only ho (hF16.out b16 rfl))
              have lu16 : b16 < v5.heap.size := U16.out.lt
              clear ha ho FR z0 z1
              obtain ⟨z0, z1, _⟩ := U16.out.two
              go_upto_region 33 with (at_mapUpdate; refine at_store _ rfl _ _ _ rfl b7 n D rfl BO5.out.own (by omega) xn gg HIN.out HRG.out rfl false rfl ?_; intro v6 hw6 ho6)
              rw [← HD1.out] at hw6
              have BO6 := Lib.hid (BO5.out.store hw6 ho6)
              have BL6 := Lib.hid (BL5.out.trans (ho6.below (B := N) (fun j e => by have := BO5.out.bN; omega) hN5))
              have hN6 : N ≤ v6.heap.size := Nat.le_trans hN5 ho6.size
              have HCM : Hid (((s1.gens.length - s1.fr.length : Nat) : Int) = (cntS s : Int) - 1) := by show _ = _; have := HE6.out; unfold cntS at this ⊢; omega
              clear hw6 ho6 z0 z1
              have TT := TR1; have HCC := HCM; have BT := BO6
              have hrN := hN6
              go_wp2_with (at_range; refine at_rng _ rfl _ rfl b7 (n + 1) D1 rfl BT.out.own ?_; intro w0 hr0 hb0 hs0)
              try go_frame
              have BR := Lib.hid (BT.out.below hb0 (Nat.le_refl _))
              have BLR := Lib.hid (BL6.out.trans (hb0.mono hrN))
              obtain ⟨r, hr⟩ : ∃ r, r = v6.heap.size := ⟨_, rfl⟩
              rw [← hr] at hr0
              rw [← hr]
              have hNr0 : N ≤ w0.heap.size := by omega
              have hrF : Hid (∀ j, j = r → ¬ _) := fun j e hf => by have := (BT.out.fl j hf).2; omega
              have hr7 : b7 ≠ r := by have := BT.out.lt; omega
              have hNrr : N ≤ r := by omega
              have HAT : Hid (∀ i j : Int, In i → In j → DataW.atKey D1 (kl i j) (.lit (.bool false)) = .lit (.bool (hasB s1 i j))) := fun i j hi hj => (TT.out.at_ i j hi hj).2
              have HR0 := Lib.hid hr0
              clear hr hr0 hb0 hs0
              go_loopw [21] (fun _ wr => ∃ cnt, Rng wr b7 r (n + 1) D1 cnt ∧ Base N wr _ g m (G + 1) s1 b7 (n + 1) D1 ∧ Below N W wr ∧ N ≤ wr.heap.size) (fun _ wr => wr.rangeLeft b7 r)
              case atStart => exact ⟨_, HR0.out, BR.out, BLR.out, hNr0⟩
              case round =>
                obtain ⟨cnt, hrg, hbo, hbl, hNx⟩ := hrel
                have RG := Lib.hid hrg; have BX := Lib.hid hbo; have BLX := Lib.hid hbl
                clear hrg hbo hbl
                go_wp2_with (at_next; refine at_all _ rfl _ rfl b7 r (n + 1) D1 cnt (fun i j => hasB s1 i j) HAT.out rfl RG.out ?_ ?_)
                · go_wp2_with fail
                  refine (klen BX.out.are ((cntS s : Int) - 1) HCC.out).mono ?_
                  rintro e w5 ⟨rfl, hb⟩
                  have BX5 := Lib.hid (BX.out.below hb (Nat.le_refl _))
                  have BLX5 := Lib.hid (BLX.out.trans (hb.mono hNx))
                  have hN5 : N ≤ w5.heap.size := Nat.le_trans hNx hb.size
                  clear hb
                  go_wp2_with fail
                  go_roundw
                  case rel => exact ⟨k + 1, n + 1, (G + 1), _, s1, D1, by omega, by rw [show (cntS s1 : Int) = (cntS s : Int) - 1 from by have := HE6.out; omega], by go_num, BX5.out, TT.out, by omega, by omega, by omega, BLX5.out, hN5⟩
                  case measure => simp [intOf]; omega
                · intro i j w2 cnt2 hrg2 hlt2 ho2 hen
                  have B2 := Lib.hid (BX.out.only ho2 hrF.out hr7)
                  have R2 := Lib.hid hrg2
                  have L2 := Lib.hid (BLX.out.trans (ho2.below (B := N) (fun j e => by omega) hNx))
                  have hN2' : N ≤ w2.heap.size := Nat.le_trans hNx ho2.size
                  clear ho2 hrg2
                  go_upto_region 36 with (fail)
                  obtain ⟨b20, hb20⟩ : ∃ b20, b20 = w2.heap.size := ⟨_, rfl⟩
                  obtain ⟨w4, hw4⟩ : ∃ w4, w4 = w2.alloc (.cells #[.int .i64 i, .int .i64 j] 35) := ⟨_, rfl⟩
                  have b4 : Below w2.heap.size w2 w4 := by rw [hw4]; exact bnew _ _
                  have P20 : Hid (Blk w4 b20 #[.int .i64 i, .int .i64 j] 35) := by show Blk _ _ _ _; rw [hw4, hb20]; exact Blk.new _ _ _
                  have B4 := Lib.hid (B2.out.below b4 (Nat.le_refl _))
                  have R4 := Lib.hid (R2.out.kept (F := fun _ => False) (Only.of_below b4 (Nat.le_refl _) _) (fun hf => hf) (fun hf => hf))
                  have L4 := Lib.hid (L2.out.trans (b4.mono hN2'))
                  have hN4 : N ≤ w4.heap.size := Nat.le_trans hN2' b4.size
                  have l20 : b20 < w4.heap.size := P20.out.lt
                  rw [← hw4, ← hb20]
                  clear hw4 hb20 b4 hen
                  obtain ⟨z0, z1, _⟩ := P20.out.two
                  have hself : ∀ b : Bool, (b != b) = false := fun b => by cases b <;> rfl
                  go_wp2_with fail
                  refine (khas B4.out.are i j _ rfl).mono ?_
                  rintro e w5 ⟨rfl, hb⟩
                  have B5 := Lib.hid (B4.out.below hb (Nat.le_refl _))
                  have R5 := Lib.hid (R4.out.kept (F := fun _ => False) (Only.of_below hb (Nat.le_refl _) _) (fun hf => hf) (fun hf => hf))
                  have L5 := Lib.hid (L4.out.trans (hb.mono hN4))
                  have hN5 : N ≤ w5.heap.size := Nat.le_trans hN4 hb.size
                  clear hb z0 z1
                  go_wp2_with fail
                  go_roundw
                  case rel => exact ⟨cnt2, R5.out, B5.out, L5.out, hN5⟩
                  case measure => rw [R5.out.left, RG.out.left]; exact hlt2
          · have i3 : (xa == 0) = false := by rw [beq_eq_false_iff_ne]; exact q0
            have i4 : (xa == 1) = false := by rw [beq_eq_false_iff_ne]; exact q1
            have i5 : (xa == 2) = false := by rw [beq_eq_false_iff_ne]; exact q2
            clear q0 q1 q2
            have hN0 : N ≤ v0.heap.size := by omega
            obtain ⟨y0, y1, y2, _⟩ := P10.out.three
            go_upto_region 33 with (fail)
            have HCM : Hid (((s.gens.length - s.fr.length : Nat) : Int) = (cntS s : Int)) := rfl
            have TT := TR; have HCC := HCM; have BT := BO0
            have hrN := hN0
            go_wp2_with (at_range; refine at_rng _ rfl _ rfl b7 (n) D rfl BT.out.own ?_; intro w0 hr0 hb0 hs0)
            try go_frame
            have BR := Lib.hid (BT.out.below hb0 (Nat.le_refl _))
            have BLR := Lib.hid (BL0.out.trans (hb0.mono hrN))
            obtain ⟨r, hr⟩ : ∃ r, r = v0.heap.size := ⟨_, rfl⟩
            rw [← hr] at hr0
            rw [← hr]
            have hNr0 : N ≤ w0.heap.size := by omega
            have hrF : Hid (∀ j, j = r → ¬ _) := fun j e hf => by have := (BT.out.fl j hf).2; omega
            have hr7 : b7 ≠ r := by have := BT.out.lt; omega
            have hNrr : N ≤ r := by omega
            have HAT : Hid (∀ i j : Int, In i → In j → DataW.atKey D (kl i j) (.lit (.bool false)) = .lit (.bool (hasB s i j))) := fun i j hi hj => (TT.out.at_ i j hi hj).2
            have HR0 := Lib.hid hr0
            clear hr hr0 hb0 hs0
            go_loopw [21] (fun _ wr => ∃ cnt, Rng wr b7 r (n) D cnt ∧ Base N wr _ g m G s b7 (n) D ∧ Below N W wr ∧ N ≤ wr.heap.size) (fun _ wr => wr.rangeLeft b7 r)
            case atStart => exact ⟨_, HR0.out, BR.out, BLR.out, hNr0⟩
            case round =>
              obtain ⟨cnt, hrg, hbo, hbl, hNx⟩ := hrel
              have RG := Lib.hid hrg; have BX := Lib.hid hbo; have BLX := Lib.hid hbl
              clear hrg hbo hbl
              go_wp2_with (at_next; refine at_all _ rfl _ rfl b7 r (n) D cnt (fun i j => hasB s i j) HAT.out rfl RG.out ?_ ?_)
              · go_wp2_with fail
                refine (klen BX.out.are (cntS s : Int) HCC.out).mono ?_
                rintro e w5 ⟨rfl, hb⟩
                have BX5 := Lib.hid (BX.out.below hb (Nat.le_refl _))
                have BLX5 := Lib.hid (BLX.out.trans (hb.mono hNx))
                have hN5 : N ≤ w5.heap.size := Nat.le_trans hNx hb.size
                clear hb
                go_wp2_with fail
                go_roundw
                case rel => exact ⟨k + 1, n, G, _, s, D, by omega, rfl, by go_num, BX5.out, TT.out, by omega, by omega, by omega, BLX5.out, hN5⟩
                case measure => simp [intOf]; omega
              · intro i j w2 cnt2 hrg2 hlt2 ho2 hen
                have B2 := Lib.hid (BX.out.only ho2 hrF.out hr7)
                have R2 := Lib.hid hrg2
                have L2 := Lib.hid (BLX.out.trans (ho2.below (B := N) (fun j e => by omega) hNx))
                have hN2' : N ≤ w2.heap.size := Nat.le_trans hNx ho2.size
                clear ho2 hrg2
                go_upto_region 36 with (fail)
                obtain ⟨b20, hb20⟩ : ∃ b20, b20 = w2.heap.size := ⟨_, rfl⟩
                obtain ⟨w4, hw4⟩ : ∃ w4, w4 = w2.alloc (.cells #[.int .i64 i, .int .i64 j] 35) := ⟨_, rfl⟩
                have b4 : Below w2.heap.size w2 w4 := by rw [hw4]; exact bnew _ _
                have P20 : Hid (Blk w4 b20 #[.int .i64 i, .int .i64 j] 35) := by show Blk _ _ _ _; rw [hw4, hb20]; exact Blk.new _ _ _
                have B4 := Lib.hid (B2.out.below b4 (Nat.le_refl _))
                have R4 := Lib.hid (R2.out.kept (F := fun _ => False) (Only.of_below b4 (Nat.le_refl _) _) (fun hf => hf) (fun hf => hf))
                have L4 := Lib.hid (L2.out.trans (b4.mono hN2'))
                have hN4 : N ≤ w4.heap.size := Nat.le_trans hN2' b4.size
                have l20 : b20 < w4.heap.size := P20.out.lt
                rw [← hw4, ← hb20]
                clear hw4 hb20 b4 hen
                obtain ⟨z0, z1, _⟩ := P20.out.two
                have hself : ∀ b : Bool, (b != b) = false := fun b => by cases b <;> rfl
                go_wp2_with fail
                refine (khas B4.out.are i j _ rfl).mono ?_
                rintro e w5 ⟨rfl, hb⟩
                have B5 := Lib.hid (B4.out.below hb (Nat.le_refl _))
                have R5 := Lib.hid (R4.out.kept (F := fun _ => False) (Only.of_below hb (Nat.le_refl _) _) (fun hf => hf) (fun hf => hf))
                have L5 := Lib.hid (L4.out.trans (hb.mono hN4))
                have hN5 : N ≤ w5.heap.size := Nat.le_trans hN4 hb.size
                clear hb z0 z1
                go_wp2_with fail
                go_roundw
                case rel => exact ⟨cnt2, R5.out, B5.out, L5.out, hN5⟩
                case measure => rw [R5.out.left, RG.out.left]; exact hlt2
    · obtain rfl : k = l.length := by omega
      have hnn : ¬ (l.length : Int) < l.length := by omega
      go_wp2_with fail
      refine (HK.out _).mono ?_
      rintro r v ⟨rfl, hbk⟩
      have HBK := Lib.hid hbk
      clear hbk
      go_wp2_with fail
      go_ret
      exact ⟨rfl, BL.out.trans (HBK.out.mono hNr)⟩
end Go.Proofs.Ytighehonkookhaa.Od
