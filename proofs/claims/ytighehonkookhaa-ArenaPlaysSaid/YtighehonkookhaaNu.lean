/- Proves that ArenaPlays returns true at every argument. Conditions: as the row gives them. -/
import Derived.Test.YtighehonkookhaaNt
import Derived.Test.YtighehonkookhaaNo
namespace Go.Proofs.Ytighehonkookhaa.Nu
open Go.RowKit Ap Mi Nm Nw Na Nb Rg Nc Nd Nx Nf Ng Nh Nj Nk Nl Np Nq Nt No

set_option maxRecDepth 100000 in
set_option maxHeartbeats 8000000 in
theorem plays_walk (n : Int) (D : Option Addr) (q : Nat) (l : List (Int × Int × Int)) (W : World) (ha : Rs W 3 D l.length q (acL l)) :
    Calls Try.prog 3 #[.int .i64 n, .slice D l.length q] W (boolTo true W) := by
  have HK := known_hid
  have HD := Lib.hid ha
  have hdl := ha.le
  have hdm := ha.max
  unfold maxLen at hdm
  clear ha
  obtain ⟨N, hN⟩ : ∃ N, N = W.heap.size := ⟨_, rfl⟩
  have HN := Lib.hid hN
  unfold boolTo
  unfold boolTo at HK
  rw [← hN]
  by_cases h100 : 100 < l.length
  · have i1 : (100 : Int) < (l.length : Int) := by omega
    clear hN h100
    go_enter Try.func3, Try.ntmps3
    go_wp2_with fail
    refine (HK.out _).mono ?_
    rintro e w1 ⟨rfl, hb⟩
    go_wp2_with fail
    go_ret
    exact ⟨rfl, by rw [HN.out]; exact hb⟩
  have i1 : (l.length : Int) ≤ 100 := by omega
  have hl100 : l.length ≤ 100 := by omega
  clear h100
  by_cases hm : 1 ≤ n ∧ n ≤ 1048576
  case neg =>
    have hno : n < 1 ∨ 1048576 < n := by omega
    have HNW := Lib.hid (new_no n W hno)
    have HRN := Lib.hid (rnew_any n W)
    unfold rnewPost at HRN
    have HNO := Lib.hid hno
    clear hm hno hN
    go_enter Try.func3, Try.ntmps3
    go_wp2_with fail
    refine HNW.out.mono ?_
    rintro e w1 ⟨rfl, rfl⟩
    go_wp2_with fail
    refine HRN.out.mono ?_
    rintro e w1 ⟨⟨h, _⟩ | ⟨_, rfl⟩, hb⟩
    case' inl => exact absurd HNO.out (by omega)
    case' inr =>
      have HB := Lib.hid hb
      clear hb
      go_wp2_with fail
      refine (HK.out _).mono ?_
      rintro e w3 ⟨rfl, hb3⟩
      have HB3 := Lib.hid hb3
      clear hb3
      go_wp2_with fail
      go_ret
      exact ⟨rfl, by rw [HN.out]; exact (HB.out.alloc HB.out.size _).trans (HB3.out.mono (by have := HB.out.size; simp; omega))⟩
  case pos =>
  obtain ⟨m, rfl⟩ : ∃ m : Nat, n = (m : Int) := ⟨n.toNat, by omega⟩
  have HNW := Lib.hid (new_yes m W (by omega) (by omega))
  rw [← hN] at HNW
  have HM := Lib.hid hm
  clear hm hN
  go_enter Try.func3, Try.ntmps3
  go_wp2_with fail
  refine HNW.out.mono ?_
  rintro e w1 ⟨g, rfl, ha, hb⟩
  have HA := Lib.hid ha.tight; have HB1 := Lib.hid hb
  have hz1 : N ≤ w1.heap.size := by rw [HN.out]; exact hb.size
  have HRN := Lib.hid (rnew_any (m : Int) w1)
  unfold rnewPost at HRN
  clear ha hb HNW
  go_wp2_with fail
  refine HRN.out.mono ?_
  rintro e w2 ⟨⟨_, rfl⟩ | ⟨h, _⟩, hb⟩
  case' inr => exact absurd HM.out (by omega)
  case' inl =>
  obtain ⟨b7, hb7⟩ : ∃ b7, b7 = w2.heap.size := ⟨_, rfl⟩
  obtain ⟨w3, hw3⟩ : ∃ w3, w3 = w2.alloc (.cells #[.int .i64 (m : Int), .slice none 0 0, .slice none 0 0, .slice none 0 0] 31) := ⟨_, rfl⟩
  have b3 : Below w1.heap.size w1 w3 := by rw [hw3]; exact hb.alloc hb.size _
  have P7 : Hid (Blk w3 b7 #[.int .i64 (m : Int), .slice none 0 0, .slice none 0 0, .slice none 0 0] 31) := by show Blk _ _ _ _; rw [hw3, hb7]; exact Blk.new _ _ _
  have hz2 := hb.size
  have l7 : w1.heap.size ≤ b7 := by omega
  have HA3 := Lib.hid (HA.out.below b3 (Nat.le_refl _))
  have HB3 := Lib.hid (HB1.out.trans (b3.mono hz1))
  have hz3 : w1.heap.size ≤ w3.heap.size := b3.size
  have HBO : Hid (Both N w3 (fun j => N ≤ j ∧ j < w1.heap.size) g m 1 ⟨[], [], []⟩ none 0 none 0 none 0) :=
    ⟨HA3.out, Spa.start _, fun j hj => ⟨hj.1, by omega⟩, (fun a ha => by cases ha), (fun a ha => by cases ha), (fun a ha => by cases ha)⟩
  clear b3 hb HRN
  go_wp2_with fail
  rw [← hw3, ← hb7]
  clear hw3 hb7
  go_loopw [5, 41] (fun av i wr => ∃ (k g : Nat) (F : Nat → Prop) (s : St) (X Y Z : Option Addr) (c d e : Nat), k ≤ l.length ∧ av = .pointer (some ⟨g, 0, none⟩) ∧ i = .int .i64 (k : Int) ∧ Both N wr F g m (1 + k) s X c Y d Z e ∧ Blk wr b7 #[.int .i64 (m : Int), .slice X s.gens.length c, .slice Y s.tk.length d, .slice Z s.fr.length e] 31 ∧ ¬ F b7 ∧ (∀ a, X = some a → a.block ≠ b7) ∧ (∀ a, Y = some a → a.block ≠ b7) ∧ (∀ a, Z = some a → a.block ≠ b7) ∧ Below N W wr ∧ N ≤ wr.heap.size) (fun _ i _ => l.length - (intOf i).toNat)
  case atStart => exact ⟨0, g, _, _, none, none, none, 0, 0, 0, Nat.zero_le _, rfl, rfl, HBO.out, P7.out, fun hf => by omega, (fun a ha => by cases ha), (fun a ha => by cases ha), (fun a ha => by cases ha), HB3.out, by omega⟩
  case round =>
    obtain ⟨k, g, F, s, X, Y, Z, c, d, e, hk, rfl, rfl, hbo, h7, hF7, hX7, hY7, hZ7, hbl, hNr⟩ := hrel
    have BO := Lib.hid hbo; have K7 := Lib.hid h7; have KF := Lib.hid hF7; have KX := Lib.hid hX7; have KY := Lib.hid hY7; have KZ := Lib.hid hZ7; have BL := Lib.hid hbl
    clear hbo h7 hF7 hX7 hY7 hZ7 hbl
    by_cases hlt : k < l.length
    · have j1 : (k : Int) < (l.length : Int) := by omega
      obtain ⟨f0, f1, f2⟩ := acL_get l k hlt
      have RD := HD.out.rd.below BL.out (by have := HN.out; omega)
      obtain ⟨tb, to_, rfl, ltb, a0⟩ := RD.at_ f0
      obtain ⟨tb', to', e1, _, a1⟩ := RD.at_ f1
      injection e1 with e1; injection e1 with e11 e12; subst e11; subst e12
      obtain ⟨tb', to', e1, _, a2⟩ := RD.at_ f2
      injection e1 with e1; injection e1 with e11 e12; subst e11; subst e12
      rw [← Nat.add_assoc] at a1 a2
      obtain ⟨⟨xa, xn, xg⟩, hx⟩ : ∃ x, x = l[k] := ⟨_, rfl⟩
      rw [← hx] at a0 a1 a2
      simp only at a0 a1 a2
      obtain ⟨v0, hv0⟩ : ∃ v0, v0 = wr.alloc (.cells #[.int .i64 xa, .int .i64 xn, .int .i64 xg] 37) := ⟨_, rfl⟩
      obtain ⟨b10, hb10⟩ : ∃ b10, b10 = wr.heap.size := ⟨_, rfl⟩
      have b0 : Below wr.heap.size wr v0 := by rw [hv0]; exact bnew _ _
      have P10 : Hid (Blk v0 b10 #[.int .i64 xa, .int .i64 xn, .int .i64 xg] 37) := by show Blk _ _ _ _; rw [hv0, hb10]; exact Blk.new _ _ _
      have J7 := Lib.hid (K7.out.below b0 K7.out.lt)
      have BO0 := Lib.hid (BO.out.below b0 (Nat.le_refl _))
      have BL0 := Lib.hid (BL.out.trans (b0.mono hNr))
      have lz0 : wr.heap.size < v0.heap.size := by rw [hv0]; simp
      have l10 : b10 < v0.heap.size := P10.out.lt
      have l77 : b7 < v0.heap.size := J7.out.lt
      have l7r : b7 < wr.heap.size := K7.out.lt
      have DO := Lib.hid (do_any BO0.out (by omega) (by omega) (by omega) xa xn xg)
      unfold doPost at DO
      clear f0 f1 f2 RD hx b0
      go_upto_region 12 with (fail)
      rw [← hv0, ← hb10]
      clear hv0 hb10 a0 a1 a2
      obtain ⟨y0, y1, y2, _⟩ := P10.out.three
      obtain ⟨x0, x1, x2, x3, xf0, xf1, xf2, xf3⟩ := J7.out.four
      go_wp2_with fail
      obtain ⟨s1, hs1⟩ : ∃ s1, s1 = actS m s xa xn xg := ⟨_, rfl⟩
      rw [← hs1] at DO
      clear hs1
      refine DO.out.mono ?_
      rintro r v1 ⟨g', F', X', c', Y', d', Z', e', rfl, hbo, ho, fx, fy, fz, hF'⟩
      have BO1 := Lib.hid hbo; have O1 := Lib.hid ho; have FX := Lib.hid fx; have FY := Lib.hid fy; have FZ := Lib.hid fz; have FF := Lib.hid hF'
      have I7 := Lib.hid (J7.out.only ho KF.out)
      have lz1 : v0.heap.size ≤ v1.heap.size := ho.size
      have BL1 : Hid (Below N W v1) := BL0.out.trans (ho.below (fun j hj => (BO0.out.fl j hj).1) (by omega))
      clear hbo ho fx fy fz hF' DO x0 x1 x2 x3 xf0 xf1 xf2 xf3 y0 y1 y2
      obtain ⟨x0, x1, x2, x3, xf0, xf1, xf2, xf3⟩ := I7.out.four
      have l77' : b7 < v1.heap.size := I7.out.lt
      go_upto_region 14 with (fail)
      obtain ⟨v2, hv2⟩ : ∃ v2, v2 = (((v1.setCell ⟨b7, 0, none⟩ (.int .i64 (m : Int))).setCell ⟨b7, 1, none⟩ (.slice X' s1.gens.length c')).setCell ⟨b7, 2, none⟩ (.slice Y' s1.tk.length d')).setCell ⟨b7, 3, none⟩ (.slice Z' s1.fr.length e') := ⟨_, rfl⟩
      have O2 : Only (fun j => j = b7) v1 v2 := by rw [hv2]; exact four_only _ _ _ _
      have H7 : Hid (Blk v2 b7 #[.int .i64 (m : Int), .slice X' s1.gens.length c', .slice Y' s1.tk.length d', .slice Z' s1.fr.length e'] 31) := by
        have h1 := (((I7.out.set 0 (.int .i64 (m : Int))).set 1 (.slice X' s1.gens.length c')).set 2 (.slice Y' s1.tk.length d')).set 3 (.slice Z' s1.fr.length e')
        show Blk _ _ _ _
        rw [hv2]; exact h1
      have NF : Hid (¬ F' b7) := fun hf => by rcases FF.out _ hf with h | h; exact KF.out h; omega
      have NX : Hid (∀ a, X' = some a → a.block ≠ b7) := fun a ha => by rcases FX.out a ha with h | h; exact KX.out a h; omega
      have NY : Hid (∀ a, Y' = some a → a.block ≠ b7) := fun a ha => by rcases FY.out a ha with h | h; exact KY.out a h; omega
      have NZ : Hid (∀ a, Z' = some a → a.block ≠ b7) := fun a ha => by rcases FZ.out a ha with h | h; exact KZ.out a h; omega
      have BO2 := Lib.hid (BO1.out.only O2 (fun j e hf => NF.out (by rw [← e]; exact hf)) NX.out NY.out NZ.out)
      have BL2 : Hid (Below N W v2) := BL1.out.trans (O2.below (fun j e => by omega) (by omega))
      have lz2 : v1.heap.size ≤ v2.heap.size := O2.size
      rw [← hv2]
      clear hv2 O2 x0 x1 x2 x3 xf0 xf1 xf2 xf3
      obtain ⟨x0, x1, x2, x3, xf0, xf1, xf2, xf3⟩ := H7.out.four
      have LK := Lib.hid (looks_true BO2.out.are (by omega) BO2.out.spa)
      unfold boolTo at LK
      go_wp2_with fail
      refine LK.out.mono ?_
      rintro r v3 ⟨rfl, hb⟩
      have H73 := Lib.hid (H7.out.below hb H7.out.lt)
      have BO3 := Lib.hid (BO2.out.below hb (Nat.le_refl _))
      have BL3 := Lib.hid (BL2.out.trans (hb.mono (by omega)))
      have lz3 : v2.heap.size ≤ v3.heap.size := hb.size
      clear hb LK x0 x1 x2 x3 xf0 xf1 xf2 xf3
      go_wp2_with fail
      go_roundw
      case rel => exact ⟨k + 1, g', F', s1, X', Y', Z', c', d', e', by omega, rfl, by go_num, by rw [← Nat.add_assoc]; exact BO3.out, H73.out, NF.out, NX.out, NY.out, NZ.out, BL3.out, by omega⟩
      case measure => simp [intOf]; omega
    · obtain rfl : k = l.length := by omega
      have hnn : ¬ (l.length : Int) < l.length := by omega
      go_wp2_with fail
      refine (HK.out _).mono ?_
      rintro r v ⟨rfl, hbk⟩
      have HBK := Lib.hid hbk
      clear hbk
      go_wp2_with fail
      go_ret
      exact ⟨rfl, BL.out.trans (HBK.out.mono hNr)⟩
end Go.Proofs.Ytighehonkookhaa.Nu
