/- Proves that the law KeyHolds returns true at every input. Conditions: the library's variable and the table of digits are laid; the form's own bounds. -/
import Derived.Test.YtjieiakgikhofaaDoorLfold
import Derived.Test.YtjieiakgikhofaaDoorLtags
namespace Go.Proofs.YtjieiakgikhofaaDoor.Lholds
open Go.RowKit Km Kt Kv Kl Kc Ap Kx Ky Kr Ks Kf Kg Kj Ku Kz Ka Kk Lnames Ltags Lfold

set_option maxRecDepth 100000 in
set_option maxHeartbeats 4000000 in
theorem holds_walk (s t : ByteArray) (A : Option Addr) (c : Nat) (l : List Bs) (w : World) (he : Env w) (hs : s.size ≤ maxLen) (ht : t.size ≤ maxLen) (hA : Rd w A l) (_ : l.length ≤ c) (_ : c ≤ maxLen) (_ : A = none → c = 0) (_ : ∀ x ∈ l, x.length ≤ 140737488351232) :
    Calls Tryd.prog 9 #[.string s, .string t, .slice A l.length c] w (lawPost w) := by
  have HS := Lib.hid hs
  have HT := Lib.hid ht
  unfold maxLen at hs ht
  by_cases h1 : 300 < s.size
  · have i1 : (300 : Int) < s.size := by omega
    go_enter Tryd.func9, Tryd.ntmps9
    go_wp2_with fail
    refine (known_true w _ he (After.of (Below.refl _ _))).mono ?_
    rintro e w3 ⟨rfl, hb3⟩
    go_wp2_with fail
    go_ret
    exact ⟨rfl, hb3⟩
  by_cases h2 : 300 < t.size
  · have i1 : (300 : Int) < t.size := by omega
    have i2 : ¬ (300 : Int) < s.size := by omega
    go_enter Tryd.func9, Tryd.ntmps9
    go_wp2_with fail
    refine (known_true w _ he (After.of (Below.refl _ _))).mono ?_
    rintro e w3 ⟨rfl, hb3⟩
    go_wp2_with fail
    go_ret
    exact ⟨rfl, hb3⟩
  by_cases h3 : 40 < l.length
  · have i1 : (40 : Int) < l.length := by omega
    have i2 : ¬ (300 : Int) < s.size := by omega
    have i3 : ¬ (300 : Int) < t.size := by omega
    go_enter Tryd.func9, Tryd.ntmps9
    go_wp2_with fail
    refine (known_true w _ he (After.of (Below.refl _ _))).mono ?_
    rintro e w3 ⟨rfl, hb3⟩
    go_wp2_with fail
    go_ret
    exact ⟨rfl, hb3⟩
  have i1 : ¬ (40 : Int) < l.length := by omega
  have i2 : ¬ (300 : Int) < s.size := by omega
  have i3 : ¬ (300 : Int) < t.size := by omega
  rcases (show validS s = true ∨ s.size = 0 ∨ 250 < s.size from by unfold validS validL; rw [decide_eq_true_eq, len_eq]; omega) with hv | h0 | h250
  case' inl =>
    have HV := Lib.hid hv
    obtain ⟨L, hL⟩ : ∃ L, segs s.data.toList = L := ⟨_, rfl⟩
    obtain ⟨F, hF⟩ : ∃ F, foldersL s.data.toList = F := ⟨_, rfl⟩
    obtain ⟨n, hn⟩ : ∃ n, F.length = n := ⟨_, rfl⟩
    have hz : 1 ≤ s.size ∧ s.size ≤ 250 := by unfold validS validL at hv; rw [decide_eq_true_eq, len_eq] at hv; exact hv
    have hln : L.length = n + 1 := by have := folders_len s.data.toList; rw [hL, hF] at this; omega
    have hn250 : n ≤ 250 := by have := folds_count s.data.toList; rw [hF, len_eq] at this; omega
    have HSeg : Hid (segsR s = L ∧ argE s = 0) := by show _ ∧ _; unfold segsR argE; rw [if_pos hv, if_pos hv]; exact ⟨hL, rfl⟩
    have HFol : Hid (foldsR s = F) := by show _ = _; unfold foldsR; rw [if_pos hv]; exact hF
    have HL := Lib.hid hL
    have HF := Lib.hid hF
    have HN := Lib.hid hn
    have HLN := Lib.hid hln
    clear hL hF hn hln hv
    go_enter Tryd.func9, Tryd.ntmps9
    go_wp2_with fail
    refine (valid_at s true _ HS.out HV.out).mono ?_
    rintro e w1 ⟨rfl, rfl⟩
    go_wp2_with fail
    refine (segments_at s L (n + 1) 0 _ he HS.out HSeg.out.1 HLN.out HSeg.out.2).mono ?_
    rintro e w1 ⟨A1, c1, rfl, hc1, r1, a1⟩
    have A1' := Lib.hid a1; clear a1
    have R1 := Lib.hid r1; clear r1
    go_wp2_with fail
    refine (join_back s A1 (n + 1) c1 L _ (env_after he A1'.out) HV.out HL.out HLN.out R1.out hc1).mono ?_
    rintro e w2 ⟨rfl, a2⟩
    have A2' := Lib.hid (A1'.out.trans a2); clear a2
    go_wp2_with fail
    refine (folders_at s F n 0 _ HS.out HFol.out HN.out HSeg.out.2).mono ?_
    rintro e w3 ⟨A3, c3, rfl, hc3, r3, a3⟩
    have A3' := Lib.hid (A2'.out.trans a3); clear a3
    have R3 := Lib.hid r3; clear r3
    go_wp2_with fail
    go_loopw [13, 14, 83] (fun _ _ i wr => ∃ k : Nat, k ≤ n ∧ i = .int .i64 k ∧ (∃ m, wr = w3.drewN m)) (fun _ _ i _ => n - (intOf i).toNat)
    case atStart => exact ⟨0, Nat.zero_le _, rfl, ⟨0, rfl⟩⟩
    case' round =>
      obtain ⟨k, hk, rfl, ⟨nw, rfl⟩⟩ := hrel
      by_cases hlt : k < n
      · have hkF : k < F.length := by rw [HN.out]; exact hlt
        have i4 : (k : Int) < n := by omega
        obtain ⟨b1, o1, rfl, hb1, hcell⟩ := R3.out.at_ hkF
        have hh := fold_has s (k := k) (by rw [HF.out]; exact hkF)
        have hlen := fold_len s.data.toList (k := k) (by rw [HF.out]; exact hkF)
        have hlast := fold_last s.data.toList (k := k) (by rw [HF.out]; exact hkF)
        have hprev := fold_prev s.data.toList (k := k) (by rw [HF.out]; exact hkF)
        simp only [HF.out, len_eq] at hh hlen hlast hprev
        obtain ⟨p, hp⟩ : ∃ p, F[k] = p := ⟨_, rfl⟩
        rw [hp] at hcell
        simp only [hp] at hh hlen hlast hprev
        have HH := Lib.hid hh
        have HPV := Lib.hid hprev
        have HLA := Lib.hid hlast
        have i6 : 1 ≤ (p.length : Int) := by omega
        have i7 : (p.length : Int) ≤ 250 := by omega
        have hidx : p.length - 1 < (⟨p.toArray⟩ : ByteArray).size := by show _ < p.toArray.size; simp; omega
        have hbe : ((((⟨p.toArray⟩ : ByteArray)[p.length - 1]'hidx).toNat : Int) != 47) = false := by
          have h47 : (⟨p.toArray⟩ : ByteArray)[p.length - 1]'hidx = 47 := by
            rw [List.getElem?_eq_getElem (by omega)] at hlast
            exact Option.some.inj hlast
          rw [h47]; rfl
        clear hh hprev hlast hp
        go_wp2_with fail
        refine (has_at s ⟨p.toArray⟩ true _ HH.out).mono ?_
        rintro e w4 ⟨rfl, rfl⟩
        by_cases hk0 : k = 0
        · have i5 : ¬ (0 : Int) < k := by omega
          go_wp2_with fail
          go_roundw
          case rel => exact ⟨k + 1, by omega, by go_num, ⟨_, rfl⟩⟩
          case measure => simp [intOf]; omega
        · have i5 : (0 : Int) < k := by omega
          obtain ⟨b2, o2, e2, _, hc2⟩ := R3.out.at_ (k := k - 1) (by omega)
          simp only [Option.some.injEq, Addr.mk.injEq, and_true] at e2
          obtain ⟨rfl, rfl⟩ := e2
          obtain ⟨q, hq⟩ : ∃ q, F[k - 1] = q := ⟨_, rfl⟩
          rw [hq] at hc2
          have HQ : Hid (hasS ⟨p.toArray⟩ ⟨q.toArray⟩ = true) := by have := HPV.out (by omega); rw [hq] at this; exact this
          clear hq
          go_wp2_with fail
          refine (has_at ⟨p.toArray⟩ ⟨q.toArray⟩ true _ HQ.out).mono ?_
          rintro e w4 ⟨rfl, rfl⟩
          go_wp2_with fail
          go_roundw
          case rel => exact ⟨k + 1, by omega, by go_num, ⟨_, rfl⟩⟩
          case measure => simp [intOf]; omega
      obtain rfl : k = n := by omega
      have hnn : ¬ (k : Int) < k := by omega
      have AA0 : Hid (After w (w3.drewN nw)) := A3'.out.trans (After.drewN _ _)
      have hz2 := hz.2
      clear hlt hnn
      go_wp2_with fail
      refine (text_at s (textL s.data.toList) _ (env_after he AA0.out) hz2 rfl).mono ?_
      rintro e w4 ⟨rfl, a4⟩
      have AA1 := Lib.hid (AA0.out.trans a4); clear a4
      go_wp2_with fail
      refine (parses_back s _ (env_after he AA1.out) hz2).mono ?_
      rintro e W ⟨rfl, a5⟩
      have AA := Lib.hid (AA1.out.trans a5)
      clear a5 hz hz2 hk hn250 HV HSeg HFol HL HF HN HLN R1 R3 A1' A2' A3'
      go_wp2_with fail
  case' inr.inl =>
    have HV : Hid (validS s = false) := by show _ = _; unfold validS validL; rw [decide_eq_false_iff_not, len_eq]; omega
    have hz2 : s.size ≤ 250 := by omega
    go_enter Tryd.func9, Tryd.ntmps9
    go_wp2_with fail
    refine (valid_at s false _ HS.out HV.out).mono ?_
    rintro e w1 ⟨rfl, rfl⟩
    go_wp2_with fail
    refine (text_at s (textL s.data.toList) _ he hz2 rfl).mono ?_
    rintro e w4 ⟨rfl, a4⟩
    have AA1 := Lib.hid a4; clear a4
    go_wp2_with fail
    refine (parses_back s _ (env_after he AA1.out) hz2).mono ?_
    rintro e W ⟨rfl, a5⟩
    have AA := Lib.hid (AA1.out.trans a5)
    clear a5 hz2 HV
    go_wp2_with fail
  case' inr.inr =>
    have HV : Hid (validS s = false) := by show _ = _; unfold validS validL; rw [decide_eq_false_iff_not, len_eq]; omega
    go_enter Tryd.func9, Tryd.ntmps9
    go_wp2_with fail
    refine (valid_at s false _ HS.out HV.out).mono ?_
    rintro e w1 ⟨rfl, rfl⟩
    go_wp2_with fail
    refine (text_long s _ he HS.out h250).mono ?_
    rintro e W ⟨rfl, a4⟩
    have AA := Lib.hid a4
    clear a4 HV
    go_wp2_with fail
  all_goals
    rcases parse_cases t with ⟨hr, hq⟩ | ⟨y, hr, hq, hty, hyl⟩
    case' inl =>
      refine (parse_at t [] 6 _ (env_after he AA.out) HT.out hr hq).mono ?_
      rintro e wP ⟨rfl, aP⟩
      have AP := Lib.hid (AA.out.trans aP)
      clear aP AA hr hq
      go_wp2_with fail
    case' inr =>
      refine (parse_at t y 0 _ (env_after he AA.out) HT.out hr hq).mono ?_
      rintro e wQ ⟨rfl, aQ⟩
      have AQ := Lib.hid (AA.out.trans aQ)
      clear aQ AA hr hq
      go_wp2_with fail
      refine (text_back y t _ (env_after he AQ.out) hyl hty).mono ?_
      rintro e wP ⟨rfl, aP⟩
      have AP := Lib.hid (AQ.out.trans aP)
      clear aP AQ hty hyl
      go_wp2_with fail
    all_goals
      have RA := Lib.hid (AP.out.rd _ _ hA)
      go_loop [22, 149] (fun _ i => ∃ k : Nat, k ≤ l.length ∧ i = .int .i64 k ∧ ∀ x ∈ l.take k, x.length ≤ 100) (fun _ i => l.length - (intOf i).toNat)
      case atStart => exact ⟨0, Nat.zero_le _, rfl, by simp⟩
      case round =>
        obtain ⟨k, hk, rfl, hsm⟩ := hrel
        have HSM := Lib.hid hsm; clear hsm
        by_cases hlt : k < l.length
        · obtain ⟨b1, o1, rfl, hb1, hc1⟩ := RA.out.at_ hlt
          have i5 : (k : Int) < l.length := by omega
          by_cases h100 : 100 < l[k].length
          · have i6 : (100 : Int) < l[k].length := by omega
            go_wp2_with fail
            refine (known_true w _ he AP.out).mono ?_
            rintro e w9 ⟨rfl, hb9⟩
            go_wp2_with fail
            go_ret
            exact ⟨rfl, hb9⟩
          · have i6 : ¬ (100 : Int) < l[k].length := by omega
            have HSM' := Lib.hid (small_next hlt HSM.out (by omega))
            go_wp2_with fail
            go_round
            case rel => exact ⟨k + 1, by omega, by go_num, HSM'.out⟩
            case measure => simp [intOf]; omega
        · obtain rfl : k = l.length := by omega
          have hnn : ¬ (l.length : Int) < l.length := by omega
          have hx := HSM.out
          rw [List.take_length] at hx
          have HX : Hid (∀ x ∈ l, x.length ≤ 1000000) := fun x h => by have := hx x h; omega
          clear hx HSM
          obtain ⟨m, hm⟩ : ∃ m, tagsV l = m := ⟨_, rfl⟩
          obtain ⟨e0, he0⟩ : ∃ e0, tagsE l = e0 := ⟨_, rfl⟩
          obtain ⟨n, hmn⟩ : ∃ n, m.length = n := ⟨_, rfl⟩
          have hn16 : n ≤ 16 := by rw [← hmn, ← hm]; exact tags_len l
          have HMX : Hid (∀ x ∈ m, x.length ≤ 1000000) := by rw [← hm]; exact tagsV_mem HX.out
          have HM := Lib.hid hm
          have HN := Lib.hid hmn
          by_cases h00 : e0 = 0
          · subst h00
            have HE := Lib.hid he0
            have HAG : Hid (tagsE m = 0 ∧ tagsV m = m) := by have := tags_again l he0; rw [hm] at this; exact this
            clear hm he0 hmn
            go_wp2_with fail
            refine (tags_at A l.length c l m n 0 _ rfl RA.out (by omega) HX.out HM.out HN.out HE.out).mono ?_
            rintro e w6 ⟨A6, c6, rfl, hc6, r6, a6⟩
            have R6 := Lib.hid r6
            have B6 := Lib.hid (AP.out.trans a6)
            clear r6 a6
            go_wp2_with fail
            refine (tags_at A6 n c6 m m n 0 _ HN.out R6.out (by rw [HN.out]; omega) HMX.out HAG.out.2 HN.out HAG.out.1).mono ?_
            rintro e w7 ⟨A7, c7, rfl, hc7, r7, a7⟩
            have R7 := Lib.hid r7
            have R67 := Lib.hid (a7.rd _ _ R6.out)
            have B7 := Lib.hid (B6.out.trans a7)
            clear r7 a7
            go_wp2_with fail
            refine (list_true A7 A6 n n c7 c6 m m 0 0 _ HN.out HN.out R7.out R67.out (by rw [HN.out]; omega) rfl rfl).mono ?_
            rintro e w8 ⟨rfl, a8⟩
            have B8 := Lib.hid (B7.out.trans a8)
            clear a8
            go_wp2_with fail
            refine (known_true w _ he B8.out).mono ?_
            rintro e w9 ⟨rfl, hb9⟩
            go_wp2_with fail
            go_ret
            exact ⟨rfl, hb9⟩
          · have HE := Lib.hid he0
            have hb0 : (e0 == 0) = false := by simpa using h00
            clear hm he0 hmn
            go_wp2_with fail
            refine (tags_at A l.length c l m n e0 _ rfl RA.out (by omega) HX.out HM.out HN.out HE.out).mono ?_
            rintro e w6 ⟨A6, c6, rfl, hc6, r6, a6⟩
            have B6 := Lib.hid (AP.out.trans a6)
            clear r6 a6
            go_wp2_with fail
            refine (known_true w _ he B6.out).mono ?_
            rintro e w9 ⟨rfl, hb9⟩
            go_wp2_with fail
            go_ret
            exact ⟨rfl, hb9⟩
end Go.Proofs.YtjieiakgikhofaaDoor.Lholds
