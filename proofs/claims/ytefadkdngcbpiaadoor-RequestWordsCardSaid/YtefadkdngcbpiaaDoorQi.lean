/- Proves that the law RequestWords returns true. Condition: the table is laid. -/
import Derived.Test.YtefadkdngcbpiaaDoorQl
namespace Go.Proofs.YtefadkdngcbpiaaDoor.Qi
open Go.RowKit Vm Ap Vw Va Gc Mi Mb Qm Qs Qe Qo Ql

theorem find_at (l : Bs) : ∀ (n k m : Nat), k ≤ m → m < k + n → wordL m = l → (∀ j, k ≤ j → j < m → wordL j ≠ l) → findW l n k = (m : Int) + 1
  | 0, k, m, h1, h2, _, _ => by omega
  | n + 1, k, m, h1, h2, h3, h4 => by
    unfold findW
    by_cases h : k = m
    · subst h; rw [if_pos h3]
    · rw [if_neg (h4 k (Nat.le_refl _) (by omega))]
      exact find_at l n (k + 1) m (by omega) (by omega) h3 (fun j hj hm => h4 j (by omega) hm)
theorem find_none (l : Bs) : ∀ (n k : Nat), (∀ j, k ≤ j → j < k + n → wordL j ≠ l) → findW l n k = 0
  | 0, k, _ => rfl
  | n + 1, k, h => by
    unfold findW
    rw [if_neg (h k (Nat.le_refl _) (by omega))]
    exact find_none l n (k + 1) (fun j hj hm => h j (by omega) (by omega))
theorem words_len : wordsL.length = 16 := rfl
theorem words_at {w : World} {b k : Nat} (h : Rd w (some ⟨b, 0, none⟩) wordsL) (hk : k < 15) : w.cell? ⟨b, k + 1, none⟩ = some (.string ⟨(wordL k).toArray⟩) := by
  obtain ⟨b', o', e, _, hc⟩ := h.at_ (k := k + 1) (by rw [words_len]; omega)
  simp only [Option.some.injEq, Addr.mk.injEq, and_true] at e
  obtain ⟨rfl, rfl⟩ := e
  rw [Nat.zero_add] at hc
  have e1 : wordsL[k + 1]'(by rw [words_len]; omega) = wordL k := by
    have := words_get k hk
    rw [List.getElem?_eq_getElem (by rw [words_len]; omega)] at this
    exact Option.some.inj this
  rw [hc, e1]

set_option maxRecDepth 100000 in
set_option maxHeartbeats 8000000 in
theorem words_walk (op : Int) (l : Bs) (w : World) (he : Env w) (o1 : -9223372036854775808 ≤ op) (o2 : op ≤ 9223372036854775807) (hl : l.length ≤ 9223372036854775807) :
    Calls Tryd.prog 4 #[.int .i64 op, .string ⟨l.toArray⟩] w (boolOf true w) := by
  have HE := Lib.hid (fun W (h : Below w.heap.size w W) => he.below h (Nat.le_refl _))
  have HB0 : Hid (Below w.heap.size w w) := Below.refl _ _
  have HK := Lib.hid (fun W (h : Below w.heap.size w W) => known_any W (HE.out _ h))
  clear he
  by_cases h40 : 40 < l.length
  · have hi : (40 : Int) < l.length := by omega
    go_enter Tryd.func4, Tryd.ntmps4
    go_wp2_with fail
    refine (HK.out _ HB0.out).mono ?_
    rintro e w1 ⟨rfl, b1⟩
    have HB1 := Lib.hid b1
    clear b1
    go_wp2_with fail
    go_ret
    exact ⟨rfl, HB1.out⟩
  · have hi : ¬ (40 : Int) < l.length := by omega
    clear h40
    have HWD := Lib.hid (word_any op w (HE.out _ HB0.out))
    by_cases hin : inOp op = true
    · obtain ⟨k, hk, eop, ek⟩ := in_cases hin
      have HWR : Hid (wordR op = .tuple #[.string ⟨(wordL k).toArray⟩, .int .i64 0]) := by show _ = _; unfold wordR; rw [if_pos hin, ek]; rfl
      have o3 : ¬ op < 1 := by omega
      have o4 : ¬ 15 < op := by omega
      have d3 : decide (op < 1) = false := by simp; omega
      have d4 : decide (15 < op) = false := by simp; omega
      have EOP := Lib.hid eop
      rw [eop] at HWD HWR o3 o4 d3 d4 ⊢
      have hk1 : (k : Int) + 1 < 16 := by omega
      clear hin ek eop
      go_enter Tryd.func4, Tryd.ntmps4
      go_wp2_with fail
      refine HWD.out.mono ?_
      rintro e wx ⟨rfl, rfl⟩
      rw [HWR.out]
      go_wp2_with fail
      refine (words_any _).mono ?_
      rintro e w1 ⟨b, rfl, hrd, b1⟩
      have HB1 := Lib.hid b1
      have HRD := Lib.hid hrd
      have hcell := words_at hrd hk
      clear b1 hrd
      go_wp2_with fail
      have HOP := Lib.hid (op_any l _ (HE.out _ HB1.out))
      obtain ⟨N, hN⟩ : ∃ N, N = opN l := ⟨_, rfl⟩
      obtain ⟨E, hE⟩ : ∃ E, E = opE l := ⟨_, rfl⟩
      unfold opPost at HOP
      rw [← hN, ← hE] at HOP
      have HN := Lib.hid hN
      have HEE := Lib.hid hE
      clear hN hE
      refine HOP.out.mono ?_
      rintro e w2 ⟨rfl, b2⟩
      have HB2 := Lib.hid (HB1.out.trans (b2.mono HB1.out.size))
      have HRD2 := Lib.hid (HRD.out.below b2 (Nat.le_refl _))
      clear b2
      go_wp2_with fail
      go_loop [10] (fun i => ∃ m : Nat, m ≤ 15 ∧ i = .int .i64 ((m : Int) + 1) ∧ ∀ j, j < m → wordL j ≠ l) (fun i => 16 - (intOf i).toNat)
      case atStart => exact ⟨0, Nat.zero_le _, rfl, fun j h => by omega⟩
      case round =>
        obtain ⟨m, hm, rfl, hno⟩ := hrel
        have HNO := Lib.hid hno
        clear hno
        by_cases hlt : m < 15
        · have hcm := words_at HRD2.out hlt
          have m1 : (m : Int) + 1 < 16 := by omega
          by_cases hq : wordL m = l
          · have e1 : opN l = (m : Int) + 1 := find_at l 15 0 m (Nat.zero_le _) (by omega) hq (fun j _ hj => HNO.out j hj)
            have q1 : ((N : Int) == (m : Int) + 1) = true := by rw [HN.out, e1]; simp
            have q2 : ((E : Int) == 0) = true := by rw [HEE.out]; unfold opE; rw [e1, if_neg (by omega)]; rfl
            have hb : (wordL m == l) = true := by simpa using hq
            clear hq e1
            generalize wordL m = x at *
            go_wp2_with fail
            refine (HK.out _ HB2.out).mono ?_
            rintro e w3 ⟨rfl, b3⟩
            have HB3 := Lib.hid (HB2.out.trans (b3.mono HB2.out.size))
            clear b3
            go_wp2_with fail
            go_ret
            exact ⟨rfl, HB3.out⟩
          · have hb : (wordL m == l) = false := by simpa using hq
            have HQ := Lib.hid hq
            clear hq
            obtain ⟨x, hx⟩ : ∃ x, x = wordL m := ⟨_, rfl⟩
            rw [← hx] at hb hcm
            have HX := Lib.hid hx
            clear hx
            go_wp2_with fail
            go_round
            case rel => exact ⟨m + 1, by omega, by go_num, fun j hj => by
              rcases Nat.lt_or_ge j m with h | h
              · exact HNO.out j h
              · rw [show j = m from by omega]; exact HQ.out⟩
            case measure => simp [intOf]; omega
        · obtain rfl : m = 15 := by omega
          have e1 : opN l = 0 := find_none l 15 0 (fun j _ hj => HNO.out j (by omega))
          have q1 : ((N : Int) == 0) = true := by rw [HN.out, e1]; rfl
          have q2 : ((E : Int) == 6) = true := by rw [HEE.out]; unfold opE; rw [e1, if_pos rfl]; rfl
          clear e1
          go_wp2_with fail
          refine (HK.out _ HB2.out).mono ?_
          rintro e w3 ⟨rfl, b3⟩
          have HB3 := Lib.hid (HB2.out.trans (b3.mono HB2.out.size))
          clear b3
          go_wp2_with fail
          go_ret
          exact ⟨rfl, HB3.out⟩
    · have HWR : Hid (wordR op = .tuple #[.string ⟨#[]⟩, .int .i64 2]) := by show _ = _; unfold wordR; rw [if_neg hin]
      have hx : op < 1 ∨ 15 < op := by
        unfold inOp at hin
        simp only [Bool.and_eq_true, decide_eq_true_eq] at hin
        omega
      clear hin
      by_cases o3 : op < 1
      · have d3 : decide (op < 1) = true := by simpa using o3
        clear hx
        go_enter Tryd.func4, Tryd.ntmps4
        go_wp2_with fail
        refine HWD.out.mono ?_
        rintro e wx ⟨rfl, rfl⟩
        rw [HWR.out]
        go_wp2_with fail
        refine (words_any _).mono ?_
        rintro e w1 ⟨b, rfl, hrd, b1⟩
        have HB1 := Lib.hid b1
        have HRD := Lib.hid hrd
        clear b1 hrd
        go_wp2_with fail
        have HOP := Lib.hid (op_any l _ (HE.out _ HB1.out))
        obtain ⟨N, hN⟩ : ∃ N, N = opN l := ⟨_, rfl⟩
        obtain ⟨E, hE⟩ : ∃ E, E = opE l := ⟨_, rfl⟩
        unfold opPost at HOP
        rw [← hN, ← hE] at HOP
        have HN := Lib.hid hN
        have HEE := Lib.hid hE
        clear hN hE
        refine HOP.out.mono ?_
        rintro e w2 ⟨rfl, b2⟩
        have HB2 := Lib.hid (HB1.out.trans (b2.mono HB1.out.size))
        have HRD2 := Lib.hid (HRD.out.below b2 (Nat.le_refl _))
        clear b2
        go_wp2_with fail
        go_loop [10] (fun i => ∃ m : Nat, m ≤ 15 ∧ i = .int .i64 ((m : Int) + 1) ∧ ∀ j, j < m → wordL j ≠ l) (fun i => 16 - (intOf i).toNat)
        case atStart => exact ⟨0, Nat.zero_le _, rfl, fun j h => by omega⟩
        case round =>
          obtain ⟨m, hm, rfl, hno⟩ := hrel
          have HNO := Lib.hid hno
          clear hno
          by_cases hlt : m < 15
          · have hcm := words_at HRD2.out hlt
            have m1 : (m : Int) + 1 < 16 := by omega
            by_cases hq : wordL m = l
            · have e1 : opN l = (m : Int) + 1 := find_at l 15 0 m (Nat.zero_le _) (by omega) hq (fun j _ hj => HNO.out j hj)
              have q1 : ((N : Int) == (m : Int) + 1) = true := by rw [HN.out, e1]; simp
              have q2 : ((E : Int) == 0) = true := by rw [HEE.out]; unfold opE; rw [e1, if_neg (by omega)]; rfl
              have hb : (wordL m == l) = true := by simpa using hq
              clear hq e1
              generalize wordL m = x at *
              go_wp2_with fail
              refine (HK.out _ HB2.out).mono ?_
              rintro e w3 ⟨rfl, b3⟩
              have HB3 := Lib.hid (HB2.out.trans (b3.mono HB2.out.size))
              clear b3
              go_wp2_with fail
              go_ret
              exact ⟨rfl, HB3.out⟩
            · have hb : (wordL m == l) = false := by simpa using hq
              have HQ := Lib.hid hq
              clear hq
              obtain ⟨x, hx⟩ : ∃ x, x = wordL m := ⟨_, rfl⟩
              rw [← hx] at hb hcm
              have HX := Lib.hid hx
              clear hx
              go_wp2_with fail
              go_round
              case rel => exact ⟨m + 1, by omega, by go_num, fun j hj => by
                rcases Nat.lt_or_ge j m with h | h
                · exact HNO.out j h
                · rw [show j = m from by omega]; exact HQ.out⟩
              case measure => simp [intOf]; omega
          · obtain rfl : m = 15 := by omega
            have e1 : opN l = 0 := find_none l 15 0 (fun j _ hj => HNO.out j (by omega))
            have q1 : ((N : Int) == 0) = true := by rw [HN.out, e1]; rfl
            have q2 : ((E : Int) == 6) = true := by rw [HEE.out]; unfold opE; rw [e1, if_pos rfl]; rfl
            clear e1
            go_wp2_with fail
            refine (HK.out _ HB2.out).mono ?_
            rintro e w3 ⟨rfl, b3⟩
            have HB3 := Lib.hid (HB2.out.trans (b3.mono HB2.out.size))
            clear b3
            go_wp2_with fail
            go_ret
            exact ⟨rfl, HB3.out⟩
      · have o4 : 15 < op := by omega
        have d3 : decide (op < 1) = false := by simpa using o3
        have d4 : decide (15 < op) = true := by simpa using o4
        clear hx
        go_enter Tryd.func4, Tryd.ntmps4
        go_wp2_with fail
        refine HWD.out.mono ?_
        rintro e wx ⟨rfl, rfl⟩
        rw [HWR.out]
        go_wp2_with fail
        refine (words_any _).mono ?_
        rintro e w1 ⟨b, rfl, hrd, b1⟩
        have HB1 := Lib.hid b1
        have HRD := Lib.hid hrd
        clear b1 hrd
        go_wp2_with fail
        have HOP := Lib.hid (op_any l _ (HE.out _ HB1.out))
        obtain ⟨N, hN⟩ : ∃ N, N = opN l := ⟨_, rfl⟩
        obtain ⟨E, hE⟩ : ∃ E, E = opE l := ⟨_, rfl⟩
        unfold opPost at HOP
        rw [← hN, ← hE] at HOP
        have HN := Lib.hid hN
        have HEE := Lib.hid hE
        clear hN hE
        refine HOP.out.mono ?_
        rintro e w2 ⟨rfl, b2⟩
        have HB2 := Lib.hid (HB1.out.trans (b2.mono HB1.out.size))
        have HRD2 := Lib.hid (HRD.out.below b2 (Nat.le_refl _))
        clear b2
        go_wp2_with fail
        go_loop [10] (fun i => ∃ m : Nat, m ≤ 15 ∧ i = .int .i64 ((m : Int) + 1) ∧ ∀ j, j < m → wordL j ≠ l) (fun i => 16 - (intOf i).toNat)
        case atStart => exact ⟨0, Nat.zero_le _, rfl, fun j h => by omega⟩
        case round =>
          obtain ⟨m, hm, rfl, hno⟩ := hrel
          have HNO := Lib.hid hno
          clear hno
          by_cases hlt : m < 15
          · have hcm := words_at HRD2.out hlt
            have m1 : (m : Int) + 1 < 16 := by omega
            by_cases hq : wordL m = l
            · have e1 : opN l = (m : Int) + 1 := find_at l 15 0 m (Nat.zero_le _) (by omega) hq (fun j _ hj => HNO.out j hj)
              have q1 : ((N : Int) == (m : Int) + 1) = true := by rw [HN.out, e1]; simp
              have q2 : ((E : Int) == 0) = true := by rw [HEE.out]; unfold opE; rw [e1, if_neg (by omega)]; rfl
              have hb : (wordL m == l) = true := by simpa using hq
              clear hq e1
              generalize wordL m = x at *
              go_wp2_with fail
              refine (HK.out _ HB2.out).mono ?_
              rintro e w3 ⟨rfl, b3⟩
              have HB3 := Lib.hid (HB2.out.trans (b3.mono HB2.out.size))
              clear b3
              go_wp2_with fail
              go_ret
              exact ⟨rfl, HB3.out⟩
            · have hb : (wordL m == l) = false := by simpa using hq
              have HQ := Lib.hid hq
              clear hq
              obtain ⟨x, hx⟩ : ∃ x, x = wordL m := ⟨_, rfl⟩
              rw [← hx] at hb hcm
              have HX := Lib.hid hx
              clear hx
              go_wp2_with fail
              go_round
              case rel => exact ⟨m + 1, by omega, by go_num, fun j hj => by
                rcases Nat.lt_or_ge j m with h | h
                · exact HNO.out j h
                · rw [show j = m from by omega]; exact HQ.out⟩
              case measure => simp [intOf]; omega
          · obtain rfl : m = 15 := by omega
            have e1 : opN l = 0 := find_none l 15 0 (fun j _ hj => HNO.out j (by omega))
            have q1 : ((N : Int) == 0) = true := by rw [HN.out, e1]; rfl
            have q2 : ((E : Int) == 6) = true := by rw [HEE.out]; unfold opE; rw [e1, if_pos rfl]; rfl
            clear e1
            go_wp2_with fail
            refine (HK.out _ HB2.out).mono ?_
            rintro e w3 ⟨rfl, b3⟩
            have HB3 := Lib.hid (HB2.out.trans (b3.mono HB2.out.size))
            clear b3
            go_wp2_with fail
            go_ret
            exact ⟨rfl, HB3.out⟩
end Go.Proofs.YtefadkdngcbpiaaDoor.Qi
