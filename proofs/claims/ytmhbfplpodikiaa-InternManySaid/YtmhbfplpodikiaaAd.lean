/- Proves what the specification's Names returns: all names in the order of their bytes. Conditions: as each theorem names them. -/
import Derived.Test.YtmhbfplpodikiaaAc
namespace Go.Proofs.Ytmhbfplpodikiaa.Ad
open Go.RowKit Ap Mi Nw Rg Aa Ab Ac

theorem src_str (w : World) (x : ByteArray) : Src Try.prog 1 61 (.slice (some ⟨w.heap.size, 0, none⟩) 1 1) 1 [.string x] (w.alloc (.cells #[.string x] 9)) := by
  have h : Mine w.heap.size 1 (w.alloc (.cells #[.string x] 9)) (some ⟨w.heap.size, 0, none⟩) 1 1 [.string x] := Mine.lit w #[.string x] 9 1 rfl (by unfold maxLen; omega)
  exact (Rs.mine h).src (P := Try.prog) Try.underlying61 (by omega) (by simp [Value.oneCell'])
section
variable {G : Nat → Prop} {A : Option Addr} {c : Nat} {l : List Nr} {w : World}
set_option maxRecDepth 100000 in
set_option maxHeartbeats 4000000 in
theorem names_any (m : Int) (h : RT G w A c l) (hl : l.length ≤ 100000) : Calls Try.prog 31 #[tbV m A l.length c] w (rowPost w (namesL l)) := by
  obtain ⟨v0, hv0⟩ : ∃ v0, v0 = w.alloc (.cells (tbA m A l.length c) 31) := ⟨_, rfl⟩
  have HB0 : Hid (Below w.heap.size w v0) := by show Below _ _ _; rw [hv0]; exact bnew _ _
  have HK0 : Hid (Blk v0 w.heap.size (tbA m A l.length c) 31) := by show Blk _ _ _ _; rw [hv0]; exact Blk.new w _ _
  have HZ0 : Hid (v0.heap.size = w.heap.size + 1) := by show _ = _; rw [hv0]; simp
  have HR := Lib.hid (h.below HB0.out (Nat.le_refl _))
  have hcm := Rs.max h.r
  have hcl := Rs.le h.r
  unfold maxLen at hcm
  unfold tbA at hv0 HK0
  obtain ⟨x0, x1, _, _⟩ := HK0.out.two
  have lg := HK0.out.lt
  have HLV : Hid (∀ k, k ≤ l.length → (liveL (l.take k)).length ≤ 100000) := fun k hk => by
    rw [liveL_len]
    have := cnt_le (l.take k)
    rw [List.length_take] at this; omega
  have HLT : Hid (∀ k (hk : k < l.length), liveL (l.take (k + 1)) = liveL (l.take k) ++ (if 0 < l[k].r then [l[k].k] else [])) := fun k hk => liveL_take hk
  have HEN : Hid (liveL (l.take l.length) = liveL l) := by show _ = _; rw [List.take_length]
  unfold rowPost tbV
  clear h
  go_enter Try.func31, Try.ntmps31
  go_upto_region 3 with fail
  rw [← hv0]
  clear hv0 x0 x1 lg
  go_wp2_with fail
  go_loopw [3, 4] (fun o i wr => ∃ (k : Nat) (E : Option Addr) (f : Nat), k ≤ l.length ∧ i = .int .i64 (k : Int) ∧ o = .slice E (liveL (l.take k)).length f ∧ Mine v0.heap.size 1 wr E (liveL (l.take k)).length f (strs (liveL (l.take k))) ∧ Below v0.heap.size v0 wr) (fun _ i _ => l.length - (intOf i).toNat)
  case atStart => exact ⟨0, none, 0, Nat.zero_le _, rfl, rfl, Mine.nil _ _ _, Below.refl _ _⟩
  case round =>
    obtain ⟨k, E, f, hk, rfl, rfl, hmi, hbl⟩ := hrel
    have HM := Lib.hid hmi
    have HB := Lib.hid hbl
    have hg1 := HLV.out k hk
    have hz := hbl.size
    have HKW := Lib.hid (HK0.out.below hbl HK0.out.lt)
    obtain ⟨x0, x1, _, _⟩ := HKW.out.two
    have lg := HKW.out.lt
    clear hmi hbl
    by_cases hlt : k < l.length
    · have i1 : (k : Int) < (l.length : Int) := by omega
      obtain ⟨b, o, rfl, lb, e0, e1⟩ := (HR.out.below HB.out (Nat.le_refl _)).at_ hlt
      obtain ⟨x, hx⟩ : ∃ x, x = l[k] := ⟨_, rfl⟩
      have hT := HLT.out k hlt
      rw [← hx] at e0 e1 hT
      obtain ⟨gg, hgg⟩ : ∃ gg, gg = liveL (l.take k) := ⟨_, rfl⟩
      rw [← hgg] at hT HM hg1 ⊢
      have HT := Lib.hid hT
      clear hx hT hgg
      by_cases h2 : 0 < x.r
      · have HN : Hid (liveL (l.take (k + 1)) = gg ++ [x.k]) := by show _ = _; rw [HT.out, if_pos h2]
        clear HT
        go_wp2_with (at_builtin; (refine wpList_mine rfl _ _ elS _ rfl rfl (HM.out.below (bnew wr (.cells #[.string x.k] 9)) (Nat.le_refl _)) _ rfl 1 _ (src_str wr x.k) (by omega) (by omega) (by simp; omega) ?_))
        intro A5 c5 w5 m5 g5 q5
        have HL5 : Hid (gg.length + 1 = (liveL (l.take (k + 1))).length) := by show _ = _; rw [HN.out]; simp
        have M5 : Hid (Mine v0.heap.size 1 w5 A5 (liveL (l.take (k + 1))).length c5 (strs (liveL (l.take (k + 1))))) := by
          show Mine _ _ _ _ _ _ _
          rw [← HL5.out, HN.out, strs_app]; exact m5
        have B5 : Hid (Below v0.heap.size v0 w5) := (HB.out.trans ((bnew wr (.cells #[.string x.k] 9)).mono hz)).trans ((only_row (F := fun j => v0.heap.size ≤ j) g5 (fun a ha => (HM.out.base ha).1)).below (fun _ h => h) (by simp; omega))
        rw [HL5.out]
        clear m5 g5 q5
        go_wp2_with fail
        go_roundw
        case rel => exact ⟨k + 1, A5, c5, by omega, by go_num, rfl, M5.out, B5.out⟩
        case measure => simp [intOf]; omega
      · have HN : Hid (liveL (l.take (k + 1)) = gg) := by show _ = _; rw [HT.out, if_neg h2, List.append_nil]
        clear HT
        go_wp2_with fail
        go_roundw
        case rel => exact ⟨k + 1, E, f, by omega, by go_num, by rw [HN.out], by rw [HN.out]; exact HM.out, HB.out⟩
        case measure => simp [intOf]; omega
    · obtain rfl : k = l.length := by omega
      have i1 : ¬ (l.length : Int) < (l.length : Int) := by omega
      rw [HEN.out] at HM hg1 ⊢
      have HS := Lib.hid (sorted_any (Rs.mine HM.out) hg1)
      unfold rowPost at HS
      clear hlt
      go_wp2_with fail
      refine HS.out.mono ?_
      rintro q w6 ⟨A6, c6, rfl, h6, b6⟩
      have H6 := Lib.hid h6
      have B6 := Lib.hid b6
      clear h6 b6
      go_wp2_with fail
      go_ret
      have hz0 := HZ0.out
      exact ⟨A6, c6, rfl, H6.out.mono (by omega), (HB0.out.trans (HB.out.mono (by omega))).trans (B6.out.mono (by omega))⟩
end
end Go.Proofs.Ytmhbfplpodikiaa.Ad
