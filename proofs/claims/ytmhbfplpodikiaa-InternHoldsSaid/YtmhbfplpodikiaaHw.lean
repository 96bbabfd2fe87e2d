/- Proves what each function of package hash and of its specification returns, over the translated program: the same mixed word, the same sum, the same index, the same power. Conditions: words lie in the range of uint64, lengths below the form's own bound. -/
import Derived.Test.YtmhbfplpodikiaaHm
import Derived.Test.YtmhbfplpodikiaaRows
import Derived.WalkKit
import Derived.WalkSpells
import Derived.WalkLawsBesides
import Derived.Lib.Hide
namespace Go.Proofs.Ytmhbfplpodikiaa.Hw
open Go.RowKit Hm

theorem ret_u {a b : Int} (h : a = b) : Ending.returned (.int .u64 a) = .returned (.int .u64 b) := by rw [h]
theorem ret_i {a b : Int} (h : a = b) : Ending.returned (.int .i64 a) = .returned (.int .i64 b) := by rw [h]

set_option maxHeartbeats 400000 in
theorem mix_any (a : Int) (w : World) :
    Calls Try.prog 87 #[.int .u64 a] w fun e w' => e = .returned (.int .u64 (mixI a)) ∧ w = w' := by
  go_enter Try.func87, Try.ntmps87
  go_wp2
  go_ret
  exact ⟨rfl, rfl⟩

set_option maxHeartbeats 400000 in
theorem add_any (a c : Int) (w : World) (h2 : 0 ≤ c) (h3 : c < 256) :
    Calls Try.prog 86 #[.int .u64 a, .int .u8 c] w fun e w' => e = .returned (.int .u64 (addI a c)) ∧ w = w' := by
  go_enter Try.func86, Try.ntmps86
  go_wp2
  go_ret
  exact ⟨ret_u (add_walk a c), rfl⟩

set_option maxHeartbeats 400000 in
theorem sum_any (h : Int) (s : ByteArray) (w : World) (hh : U64 h) (hs : s.size ≤ maxLen) :
    Calls Try.prog 74 #[.int .u64 h, .string s] w fun e w' => e = .returned (.int .u64 (mixI (sumL h s.data.toList))) ∧ w = w' := by
  unfold maxLen at hs
  go_enter Try.func74, Try.ntmps74
  go_wp2
  go_loop [5, 10] (fun v i => ∃ k : Nat, k ≤ s.size ∧ i = .int .i64 k ∧ v = .int .u64 (sumL h (s.data.toList.take k))) (fun _ i => s.size - (intOf i).toNat)
  case atStart => exact ⟨0, Nat.zero_le _, rfl, rfl⟩
  case round =>
    obtain ⟨k, hk, rfl, rfl⟩ := hrel
    obtain ⟨b0, b1⟩ := sum_bd (s.data.toList.take k) h hh
    by_cases hlt : k < s.size
    · have HS : Hid (sumL h (s.data.toList.take (k + 1)) = addI (sumL h (s.data.toList.take k)) s[k].toNat) := sum_take h s k hlt
      have c1 := s[k].toNat_lt
      go_wp2_with (go_at_call 86; refine (add_any _ _ _ (by omega) (by omega)).mono ?_; rintro e w' ⟨rfl, rfl⟩)
      go_round
      case rel => exact ⟨k + 1, by omega, by go_num, by rw [HS.out]⟩
      case measure => simp [intOf]; omega
    · obtain rfl : k = s.size := by omega
      go_wp2_with (go_at_call 87; refine (mix_any _ _).mono ?_; rintro e w' ⟨rfl, rfl⟩)
      go_ret
      exact ⟨ret_u (by rw [List.take_of_length_le (by simp)]), rfl⟩

/-! ### a list of bytes: its cells -/
/-! ### sizes -/
set_option maxHeartbeats 400000 in
theorem ones_any (n : Int) (w : World) :
    Calls Try.prog 90 #[.int .u64 n] w fun e w' => e = .returned (.int .i64 (popI n)) ∧ w = w' := by
  go_enter Try.func90, Try.ntmps90
  go_wp2
  go_ret
  exact ⟨rfl, rfl⟩

set_option maxHeartbeats 400000 in
theorem isSize_any (n : Int) (w : World) (h0 : -9223372036854775808 ≤ n) (h1 : n ≤ 9223372036854775807) :
    Calls Try.prog 85 #[.int .i64 n] w fun e w' => e = .returned (.bool (isPow n)) ∧ w = w' := by
  by_cases ha : 1 ≤ n
  · by_cases hb : n ≤ 16777216
    · by_cases hp : isPow n = true
      · have hq : (popI n == 1) = true := by simpa using (popI_one n ha hb).2 hp
        have HP := Lib.hid hp; clear hp
        go_enter Try.func85, Try.ntmps85
        go_wp2_with (go_at_call 90; refine (ones_any _ _).mono ?_; rintro e w' ⟨rfl, rfl⟩)
        go_ret
        exact ⟨by rw [HP.out]; rfl, rfl⟩
      · have hq : (popI n == 1) = false := by
          rw [beq_eq_false_iff_ne]; exact fun e => hp ((popI_one n ha hb).1 e)
        have HP : Hid (isPow n = false) := by
          show _ = _
          rw [Bool.eq_false_iff]; exact hp
        clear hp
        go_enter Try.func85, Try.ntmps85
        go_wp2_with (go_at_call 90; refine (ones_any _ _).mono ?_; rintro e w' ⟨rfl, rfl⟩)
        go_ret
        exact ⟨by rw [HP.out]; rfl, rfl⟩
    · have HP : Hid (isPow n = false) := by
        show _ = _
        rw [Bool.eq_false_iff]; exact fun e => by have := isPow_bd n e; omega
      go_enter Try.func85, Try.ntmps85
      go_wp2
      go_ret
      exact ⟨by rw [HP.out]; rfl, rfl⟩
  · have HP : Hid (isPow n = false) := by
      show _ = _
      rw [Bool.eq_false_iff]; exact fun e => by have := isPow_bd n e; omega
    go_enter Try.func85, Try.ntmps85
    go_wp2
    go_ret
    exact ⟨by rw [HP.out]; rfl, rfl⟩

/-! ### the index -/
theorem isSize_yes (n : Int) (w : World) (h : isPow n = true) : Calls Try.prog 85 #[.int .i64 n] w fun e w' => e = .returned (.bool true) ∧ w = w' := by
  have hb := isPow_bd n h
  have := isSize_any n w (by omega) (by omega)
  rwa [h] at this
theorem isSize_no (n : Int) (w : World) (h0 : -9223372036854775808 ≤ n) (h1 : n ≤ 9223372036854775807) (h : isPow n = false) : Calls Try.prog 85 #[.int .i64 n] w fun e w' => e = .returned (.bool false) ∧ w = w' := by
  have := isSize_any n w h0 h1
  rwa [h] at this
theorem ret_two {a b c d : Int} (h : a = b) (k : c = d) : Ending.returned (.tuple #[.int .i64 a, .int .i64 c]) = .returned (.tuple #[.int .i64 b, .int .i64 d]) := by rw [h, k]

set_option maxHeartbeats 400000 in
theorem hindex_any (s n : Int) (w : World) (hs : U64 s) (h0 : -9223372036854775808 ≤ n) (h1 : n ≤ 9223372036854775807) :
    Calls Try.prog 73 #[.int .u64 s, .int .i64 n] w fun e w' => e = .returned (.tuple #[.int .i64 (idxI s n), .int .i64 (idxE n)]) ∧ w = w' := by
  by_cases hp : isPow n = true
  · obtain ⟨b1, b2⟩ := isPow_bd n hp
    obtain ⟨b3, b4⟩ := hs
    have b5 : 0 ≤ s % n := Int.emod_nonneg _ (by omega)
    have b6 : s % n < n := Int.emod_lt_of_pos _ (by omega)
    have HP := Lib.hid hp; clear hp
    go_enter Try.func73, Try.ntmps73
    go_wp2_with (go_at_call 85; refine (isSize_yes _ _ HP.out).mono ?_; rintro e w' ⟨rfl, rfl⟩)
    go_ret2
    exact ⟨ret_two (by rw [idxI, if_pos HP.out]) (by rw [idxE, if_pos HP.out]), rfl⟩
  · have HP : Hid (isPow n = false) := by
      show _ = _
      rw [Bool.eq_false_iff]; exact hp
    have HP' := Lib.hid hp; clear hp
    go_enter Try.func73, Try.ntmps73
    go_wp2_with (go_at_call 85; refine (isSize_no _ _ h0 h1 HP.out).mono ?_; rintro e w' ⟨rfl, rfl⟩)
    go_ret2
    exact ⟨ret_two (by rw [idxI, if_neg HP'.out]) (by rw [idxE, if_neg HP'.out]), rfl⟩

/-! ### the power -/
set_option maxRecDepth 1000000 in
set_option maxHeartbeats 400000 in
theorem len_any (m : Int) (w : World) (h0 : 0 ≤ m) (h1 : m < 16777216) :
    Calls Try.prog 72 #[.int .u64 m] w fun e w' => e = .returned (.int .i64 (bl m.toNat)) ∧ w = w' := by
  by_cases ha : m < 65536
  · by_cases hb : m < 256
    · go_enter Try.func72, Try.ntmps72
      go_wp2
      go_ret
      exact ⟨ret_i (by rw [len8tab_get]; exact w64_0 m h0 hb), rfl⟩
    · go_enter Try.func72, Try.ntmps72
      go_wp2
      go_ret
      exact ⟨ret_i (by rw [len8tab_get]; exact w64_8 m (by omega) ha), rfl⟩
  · go_enter Try.func72, Try.ntmps72
    go_wp2
    go_ret
    exact ⟨ret_i (by rw [len8tab_get]; exact w64_16 m (by omega) h1), rfl⟩

end Go.Proofs.Ytmhbfplpodikiaa.Hw
