/- Proves what each function of package hash and of its specification returns, over the translated program: the same mixed word, the same sum, the same index, the same power. Conditions: words lie in the range of uint64, lengths below the form's own bound. -/
import Derived.Test.YthabefkpgoanlaaHm
import Derived.Test.YthabefkpgoanlaaRows
import Derived.WalkKit
import Derived.WalkSpells
import Derived.WalkLawsBesides
import Derived.Lib.Hide
namespace Go.Proofs.Ythabefkpgoanlaa.Hw
open Go.RowKit Hm

theorem ret_u {a b : Int} (h : a = b) : Ending.returned (.int .u64 a) = .returned (.int .u64 b) := by rw [h]
theorem ret_i {a b : Int} (h : a = b) : Ending.returned (.int .i64 a) = .returned (.int .i64 b) := by rw [h]

set_option maxHeartbeats 400000 in
theorem mix_any (a : Int) (w : World) :
    Calls Try.prog 8 #[.int .u64 a] w fun e w' => e = .returned (.int .u64 (mixI a)) ∧ w = w' := by
  go_enter Try.func8, Try.ntmps8
  go_wp2
  go_ret
  exact ⟨rfl, rfl⟩

set_option maxHeartbeats 400000 in
theorem add_any (a c : Int) (w : World) (h2 : 0 ≤ c) (h3 : c < 256) :
    Calls Try.prog 22 #[.int .u64 a, .int .u8 c] w fun e w' => e = .returned (.int .u64 (addI a c)) ∧ w = w' := by
  go_enter Try.func22, Try.ntmps22
  go_wp2
  go_ret
  exact ⟨ret_u (add_walk a c), rfl⟩

set_option maxHeartbeats 400000 in
theorem left_any (a : Int) (n : Nat) (w : World) (hn : n ≤ 64) :
    Calls Try.prog 20 #[.int .u64 a, .int .i64 n] w fun e w' => e = .returned (.int .u64 (dbl a n)) ∧ w = w' := by
  go_enter Try.func20, Try.ntmps20
  go_wp2
  go_loop [0, 5] (fun v i => ∃ k : Nat, k ≤ n ∧ i = .int .i64 k ∧ v = .int .u64 (dbl a k)) (fun _ i => n - (intOf i).toNat)
  case atStart => exact ⟨0, Nat.zero_le _, rfl, rfl⟩
  case round =>
    obtain ⟨k, hk, rfl, rfl⟩ := hrel
    by_cases hlt : k < n
    · go_wp2
      go_round
      case rel => exact ⟨k + 1, by omega, by go_num, rfl⟩
      case measure => simp [intOf]; omega
    · go_wp2
      go_ret
      exact ⟨ret_u (by rw [show k = n from by omega]), rfl⟩

set_option maxHeartbeats 400000 in
theorem right_any (a : Int) (n : Nat) (w : World) (ha : U64 a) (hn : n ≤ 64) :
    Calls Try.prog 21 #[.int .u64 a, .int .i64 n] w fun e w' => e = .returned (.int .u64 (hlv a n)) ∧ w = w' := by
  go_enter Try.func21, Try.ntmps21
  go_wp2
  go_loop [0, 5] (fun v i => ∃ k : Nat, k ≤ n ∧ i = .int .i64 k ∧ v = .int .u64 (hlv a k)) (fun _ i => n - (intOf i).toNat)
  case atStart => exact ⟨0, Nat.zero_le _, rfl, rfl⟩
  case round =>
    obtain ⟨k, hk, rfl, rfl⟩ := hrel
    obtain ⟨b0, b1⟩ := hlv_bd a ha k
    by_cases hlt : k < n
    · go_wp2
      go_round
      case rel => exact ⟨k + 1, by omega, by go_num, rfl⟩
      case measure => simp [intOf]; omega
    · go_wp2
      go_ret
      exact ⟨ret_u (by rw [show k = n from by omega]), rfl⟩

theorem left13 (a : Int) (w : World) (ha : U64 a) : Calls Try.prog 20 #[.int .u64 a, .int .i64 13] w fun e w' => e = .returned (.int .u64 (IntKind.u64.wrap (a * 8192))) ∧ w = w' := by
  rw [← dbl13 a ha]; exact left_any a 13 w (by omega)
theorem left17 (a : Int) (w : World) (ha : U64 a) : Calls Try.prog 20 #[.int .u64 a, .int .i64 17] w fun e w' => e = .returned (.int .u64 (IntKind.u64.wrap (a * 131072))) ∧ w = w' := by
  rw [← dbl17 a ha]; exact left_any a 17 w (by omega)
theorem right7 (a : Int) (w : World) (ha : U64 a) : Calls Try.prog 21 #[.int .u64 a, .int .i64 7] w fun e w' => e = .returned (.int .u64 (a / 128)) ∧ w = w' := by
  rw [← hlv7 a]; exact right_any a 7 w ha (by omega)

set_option maxHeartbeats 400000 in
theorem refmix_any (a : Int) (w : World) (ha : U64 a) :
    Calls Try.prog 9 #[.int .u64 a] w fun e w' => e = .returned (.int .u64 (mixI a)) ∧ w = w' := by
  go_enter Try.func9, Try.ntmps9
  go_wp2_with fail
  refine (left13 a _ ha).mono ?_
  rintro e w' ⟨rfl, rfl⟩
  go_wp2_with fail
  refine (right7 (x1 a) _ (bits_bd _ _ _)).mono ?_
  rintro e w' ⟨rfl, rfl⟩
  go_wp2_with fail
  refine (left17 (x2 (x1 a)) _ (bits_bd _ _ _)).mono ?_
  rintro e w' ⟨rfl, rfl⟩
  go_wp2_with fail
  go_ret
  exact ⟨rfl, rfl⟩

set_option maxHeartbeats 400000 in
theorem sum_any (h : Int) (s : ByteArray) (w : World) (hh : U64 h) (hs : s.size ≤ maxLen) :
    Calls Try.prog 11 #[.int .u64 h, .string s] w fun e w' => e = .returned (.int .u64 (mixI (sumL h s.data.toList))) ∧ w = w' := by
  unfold maxLen at hs
  go_enter Try.func11, Try.ntmps11
  go_wp2
  go_loop [5, 10] (fun v i => ∃ k : Nat, k ≤ s.size ∧ i = .int .i64 k ∧ v = .int .u64 (sumL h (s.data.toList.take k))) (fun _ i => s.size - (intOf i).toNat)
  case atStart => exact ⟨0, Nat.zero_le _, rfl, rfl⟩
  case round =>
    obtain ⟨k, hk, rfl, rfl⟩ := hrel
    obtain ⟨b0, b1⟩ := sum_bd (s.data.toList.take k) h hh
    by_cases hlt : k < s.size
    · have HS : Hid (sumL h (s.data.toList.take (k + 1)) = addI (sumL h (s.data.toList.take k)) s[k].toNat) := sum_take h s k hlt
      have c1 := s[k].toNat_lt
      go_wp2_with (go_at_call 22; refine (add_any _ _ _ (by omega) (by omega)).mono ?_; rintro e w' ⟨rfl, rfl⟩)
      go_round
      case rel => exact ⟨k + 1, by omega, by go_num, by rw [HS.out]⟩
      case measure => simp [intOf]; omega
    · obtain rfl : k = s.size := by omega
      go_wp2_with (go_at_call 8; refine (mix_any _ _).mono ?_; rintro e w' ⟨rfl, rfl⟩)
      go_ret
      exact ⟨ret_u (by rw [List.take_of_length_le (by simp)]), rfl⟩

set_option maxHeartbeats 400000 in
theorem refsum_any (h : Int) (s : ByteArray) (w : World) (hh : U64 h) (hs : s.size ≤ maxLen) :
    Calls Try.prog 12 #[.int .u64 h, .string s] w fun e w' => e = .returned (.int .u64 (mixI (sumL h s.data.toList))) ∧ w = w' := by
  unfold maxLen at hs
  go_enter Try.func12, Try.ntmps12
  go_wp2
  go_loop [5, 6] (fun v i => ∃ k : Nat, k ≤ s.size ∧ i = .int .i64 k ∧ v = .int .u64 (sumL h (s.data.toList.take k))) (fun _ i => s.size - (intOf i).toNat)
  case atStart => exact ⟨0, Nat.zero_le _, rfl, rfl⟩
  case round =>
    obtain ⟨k, hk, rfl, rfl⟩ := hrel
    obtain ⟨b0, b1⟩ := sum_bd (s.data.toList.take k) h hh
    by_cases hlt : k < s.size
    · have HS : Hid (sumL h (s.data.toList.take (k + 1)) = addI (sumL h (s.data.toList.take k)) s[k].toNat) := sum_take h s k hlt
      have c1 := s[k].toNat_lt
      go_wp2
      go_round
      case rel => exact ⟨k + 1, by omega, by go_num, by rw [HS.out, ← add_walk]⟩
      case measure => simp [intOf]; omega
    · obtain rfl : k = s.size := by omega
      go_wp2_with (go_at_call 9; refine (refmix_any _ _ ⟨b0, b1⟩).mono ?_; rintro e w' ⟨rfl, rfl⟩)
      go_ret
      exact ⟨ret_u (by rw [List.take_of_length_le (by simp)]), rfl⟩

/-! ### a list of bytes: its cells -/
set_option maxHeartbeats 400000 in
theorem bytes_any (h : Int) (b o : Nat) (l : List UInt8) (cap : Nat) (w : World) (hl : l.length ≤ 1000000)
    (hc : ∀ k (hk : k < l.length), w.cell? ⟨b, o + k, none⟩ = some (.int .u8 (l[k].toNat : Int))) :
    Calls Try.prog 13 #[.int .u64 h, .slice (some ⟨b, o, none⟩) l.length cap] w fun e w' => e = .returned (.int .u64 (mixI (sumL h l))) ∧ w = w' := by
  go_enter Try.func13, Try.ntmps13
  go_wp2
  go_loop [5, 11] (fun v i => ∃ k : Nat, k ≤ l.length ∧ i = .int .i64 k ∧ v = .int .u64 (sumL h (l.take k))) (fun _ i => l.length - (intOf i).toNat)
  case atStart => exact ⟨0, Nat.zero_le _, rfl, rfl⟩
  case round =>
    obtain ⟨k, hk, rfl, rfl⟩ := hrel
    by_cases hlt : k < l.length
    · have HS : Hid (sumL h (l.take (k + 1)) = addI (sumL h (l.take k)) l[k].toNat) := by
        show _ = _
        rw [List.take_succ_eq_append_getElem hlt, sum_snoc]
      have c1 := l[k].toNat_lt
      have hcell := hc k hlt
      clear hc
      go_wp2_with (go_at_call 22; refine (add_any _ _ _ (by omega) (by omega)).mono ?_; rintro e w' ⟨rfl, rfl⟩)
      go_round
      case rel => exact ⟨k + 1, by omega, by go_num, by rw [HS.out]⟩
      case measure => simp [intOf]; omega
    · obtain rfl : k = l.length := by omega
      clear hc
      go_wp2_with (go_at_call 8; refine (mix_any _ _).mono ?_; rintro e w' ⟨rfl, rfl⟩)
      go_ret
      exact ⟨rfl, rfl⟩

/-! ### sizes -/
set_option maxHeartbeats 400000 in
theorem ones_any (n : Int) (w : World) :
    Calls Try.prog 26 #[.int .u64 n] w fun e w' => e = .returned (.int .i64 (popI n)) ∧ w = w' := by
  go_enter Try.func26, Try.ntmps26
  go_wp2
  go_ret
  exact ⟨rfl, rfl⟩

set_option maxHeartbeats 400000 in
theorem isSize_any (n : Int) (w : World) (h0 : -9223372036854775808 ≤ n) (h1 : n ≤ 9223372036854775807) :
    Calls Try.prog 24 #[.int .i64 n] w fun e w' => e = .returned (.bool (isPow n)) ∧ w = w' := by
  by_cases ha : 1 ≤ n
  · by_cases hb : n ≤ 16777216
    · by_cases hp : isPow n = true
      · have hq : (popI n == 1) = true := by simpa using (popI_one n ha hb).2 hp
        have HP := Lib.hid hp; clear hp
        go_enter Try.func24, Try.ntmps24
        go_wp2_with (go_at_call 26; refine (ones_any _ _).mono ?_; rintro e w' ⟨rfl, rfl⟩)
        go_ret
        exact ⟨by rw [HP.out]; rfl, rfl⟩
      · have hq : (popI n == 1) = false := by
          rw [beq_eq_false_iff_ne]; exact fun e => hp ((popI_one n ha hb).1 e)
        have HP : Hid (isPow n = false) := by
          show _ = _
          rw [Bool.eq_false_iff]; exact hp
        clear hp
        go_enter Try.func24, Try.ntmps24
        go_wp2_with (go_at_call 26; refine (ones_any _ _).mono ?_; rintro e w' ⟨rfl, rfl⟩)
        go_ret
        exact ⟨by rw [HP.out]; rfl, rfl⟩
    · have HP : Hid (isPow n = false) := by
        show _ = _
        rw [Bool.eq_false_iff]; exact fun e => by have := isPow_bd n e; omega
      go_enter Try.func24, Try.ntmps24
      go_wp2
      go_ret
      exact ⟨by rw [HP.out]; rfl, rfl⟩
  · have HP : Hid (isPow n = false) := by
      show _ = _
      rw [Bool.eq_false_iff]; exact fun e => by have := isPow_bd n e; omega
    go_enter Try.func24, Try.ntmps24
    go_wp2
    go_ret
    exact ⟨by rw [HP.out]; rfl, rfl⟩

set_option maxHeartbeats 400000 in
theorem refsize_any (n : Int) (w : World) :
    Calls Try.prog 23 #[.int .i64 n] w fun e w' => e = .returned (.bool (isPow n)) ∧ w = w' := by
  go_enter Try.func23, Try.ntmps23
  go_wp2
  go_loop [3] (fun v => ∃ k : Nat, k ≤ 25 ∧ v = .int .i64 (pw k) ∧ ∀ j, j < k → n ≠ pw j) (fun v => (33554432 - intOf v).toNat)
  case atStart => exact ⟨0, Nat.zero_le _, rfl, fun j h => by omega⟩
  case round =>
    obtain ⟨k, hk, rfl, hno⟩ := hrel
    have p1 := pw_pos k
    have p2 := pw_le hk
    rw [pw25] at p2
    have HN := Lib.hid hno; clear hno
    by_cases hlt : k ≤ 24
    · have p3 := pw_le hlt
      rw [pw24] at p3
      by_cases he : pw k = n
      · have hb : (pw k == n) = true := by simpa using he
        have HE := Lib.hid he; clear he
        go_wp2
        go_ret
        exact ⟨by rw [(isPow_iff n).2 ⟨k, hlt, HE.out.symm⟩]; rfl, rfl⟩
      · have hb : (pw k == n) = false := by simpa using he
        have HE := Lib.hid he; clear he
        go_wp2
        go_round
        case rel => exact ⟨k + 1, by omega, by rw [pw_succ], fun j hj => by
          rcases Nat.lt_or_ge j k with h | h
          · exact HN.out j h
          · rw [show j = k from by omega]; exact fun h => HE.out h.symm⟩
        case measure => simp [intOf]; omega
    · have p3 := pw_le (show 25 ≤ k by omega)
      rw [pw25] at p3
      go_wp2
      go_ret
      exact ⟨by
        rw [show isPow n = false from by
          rw [Bool.eq_false_iff]; intro e
          obtain ⟨j, hj, e⟩ := (isPow_iff n).1 e
          exact HN.out j (by omega) e]
        rfl, rfl⟩

/-! ### the index -/
theorem isSize_yes (n : Int) (w : World) (h : isPow n = true) : Calls Try.prog 24 #[.int .i64 n] w fun e w' => e = .returned (.bool true) ∧ w = w' := by
  have hb := isPow_bd n h
  have := isSize_any n w (by omega) (by omega)
  rwa [h] at this
theorem isSize_no (n : Int) (w : World) (h0 : -9223372036854775808 ≤ n) (h1 : n ≤ 9223372036854775807) (h : isPow n = false) : Calls Try.prog 24 #[.int .i64 n] w fun e w' => e = .returned (.bool false) ∧ w = w' := by
  have := isSize_any n w h0 h1
  rwa [h] at this
theorem refsize_yes (n : Int) (w : World) (h : isPow n = true) : Calls Try.prog 23 #[.int .i64 n] w fun e w' => e = .returned (.bool true) ∧ w = w' := by
  have := refsize_any n w
  rwa [h] at this
theorem refsize_no (n : Int) (w : World) (h : isPow n = false) : Calls Try.prog 23 #[.int .i64 n] w fun e w' => e = .returned (.bool false) ∧ w = w' := by
  have := refsize_any n w
  rwa [h] at this
theorem ret_two {a b c d : Int} (h : a = b) (k : c = d) : Ending.returned (.tuple #[.int .i64 a, .int .i64 c]) = .returned (.tuple #[.int .i64 b, .int .i64 d]) := by rw [h, k]

set_option maxHeartbeats 400000 in
theorem hindex_any (s n : Int) (w : World) (hs : U64 s) (h0 : -9223372036854775808 ≤ n) (h1 : n ≤ 9223372036854775807) :
    Calls Try.prog 18 #[.int .u64 s, .int .i64 n] w fun e w' => e = .returned (.tuple #[.int .i64 (idxI s n), .int .i64 (idxE n)]) ∧ w = w' := by
  by_cases hp : isPow n = true
  · obtain ⟨b1, b2⟩ := isPow_bd n hp
    obtain ⟨b3, b4⟩ := hs
    have b5 : 0 ≤ s % n := Int.emod_nonneg _ (by omega)
    have b6 : s % n < n := Int.emod_lt_of_pos _ (by omega)
    have HP := Lib.hid hp; clear hp
    go_enter Try.func18, Try.ntmps18
    go_wp2_with (go_at_call 24; refine (isSize_yes _ _ HP.out).mono ?_; rintro e w' ⟨rfl, rfl⟩)
    go_ret2
    exact ⟨ret_two (by rw [idxI, if_pos HP.out]) (by rw [idxE, if_pos HP.out]), rfl⟩
  · have HP : Hid (isPow n = false) := by
      show _ = _
      rw [Bool.eq_false_iff]; exact hp
    have HP' := Lib.hid hp; clear hp
    go_enter Try.func18, Try.ntmps18
    go_wp2_with (go_at_call 24; refine (isSize_no _ _ h0 h1 HP.out).mono ?_; rintro e w' ⟨rfl, rfl⟩)
    go_ret2
    exact ⟨ret_two (by rw [idxI, if_neg HP'.out]) (by rw [idxE, if_neg HP'.out]), rfl⟩

set_option maxHeartbeats 400000 in
theorem rindex_any (s n : Int) (w : World) (hs : U64 s) :
    Calls Try.prog 14 #[.int .u64 s, .int .i64 n] w fun e w' => e = .returned (.tuple #[.int .i64 (idxI s n), .int .i64 (idxE n)]) ∧ w = w' := by
  by_cases hp : isPow n = true
  · obtain ⟨b1, b2⟩ := isPow_bd n hp
    obtain ⟨b3, b4⟩ := hs
    have b5 : 0 ≤ s % n := Int.emod_nonneg _ (by omega)
    have b6 : s % n < n := Int.emod_lt_of_pos _ (by omega)
    have HP := Lib.hid hp; clear hp
    go_enter Try.func14, Try.ntmps14
    go_wp2_with (go_at_call 23; refine (refsize_yes _ _ HP.out).mono ?_; rintro e w' ⟨rfl, rfl⟩)
    go_ret2
    exact ⟨ret_two (by rw [idxI, if_pos HP.out]) (by rw [idxE, if_pos HP.out]), rfl⟩
  · have HP : Hid (isPow n = false) := by
      show _ = _
      rw [Bool.eq_false_iff]; exact hp
    have HP' := Lib.hid hp; clear hp
    go_enter Try.func14, Try.ntmps14
    go_wp2_with (go_at_call 23; refine (refsize_no _ _ HP.out).mono ?_; rintro e w' ⟨rfl, rfl⟩)
    go_ret2
    exact ⟨ret_two (by rw [idxI, if_neg HP'.out]) (by rw [idxE, if_neg HP'.out]), rfl⟩

set_option maxHeartbeats 400000 in
theorem index_at (s n x e : Int) (w : World) (hs : U64 s) (h0 : -9223372036854775808 ≤ n) (h1 : n ≤ 9223372036854775807) (hx : idxI s n = x) (he : idxE n = e) :
    Calls Try.prog 15 #[.int .u64 s, .int .i64 n, .int .i64 x, .int .i64 e] w fun e w' => e = .returned (.bool true) ∧ w = w' := by
  subst hx he
  go_enter Try.func15, Try.ntmps15
  go_wp2_with (go_at_call 18; refine (hindex_any _ _ _ hs h0 h1).mono ?_; rintro e w' ⟨rfl, rfl⟩)
  go_ret
  exact ⟨rfl, rfl⟩

/-! ### the power -/
set_option maxRecDepth 1000000 in
set_option maxHeartbeats 400000 in
theorem len_any (m : Int) (w : World) (h0 : 0 ≤ m) (h1 : m < 16777216) :
    Calls Try.prog 25 #[.int .u64 m] w fun e w' => e = .returned (.int .i64 (bl m.toNat)) ∧ w = w' := by
  by_cases ha : m < 65536
  · by_cases hb : m < 256
    · go_enter Try.func25, Try.ntmps25
      go_wp2
      go_ret
      exact ⟨ret_i (by rw [len8tab_get]; exact w64_0 m h0 hb), rfl⟩
    · go_enter Try.func25, Try.ntmps25
      go_wp2
      go_ret
      exact ⟨ret_i (by rw [len8tab_get]; exact w64_8 m (by omega) ha), rfl⟩
  · go_enter Try.func25, Try.ntmps25
    go_wp2
    go_ret
    exact ⟨ret_i (by rw [len8tab_get]; exact w64_16 m (by omega) h1), rfl⟩

set_option maxHeartbeats 400000 in
theorem hpower_any (n : Int) (w : World) (h0 : -9223372036854775808 ≤ n) (h1 : n ≤ 9223372036854775807) :
    Calls Try.prog 19 #[.int .i64 n] w fun e w' => e = .returned (.tuple #[.int .i64 (powR n), .int .i64 (powE n)]) ∧ w = w' := by
  by_cases hp : inR n = true
  · obtain ⟨b1, b2⟩ := (inR_iff n).1 hp
    have b3 := powI_le n b1 b2
    have HP := Lib.hid hp; clear hp
    go_enter Try.func19, Try.ntmps19
    go_wp2_with (go_at_call 25; refine (len_any _ _ (by omega) (by omega)).mono ?_; rintro e w' ⟨rfl, rfl⟩)
    go_ret2
    exact ⟨ret_two (pow_walk n HP.out) (by rw [powE, if_pos HP.out]), rfl⟩
  · have HP := Lib.hid hp
    have hq : ¬ (1 ≤ n ∧ n ≤ 16777216) := fun h => hp ((inR_iff n).2 h)
    clear hp
    by_cases ha : n < 1
    · clear hq
      go_enter Try.func19, Try.ntmps19
      go_wp2
      go_ret2
      exact ⟨ret_two (by rw [powR, if_neg HP.out]) (by rw [powE, if_neg HP.out]), rfl⟩
    · have hb : 16777216 < n := by omega
      clear hq
      go_enter Try.func19, Try.ntmps19
      go_wp2
      go_ret2
      exact ⟨ret_two (by rw [powR, if_neg HP.out]) (by rw [powE, if_neg HP.out]), rfl⟩

set_option maxHeartbeats 400000 in
theorem rpower_any (n : Int) (w : World) :
    Calls Try.prog 16 #[.int .i64 n] w fun e w' => e = .returned (.tuple #[.int .i64 (powR n), .int .i64 (powE n)]) ∧ w = w' := by
  by_cases hp : inR n = true
  · obtain ⟨b1, b2⟩ := (inR_iff n).1 hp
    have HP := Lib.hid hp; clear hp
    go_enter Try.func16, Try.ntmps16
    go_wp2
    go_loop [4] (fun v => ∃ k : Nat, k ≤ 24 ∧ v = .int .i64 (pw k) ∧ ∀ j, j < k → pw j < n) (fun v => (33554432 - intOf v).toNat)
    case atStart => exact ⟨0, Nat.zero_le _, rfl, fun j h => by omega⟩
    case round =>
      obtain ⟨k, hk, rfl, hno⟩ := hrel
      have p1 := pw_pos k
      have p2 := pw_le hk
      rw [pw24] at p2
      have HN := Lib.hid hno; clear hno
      by_cases hlt : pw k < n
      · have hk' : k ≤ 23 := by
          rcases Nat.lt_or_ge k 24 with h | h
          · omega
          · have := pw_le h; rw [pw24] at this; omega
        go_wp2
        go_round
        case rel => exact ⟨k + 1, by omega, by rw [pw_succ], fun j hj => by
          rcases Nat.lt_or_ge j k with h | h
          · exact HN.out j h
          · rw [show j = k from by omega]; exact hlt⟩
        case measure => simp [intOf]; omega
      · go_wp2
        go_ret2
        exact ⟨ret_two (by rw [powR, if_pos HP.out, powI, ← bl_pw k n b1 (by omega) HN.out]) (by rw [powE, if_pos HP.out]), rfl⟩
  · have HP := Lib.hid hp
    have hq : ¬ (1 ≤ n ∧ n ≤ 16777216) := fun h => hp ((inR_iff n).2 h)
    clear hp
    by_cases ha : n < 1
    · clear hq
      go_enter Try.func16, Try.ntmps16
      go_wp2
      go_ret2
      exact ⟨ret_two (by rw [powR, if_neg HP.out]) (by rw [powE, if_neg HP.out]), rfl⟩
    · have hb : 16777216 < n := by omega
      clear hq
      go_enter Try.func16, Try.ntmps16
      go_wp2
      go_ret2
      exact ⟨ret_two (by rw [powR, if_neg HP.out]) (by rw [powE, if_neg HP.out]), rfl⟩

set_option maxHeartbeats 400000 in
theorem power_at (n x e : Int) (w : World) (h0 : -9223372036854775808 ≤ n) (h1 : n ≤ 9223372036854775807) (hx : powR n = x) (he : powE n = e) :
    Calls Try.prog 17 #[.int .i64 n, .int .i64 x, .int .i64 e] w fun e w' => e = .returned (.bool true) ∧ w = w' := by
  subst hx he
  go_enter Try.func17, Try.ntmps17
  go_wp2_with (go_at_call 19; refine (hpower_any _ _ h0 h1).mono ?_; rintro e w' ⟨rfl, rfl⟩)
  go_ret
  exact ⟨rfl, rfl⟩
end Go.Proofs.Ythabefkpgoanlaa.Hw
