/- Proves that the law HashHolds returns true at every argument. Condition: numbers are of their kinds, strings have lengths of the form's own bound. -/
import Derived.Test.YthabefkpgoanlaaHsums
namespace Go.Proofs.Ythabefkpgoanlaa.Wholds
open Go.RowKit Hm Hw Hk Hmixes Wsums

def sumS (h : Int) (s : ByteArray) : Int := mixI (sumL h s.data.toList)
theorem sumS_bd (h : Int) (s : ByteArray) : 0 ≤ sumS h s ∧ sumS h s < 18446744073709551616 := mix_bd _
theorem sumS_any (h : Int) (s : ByteArray) (w : World) (hh : U64 h) (hs : s.size ≤ maxLen) :
    Calls Try.prog 11 #[.int .u64 h, .string s] w fun e w' => e = .returned (.int .u64 (sumS h s)) ∧ w = w' := sum_any h s w hh hs
theorem sumS_two (h : Int) (a b : ByteArray) (w : World) (hh : U64 h) (hs : b.size ≤ maxLen) :
    Calls Try.prog 11 #[.int .u64 (sumL h a.data.toList), .string b] w fun e w' => e = .returned (.int .u64 (sumS h (a ++ b))) ∧ w = w' := by
  have := sum_any (sumL h a.data.toList) b w (sum_bd _ _ hh) hs
  rw [← sum_append] at this
  rw [show sumS h (a ++ b) = mixI (sumL h (a.data.toList ++ b.data.toList)) from by simp [sumS]]
  exact this
theorem sumS_mix (h : Int) (a : ByteArray) (w : World) :
    Calls Try.prog 8 #[.int .u64 (sumL h a.data.toList)] w fun e w' => e = .returned (.int .u64 (sumS h a)) ∧ w = w' := mix_any _ w
theorem sumS_conv (h : Int) (s : ByteArray) (cap : Nat) (w : World) (hs : s.size ≤ 600) :
    Calls Try.prog 13 #[.int .u64 h, .slice (some ⟨w.heap.size, 0, none⟩) s.size cap] (Lib.bytesWorld w 5 s) fun e w' => e = .returned (.int .u64 (sumS h s)) ∧ Lib.bytesWorld w 5 s = w' := bytes_conv h s cap w hs
theorem sumS_conv2 (h : Int) (a b : ByteArray) (cap : Nat) (w : World) (hs : (a ++ b).size ≤ 600) :
    Calls Try.prog 13 #[.int .u64 h, .slice (some ⟨w.heap.size, 0, none⟩) (a.size + b.size) cap] (Lib.bytesWorld w 5 (a ++ b)) fun e w' => e = .returned (.int .u64 (sumS h (a ++ b))) ∧ Lib.bytesWorld w 5 (a ++ b) = w' := by
  have := sumS_conv h (a ++ b) cap w hs
  rwa [ByteArray.size_append] at this
theorem isPow_pw (k : Nat) (h : k ≤ 24) : isPow (pw k) = true := (isPow_iff _).2 ⟨k, h, rfl⟩
theorem index_yes (s n : Int) (w : World) (hs : U64 s) (h : isPow n = true) :
    Calls Try.prog 18 #[.int .u64 s, .int .i64 n] w fun e w' => e = .returned (.tuple #[.int .i64 (s % n), .int .i64 0]) ∧ w = w' := by
  have hb := isPow_bd n h
  have := hindex_any s n w hs (by omega) (by omega)
  rwa [idxI, if_pos h, idxE, if_pos h] at this
theorem power_yes (n : Int) (w : World) (h : inR n = true) :
    Calls Try.prog 19 #[.int .i64 n] w fun e w' => e = .returned (.tuple #[.int .i64 (powI n), .int .i64 0]) ∧ w = w' := by
  have hb := (inR_iff n).1 h
  have := hpower_any n w (by omega) (by omega)
  rwa [powR, if_pos h, powE, if_pos h] at this
theorem power_no (n : Int) (w : World) (h0 : -9223372036854775808 ≤ n) (h1 : n ≤ 9223372036854775807) (h : ¬ inR n = true) :
    Calls Try.prog 19 #[.int .i64 n] w fun e w' => e = .returned (.tuple #[.int .i64 0, .int .i64 3]) ∧ w = w' := by
  have := hpower_any n w h0 h1
  rwa [powR, if_neg h, powE, if_neg h] at this
theorem powR_self (n : Int) (h : inR n = true) : powR (powI n) = powI n ∧ powE (powI n) = 0 := by
  obtain ⟨b1, b2⟩ := (inR_iff n).1 h
  have b3 := powI_le n b1 b2
  have p1 := pw_pos (bl (n - 1).toNat)
  have p2 := pw_le b3
  rw [pw24] at p2
  have hi : inR (powI n) = true := (inR_iff _).2 ⟨p1, p2⟩
  exact ⟨by rw [powR, if_pos hi, powI_powI], by rw [powE, if_pos hi]⟩
theorem mod_two (s p : Int) (hp : 1 ≤ p) : 0 ≤ s % p ∧ s % p < p ∧ (s % (2 * p) = s % p ∨ s % (2 * p) = s % p + p) := by
  have h1 := Int.emod_nonneg s (show p ≠ 0 by omega)
  have h2 := Int.emod_lt_of_pos s (show 0 < p by omega)
  have h3 := Int.emod_nonneg s (show 2 * p ≠ 0 by omega)
  have h4 := Int.emod_lt_of_pos s (show 0 < 2 * p by omega)
  refine ⟨h1, h2, ?_⟩
  have e : s % p = s % (2 * p) % p := by
    rw [Int.emod_emod_of_dvd s (Int.dvd_mul_left 2 p)]
  by_cases h : s % (2 * p) < p
  · left; rw [e]; exact (Int.emod_eq_of_lt h3 h).symm
  · right
    have : (s % (2 * p) - p) % p = s % (2 * p) - p := Int.emod_eq_of_lt (by omega) (by omega)
    rw [Int.sub_emod_right] at this
    rw [e, this]; omega
theorem pw_shift (k : Nat) (h : k ≤ 23) : wrap64 (2 ^ k) = pw k := by
  have p1 := pw_pos k
  have p2 := pw_le (show k ≤ 24 by omega)
  rw [pw24] at p2
  unfold pw at *
  unfold wrap64; omega

set_option maxRecDepth 100000 in
set_option maxHeartbeats 4000000 in
theorem walk_main (h : Int) (a b : ByteArray) (x n : Int) (hh : U64 h) (ha : a.size ≤ 300) (hb : b.size ≤ 300) (n0 : -9223372036854775808 ≤ n) (n1 : n ≤ 9223372036854775807) (w : World) :
    Calls Try.prog 7 #[.int .u64 h, .string a, .string b, .int .i64 x, .int .i64 n] w fun e w' => e = .returned (.bool true) ∧ Below w.heap.size w w' := by
  have hA : a.size ≤ maxLen := by unfold maxLen; omega
  have hB : b.size ≤ maxLen := by unfold maxLen; omega
  have hAB : (a ++ b).size ≤ 600 := by rw [ByteArray.size_append]; omega
  have hAB' : (a ++ b).size ≤ maxLen := by unfold maxLen; omega
  have hc := conv_run w (a ++ b)
  have HC := Lib.hid hc; clear hc
  have HW := bytesWorld_below w.heap.size w w 5 (a ++ b) (Below.refl _ _) (Nat.le_refl _)
  have HH := Lib.hid HW; clear HW
  have HU := Lib.hid hh; clear hh
  have HA := Lib.hid hA; clear hA
  have HB := Lib.hid hB; clear hB
  have HAB := Lib.hid hAB; clear hAB
  have HAB' := Lib.hid hAB'; clear hAB'
  go_enter Try.func7, Try.ntmps7
  go_wp2_with fail
  go_loop [11, 12] (fun v i => ∃ k : Nat, k ≤ a.size ∧ i = .int .i64 k ∧ v = .int .u64 (sumL h (a.data.toList.take k))) (fun _ i => a.size - (intOf i).toNat)
  case atStart => exact ⟨0, Nat.zero_le _, rfl, rfl⟩
  case round =>
    obtain ⟨k, hk, rfl, rfl⟩ := hrel
    by_cases hlt : k < a.size
    · have HS : Hid (sumL h (a.data.toList.take (k + 1)) = addI (sumL h (a.data.toList.take k)) a[k].toNat) := sum_take h a k hlt
      have c1 := a[k].toNat_lt
      go_wp2_with fail
      go_round
      case rel => exact ⟨k + 1, by omega, by go_num, by rw [HS.out, ← add_walk]⟩
      case measure => simp [intOf]; omega
    · obtain rfl : k = a.size := by omega
      clear hk hlt
      rw [show a.data.toList.take a.size = a.data.toList from List.take_of_length_le (by simp)]
      go_wp2_with fail
      refine (sumS_any h (a ++ b) _ HU.out HAB'.out).mono ?_
      rintro e w' ⟨rfl, rfl⟩
      go_wp2_with fail
      refine (sumS_mix h a _).mono ?_
      rintro e w' ⟨rfl, rfl⟩
      go_wp2_with fail
      refine (sumS_any h a _ HU.out HA.out).mono ?_
      rintro e w' ⟨rfl, rfl⟩
      go_wp2_with fail
      refine (sumS_two h a b _ HU.out HB.out).mono ?_
      rintro e w' ⟨rfl, rfl⟩
      have hc := HC.out
      go_wp2_with fail
      clear hc HC
      refine (sumS_conv2 h a b _ _ HAB.out).mono ?_
      rintro e w' ⟨rfl, rfl⟩
      obtain ⟨s0, s1⟩ := sumS_bd h (a ++ b)
      generalize sumS h (a ++ b) = S at *
      generalize Lib.bytesWorld w 5 (a ++ b) = w1 at *
      have HS := Lib.hid (show U64 S from ⟨s0, s1⟩)
      have hx : (0 ≤ x ∧ x ≤ 23) ∨ x < 0 ∨ 23 < x := by omega
      rcases hx with hx | hx | hx
      obtain ⟨x0, x1⟩ := hx
      obtain ⟨k, rfl⟩ := Int.eq_ofNat_of_zero_le x0
      have hp1 := pw_pos k
      have hp2 := pw_le (show k ≤ 23 by omega)
      rw [show pw 23 = 8388608 from by decide] at hp2
      have HI := Lib.hid (isPow_pw k (by omega))
      have HJ : Hid (isPow (2 * pw k) = true) := by
        show _ = _
        rw [← pw_succ]; exact isPow_pw (k + 1) (by omega)
      go_wp2_with fail
      rw [pw_shift k (by omega)]
      generalize pw k = p at *
      refine (index_yes S p _ HS.out HI.out).mono ?_
      rintro e w' ⟨rfl, rfl⟩
      go_wp2_with fail
      refine (index_yes S (2 * p) _ HS.out HJ.out).mono ?_
      rintro e w' ⟨rfl, rfl⟩
      obtain ⟨m0, m1, m2⟩ := mod_two S p hp1
      generalize S % (2 * p) = y at *
      generalize S % p = z at *
      rcases m2 with rfl | rfl
      all_goals
        go_wp2_with fail
        by_cases hn : inR n = true
        · have HN := Lib.hid hn
          obtain ⟨i0, i1⟩ := (inR_iff n).1 hn
          have g0 := powI_ge n i0
          have g1 := powI_lt n i0
          have HP := Lib.hid (powR_self n hn)
          clear hn
          refine (power_yes n _ HN.out).mono ?_
          rintro e w' ⟨rfl, rfl⟩
          generalize powI n = P at *
          go_wp2_with fail
          refine (power_at P P 0 _ (by omega) (by omega) HP.out.1 HP.out.2).mono ?_
          rintro e w' ⟨rfl, rfl⟩
          go_wp2_with fail
          refine (known_at w w1 HH.out).mono ?_
          rintro e w' ⟨rfl, hw⟩
          go_wp2_with fail
          go_ret
          exact ⟨rfl, hw⟩
        · have HN := Lib.hid hn
          have hq : n < 1 ∨ 16777216 < n := by
            have : ¬ (1 ≤ n ∧ n ≤ 16777216) := fun h => hn ((inR_iff n).2 h)
            omega
          clear hn
          refine (power_no n _ n0 n1 HN.out).mono ?_
          rintro e w' ⟨rfl, rfl⟩
          rcases hq with hq | hq
          all_goals
            go_wp2_with fail
            refine (known_at w w1 HH.out).mono ?_
            rintro e w' ⟨rfl, hw⟩
            go_wp2_with fail
            go_ret
            exact ⟨rfl, hw⟩

set_option maxRecDepth 100000 in
set_option maxHeartbeats 1000000 in
theorem walk (h : Int) (a b : ByteArray) (x n : Int) (hh : (Lit.int .u64 h).wf = true) (ha : a.size ≤ maxLen) (hb : b.size ≤ maxLen) (_hx : (Lit.int .i64 x).wf = true) (hn : (Lit.int .i64 n).wf = true) (w : World) :
    Calls Try.prog 7 #[.int .u64 h, .string a, .string b, .int .i64 x, .int .i64 n] w fun e w' => e = .returned (.bool true) ∧ Below w.heap.size w w' := by
  obtain ⟨n0, n1⟩ := bounds_i64 hn
  have hU := u64_wf hh
  unfold maxLen at ha hb
  have hl : (a.size ≤ 300 ∧ b.size ≤ 300) ∨ 300 < a.size ∨ (a.size ≤ 300 ∧ 300 < b.size) := by omega
  rcases hl with ⟨h1, h2⟩ | h1 | ⟨h1, h2⟩
  · exact walk_main h a b x n hU h1 h2 n0 n1 w
  all_goals
    clear hU hh hn _hx
    go_enter Try.func7, Try.ntmps7
    go_wp2_with fail
    refine (known_any _).mono ?_
    rintro e w' ⟨rfl, hw⟩
    go_wp2_with fail
    go_ret
    exact ⟨rfl, hw⟩
end Go.Proofs.Ythabefkpgoanlaa.Wholds
