/- Proves that InternFull returns true. Conditions: as each theorem names them. -/
import Derived.Test.YtmhbfplpodikiaaAo
import Derived.Test.YtmhbfplpodikiaaAq
namespace Go.Proofs.Ytmhbfplpodikiaa.Ar
open Go.RowKit Ap Mi Nw Rg Aa Ab Ac Ad Ag Ah Ai Aj Ak Aq

theorem two_row (j : Nat) (hj : j < 65536) (w : World) : (convert 51 9 (.slice (some ⟨w.heap.size, 0, none⟩) 2 2)).run Try.prog (w.alloc (.cells #[.int .u8 ((j : Int) / 256), .int .u8 ((j : Int) % 256)] 5)) = .ok (.string (n2 j)) (w.alloc (.cells #[.int .u8 ((j : Int) / 256), .int .u8 ((j : Int) % 256)] 5)) := by
  have hm : Mine w.heap.size 1 (w.alloc (.cells #[.int .u8 ((j : Int) / 256), .int .u8 ((j : Int) % 256)] 5)) (some ⟨w.heap.size, 0, none⟩) 2 2 [.int .u8 ((j : Int) / 256), .int .u8 ((j : Int) % 256)] := Mine.lit w #[.int .u8 ((j : Int) / 256), .int .u8 ((j : Int) % 256)] 5 2 rfl (by unfold maxLen; omega)
  have e : byV [UInt8.ofNat (j / 256), UInt8.ofNat (j % 256)] = [.int .u8 ((j : Int) / 256), .int .u8 ((j : Int) % 256)] := by
    show [Value.int .u8 ((UInt8.ofNat (j / 256)).toNat : Int), Value.int .u8 ((UInt8.ofNat (j % 256)).toNat : Int)] = _
    rw [UInt8.toNat_ofNat', UInt8.toNat_ofNat', Nat.mod_eq_of_lt (show j / 256 < 2 ^ 8 by omega), Nat.mod_eq_of_lt (show j % 256 < 2 ^ 8 by omega)]
    rfl
  have hr : Rs (w.alloc (.cells #[.int .u8 ((j : Int) / 256), .int .u8 ((j : Int) % 256)] 5)) 1 (some ⟨w.heap.size, 0, none⟩) 2 2 (byV [UInt8.ofNat (j / 256), UInt8.ofNat (j % 256)]) := by rw [e]; exact Rs.mine hm
  exact conv_rs (l := [UInt8.ofNat (j / 256), UInt8.ofNat (j % 256)]) (n := 2) rfl 2 hr
set_option maxRecDepth 100000 in
set_option maxHeartbeats 4000000 in
theorem full_walk (less : Int) (hl : 0 ≤ less ∧ less ≤ 255) (w0 : World) :
    Calls Try.prog 6 #[.int .u8 less] w0 (boolTo true w0) := by
  obtain ⟨h0, h1⟩ := hl
  unfold boolTo
  by_cases h2 : less ≤ 2
  case neg =>
    have i1 : 2 < less := by omega
    go_enter Try.func6, Try.ntmps6
    go_wp2_with fail
    refine (known_any _).mono ?_
    rintro q w9 ⟨rfl, hb⟩
    have HB9 := Lib.hid hb
    clear hb
    go_wp2_with fail
    go_ret
    exact ⟨rfl, HB9.out⟩
  have i1 : ¬ 2 < less := by omega
  obtain ⟨n, hn⟩ : ∃ n : Nat, (n : Int) = 65536 - less := ⟨(65536 - less).toNat, by omega⟩
  have hn1 : 65534 ≤ n := by omega
  have hn2 : n ≤ 65536 := by omega
  have hn3 : 65536 - less = (n : Int) := hn.symm
  have hn4 : (n : Int) ≤ 65536 := by omega
  have hn5 : (0 : Int) ≤ (n : Int) := by omega
  clear hn
  have HN := Lib.hid (kp_new (m := (n : Int)) (by omega) 3 (by omega) w0)
  go_enter Try.func6, Try.ntmps6
  go_wp2_with fail
  refine HN.out.mono ?_
  rintro q w1 ⟨g, rfl, hk⟩
  have K1 : Hid (Kp w0 w1 g (n : Int) (fullL 0)) := hk
  clear hk HN
  go_wp2_with fail
  go_loopw [6] (fun i wr => ∃ k : Nat, k ≤ n ∧ i = .int .i64 (k : Int) ∧ Kp w0 wr g (n : Int) (fullL k)) (fun i _ => n - (intOf i).toNat)
  case atStart => exact ⟨0, Nat.zero_le _, rfl, K1.out⟩
  case round =>
    obtain ⟨k, hk, rfl, hkp⟩ := hrel
    have KP := Lib.hid hkp
    clear hkp K1
    by_cases hlt : k < n
    · have j1 : (k : Int) < (n : Int) := by omega
      have e1 : (k : Int).tdiv 256 = (k : Int) / 256 := Int.tdiv_eq_ediv_of_nonneg (by omega)
      have e2 : (k : Int).tmod 256 = (k : Int) % 256 := Int.tmod_eq_emod_of_nonneg (by omega)
      have b1 : 0 ≤ (k : Int) / 256 := by omega
      have b2 : (k : Int) / 256 ≤ 255 := by omega
      have b3 : 0 ≤ (k : Int) % 256 := by omega
      have b4 : (k : Int) % 256 ≤ 255 := by omega
      have hcv := two_row k (by omega) wr
      obtain ⟨s, hs⟩ : ∃ s, s = n2 k := ⟨_, rfl⟩
      rw [← hs] at hcv
      have hsz : s.size ≤ 1000000 := by rw [hs, n2_size]; omega
      have HAD : Hid (Calls Try.prog 14 #[.pointer (some ⟨g, 0, none⟩), .string s, .int .i64 (k : Int), .int .i64 0] (wr.alloc (.cells #[.int .u8 ((k : Int) / 256), .int .u8 ((k : Int) % 256)] 5)) (fun q w' => q = .returned (.bool true) ∧ Kp w0 w' g (n : Int) (fullL (k + 1)))) := by
        have h := full_add (n := k) (most := (n : Int)) (by omega) (by omega)
        rw [← hs] at h
        exact kp_adds (KP.out.below (bnew wr _)) (fine_mono (full_fine k) (by omega)) s hsz h
      clear hs
      go_wp2_with fail
      refine HAD.out.mono ?_
      rintro q w5 ⟨rfl, hk5⟩
      have K5 := Lib.hid hk5
      clear hk5 HAD hcv
      go_wp2_with fail
      go_roundw
      case rel => exact ⟨k + 1, by omega, by simp, K5.out⟩
      case measure => simp [intOf]; omega
    · obtain rfl : k = n := by omega
      have hnn : ¬ (k : Int) < (k : Int) := by omega
      clear hlt
      go_wp2_with fail
      refine (kp_adds KP.out (fine_mono (full_fine k) (by omega)) more (by decide) more_full).mono ?_
      rintro q w2 ⟨rfl, h⟩
      have K2 := Lib.hid h
      clear h
      have s7 := add_seven hn1 hn2
      go_wp2_with fail
      refine (kp_adds K2.out (fine_mono (full_fine k) (by omega)) (n2 7) (by decide) s7).mono ?_
      rintro q w3 ⟨rfl, h⟩
      have K3 := Lib.hid h
      clear h s7
      have s9 := rel_nine hn1
      go_wp2_with fail
      refine (kp_frees K3.out 9 s9).mono ?_
      rintro q w4 ⟨rfl, h⟩
      have K4 := Lib.hid h
      clear h s9
      have sm := more_nine hn1
      go_wp2_with fail
      refine (kp_adds K4.out (fine_mono (l9_fine k) (by omega)) more (by decide) sm).mono ?_
      rintro q w5 ⟨rfl, h⟩
      have K5 := Lib.hid h
      clear h sm
      have hc : (cnt (lm k) : Int) = (k : Int) := by rw [lm_cnt]
      go_wp2_with fail
      refine (kp_lens K5.out hc).mono ?_
      rintro q w6 ⟨rfl, h⟩
      have K6 := Lib.hid h
      clear h hc
      go_wp2_with fail
      refine (known_any _).mono ?_
      rintro q w9 ⟨rfl, hb⟩
      have HB9 := Lib.hid (K6.out.bl.trans (hb.mono K6.out.bl.size))
      clear hb
      go_wp2_with fail
      go_ret
      exact ⟨rfl, HB9.out⟩
end Go.Proofs.Ytmhbfplpodikiaa.Ar
