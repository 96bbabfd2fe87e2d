/- Proves the law AccountFulls at every argument. No condition. -/
import Derived.Test.YtocfinhbocjbgaaJg
import Derived.Deep.Cut
namespace Go.Proofs.Ytocfinhbocjbgaa.Jk
open Go.RowKit Ap Mi Nw Ja Jb Jc Je Jf Jg

/-- An account with K entries of the cost c. -/
def fS (c : Int) (K : Nat) : Ac := ⟨1099511627776, 1048576, (K : Int) * c, (K : Int)⟩
theorem fS_add {c : Int} (hc : isC c) {K : Nat} (hK : K < 2097152) : addN (fS c K) c = 0 ∧ addT (fS c K) c = fS c (K + 1) := by
  have h1 : (K : Int) < 2097152 := by omega
  refine ⟨by unfold addN; rw [if_neg (by simpa using hc), if_neg (by show ¬ (2097152 : Int) ≤ (K : Int); omega)], ?_⟩
  unfold addT
  rw [if_pos ⟨hc, h1⟩]
  unfold fS
  simp only [Int.natCast_add, Ac.mk.injEq, true_and]
  exact ⟨by rw [Int.add_mul]; simp, by simp⟩
theorem full_add {c : Int} (hc : isC c) : addN (fS c 2097152) c = 7 ∧ addT (fS c 2097152) c = fS c 2097152 := by
  refine ⟨by unfold addN; rw [if_neg (by simpa using hc), if_pos (by show (2097152 : Int) ≤ ((2097152 : Nat) : Int); omega)], ?_⟩
  unfold addT
  rw [if_neg fun h => by have h2 : ((2097152 : Nat) : Int) < 2097152 := h.2; omega]
theorem full_chg {c : Int} (hc : isC c) : chgN (fS c 2097152) c 65 = 0 ∧ chgT (fS c 2097152) c 65 = ⟨1099511627776, 1048576, 2097151 * c + 65, 2097152⟩ := by
  have h2 : can (fS c 2097152) c := by
    unfold isC at hc
    unfold can fS
    simp only []
    omega
  have h1 : isC c ∧ isC 65 := ⟨hc, by decide⟩
  refine ⟨by unfold chgN; rw [if_neg (by simpa using h1), if_pos h2], ?_⟩
  unfold chgT
  rw [if_pos ⟨h1, h2⟩]
  unfold fS
  simp only [Ac.mk.injEq, true_and]
  exact ⟨by omega, by decide⟩
set_option maxRecDepth 100000 in
set_option maxHeartbeats 4000000 in
theorem fulls_walk (e c : Int) (W : World) : Calls Try.prog 5 #[.int .i64 e, .int .i64 c] W (boolTo true W) := by
  have HKN : Hid (∀ w1, Calls Try.prog 8 #[] w1 (boolTo true w1)) := fun w1 => known_any w1
  unfold boolTo at HKN ⊢
  obtain ⟨N, hN⟩ : ∃ N, N = W.heap.size := ⟨_, rfl⟩
  have HN := Lib.hid hN
  rw [← hN]
  clear hN
  by_cases h1 : e < 0
  case pos =>
    go_enter Try.func5, Try.ntmps5
    go_wp2_with fail
    refine (HKN.out W).mono ?_
    rintro q w1 ⟨rfl, hb⟩
    have HB := Lib.hid hb
    clear hb
    go_wp2_with fail
    go_ret
    exact ⟨rfl, by rw [HN.out]; exact HB.out⟩
  by_cases h2 : e > 2
  case pos =>
    have g1 : 0 ≤ e := by omega
    clear h1
    go_enter Try.func5, Try.ntmps5
    go_wp2_with fail
    refine (HKN.out W).mono ?_
    rintro q w1 ⟨rfl, hb⟩
    have HB := Lib.hid hb
    clear hb
    go_wp2_with fail
    go_ret
    exact ⟨rfl, by rw [HN.out]; exact HB.out⟩
  have g1 : 0 ≤ e := by omega
  have g2 : e ≤ 2 := by omega
  by_cases h3 : c < 65
  case pos =>
    clear h1 h2
    go_enter Try.func5, Try.ntmps5
    go_wp2_with fail
    refine (HKN.out W).mono ?_
    rintro q w1 ⟨rfl, hb⟩
    have HB := Lib.hid hb
    clear hb
    go_wp2_with fail
    go_ret
    exact ⟨rfl, by rw [HN.out]; exact HB.out⟩
  have g3 : 65 ≤ c := by omega
  by_cases h4 : c > 67000
  case pos =>
    clear h1 h2 h3
    go_enter Try.func5, Try.ntmps5
    go_wp2_with fail
    refine (HKN.out W).mono ?_
    rintro q w1 ⟨rfl, hb⟩
    have HB := Lib.hid hb
    clear hb
    go_wp2_with fail
    go_ret
    exact ⟨rfl, by rw [HN.out]; exact HB.out⟩
  have g4 : c ≤ 67000 := by omega
  have hc : isC c := ⟨g3, g4⟩
  have HC := Lib.hid hc
  have HFA : Hid (∀ K : Nat, K < 2097152 → addN (fS c K) c = 0 ∧ addT (fS c K) c = fS c (K + 1)) := fun K hK => fS_add hc hK
  clear h1 h2 h3 h4 hc
  have he : e = 0 ∨ e = 1 ∨ e = 2 := by omega
  clear g1 g2
  rcases he with rfl | rfl | rfl
  · go_enter Try.func5, Try.ntmps5
    go_wp2_with fail
    refine (new_yes (b := 1099511627776) (e := 1048576) ⟨by omega, by omega, by omega, by omega⟩ W).mono ?_
    rintro q w1 ⟨g, rfl, ht, hb⟩
    have K0 : Hid (Kn N W w1 g (fS c 0)) := by
      have e0 : fS c 0 = ⟨1099511627776, 1048576, 0, 0⟩ := by unfold fS; simp
      show Kn _ _ _ _ _
      rw [e0]
      exact ⟨ht.mono (fun j _ hj => by rw [HN.out]; exact hj), by rw [HN.out]; exact hb, by rw [HN.out]; exact hb.size⟩
    clear ht hb
    go_wp2_with fail
    go_loopw [8] (fun i wr => ∃ K : Nat, K ≤ 2097152 ∧ i = .int .i64 (K : Int) ∧ Hid (Kn N W wr g (fS c K))) (fun i _ => 2097152 - (intOf i).toNat)
    case atStart => exact ⟨0, Nat.zero_le _, rfl, K0⟩
    case round =>
      obtain ⟨K, hK, rfl, KN⟩ := hrel
      clear K0
      by_cases hlt : K < 2097152
      · have j1 : (K : Int) < 2097152 := by omega
        obtain ⟨a1, a2⟩ := HFA.out K (by omega)
        have HA := Lib.hid (KN.out.add c a1 a2)
        clear a1 a2
        go_wp2_with fail
        refine HA.out.mono ?_
        rintro q w2 ⟨rfl, hk⟩
        have K2 := Lib.hid hk
        clear hk HA
        go_wp2_with fail
        go_roundw
        case rel => exact ⟨K + 1, by omega, by go_num, K2⟩
        case measure => simp [intOf]; omega
      · obtain rfl : K = 2097152 := by omega
        clear hlt hK
        have K1 := KN
        clear KN
        go_wp2_with fail
        refine (K1.out.used (x := 2097152 * c) (n := 2097152) (by unfold fS; rfl) (by unfold fS; rfl)).mono ?_
        rintro q w12 ⟨rfl, hk⟩
        have K2 := Lib.hid hk
        clear hk K1
        go_wp2_with fail
        refine (K2.out.over (n := 1048576) (by have := HC.out; unfold isC at this; show max 0 (_ : Int) = _; unfold fS; simp only []; omega) (by show ovE _ = _; unfold ovE fS; simp only []; omega)).mono ?_
        rintro q w13 ⟨rfl, hk⟩
        have K3 := Lib.hid hk
        clear hk K2
        go_wp2_with fail
        refine (K3.out.add (s' := fS c 2097152) (e := 7) c (full_add HC.out).1 (full_add HC.out).2).mono ?_
        rintro q w14 ⟨rfl, hk⟩
        have K4 := Lib.hid hk
        clear hk K3
        go_wp2_with fail
        refine (K4.out.chg (s' := ⟨1099511627776, 1048576, 2097151 * c + 65, 2097152⟩) (e := 0) c 65 (full_chg HC.out).1 (full_chg HC.out).2).mono ?_
        rintro q w15 ⟨rfl, hk⟩
        have K5 := Lib.hid hk
        clear hk K4
        go_wp2_with fail
        refine (K5.out.used (x := 2097151 * c + 65) (n := 2097152) rfl rfl).mono ?_
        rintro q w16 ⟨rfl, hk⟩
        have K6 := Lib.hid hk
        clear hk K5
        go_wp2_with fail
        have B := Lib.hid K6.out.b; have Z := Lib.hid K6.out.z
        refine (HKN.out w16).mono ?_
        rintro q w30 ⟨rfl, hb⟩
        have HB := Lib.hid (B.out.trans (hb.mono Z.out))
        clear hb
        go_wp2_with fail
        go_ret
        exact ⟨rfl, HB.out⟩
  · go_enter Try.func5, Try.ntmps5
    go_wp2_with fail
    refine (new_yes (b := 1099511627776) (e := 1048576) ⟨by omega, by omega, by omega, by omega⟩ W).mono ?_
    rintro q w1 ⟨g, rfl, ht, hb⟩
    have K0 : Hid (Kn N W w1 g (fS c 0)) := by
      have e0 : fS c 0 = ⟨1099511627776, 1048576, 0, 0⟩ := by unfold fS; simp
      show Kn _ _ _ _ _
      rw [e0]
      exact ⟨ht.mono (fun j _ hj => by rw [HN.out]; exact hj), by rw [HN.out]; exact hb, by rw [HN.out]; exact hb.size⟩
    clear ht hb
    go_wp2_with fail
    go_loopw [8] (fun i wr => ∃ K : Nat, K ≤ 2097151 ∧ i = .int .i64 (K : Int) ∧ Hid (Kn N W wr g (fS c K))) (fun i _ => 2097151 - (intOf i).toNat)
    case atStart => exact ⟨0, Nat.zero_le _, rfl, K0⟩
    case round =>
      obtain ⟨K, hK, rfl, KN⟩ := hrel
      clear K0
      by_cases hlt : K < 2097151
      · have j1 : (K : Int) < 2097151 := by omega
        obtain ⟨a1, a2⟩ := HFA.out K (by omega)
        have HA := Lib.hid (KN.out.add c a1 a2)
        clear a1 a2
        go_wp2_with fail
        refine HA.out.mono ?_
        rintro q w2 ⟨rfl, hk⟩
        have K2 := Lib.hid hk
        clear hk HA
        go_wp2_with fail
        go_roundw
        case rel => exact ⟨K + 1, by omega, by go_num, K2⟩
        case measure => simp [intOf]; omega
      · obtain rfl : K = 2097151 := by omega
        clear hlt hK
        have K1 := KN
        clear KN
        go_wp2_with fail
        refine (K1.out.used (x := 2097151 * c) (n := 2097151) (by unfold fS; rfl) (by unfold fS; rfl)).mono ?_
        rintro q w12 ⟨rfl, hk⟩
        have K2 := Lib.hid hk
        clear hk K1
        go_wp2_with fail
        refine (K2.out.over (n := 1048575) (by have := HC.out; unfold isC at this; show max 0 (_ : Int) = _; unfold fS; simp only []; omega) (by show ovE _ = _; unfold ovE fS; simp only []; omega)).mono ?_
        rintro q w13 ⟨rfl, hk⟩
        have K3 := Lib.hid hk
        clear hk K2
        go_wp2_with fail
        refine (K3.out.add (s' := fS c 2097152) (e := 0) c (HFA.out 2097151 (by omega)).1 (HFA.out 2097151 (by omega)).2).mono ?_
        rintro q w14 ⟨rfl, hk⟩
        have K4 := Lib.hid hk
        clear hk K3
        go_wp2_with fail
        refine (K4.out.used (x := 2097152 * c) (n := 2097152) (by unfold fS; rfl) (by unfold fS; rfl)).mono ?_
        rintro q w15 ⟨rfl, hk⟩
        have K5 := Lib.hid hk
        clear hk K4
        go_wp2_with fail
        have B := Lib.hid K5.out.b; have Z := Lib.hid K5.out.z
        refine (HKN.out w15).mono ?_
        rintro q w30 ⟨rfl, hb⟩
        have HB := Lib.hid (B.out.trans (hb.mono Z.out))
        clear hb
        go_wp2_with fail
        go_ret
        exact ⟨rfl, HB.out⟩
  · go_enter Try.func5, Try.ntmps5
    go_wp2_with fail
    refine (new_yes (b := 1099511627776) (e := 1048576) ⟨by omega, by omega, by omega, by omega⟩ W).mono ?_
    rintro q w1 ⟨g, rfl, ht, hb⟩
    have K0 : Hid (Kn N W w1 g (fS c 0)) := by
      have e0 : fS c 0 = ⟨1099511627776, 1048576, 0, 0⟩ := by unfold fS; simp
      show Kn _ _ _ _ _
      rw [e0]
      exact ⟨ht.mono (fun j _ hj => by rw [HN.out]; exact hj), by rw [HN.out]; exact hb, by rw [HN.out]; exact hb.size⟩
    clear ht hb
    go_wp2_with fail
    go_loopw [8] (fun i wr => ∃ K : Nat, K ≤ 2097150 ∧ i = .int .i64 (K : Int) ∧ Hid (Kn N W wr g (fS c K))) (fun i _ => 2097150 - (intOf i).toNat)
    case atStart => exact ⟨0, Nat.zero_le _, rfl, K0⟩
    case round =>
      obtain ⟨K, hK, rfl, KN⟩ := hrel
      clear K0
      by_cases hlt : K < 2097150
      · have j1 : (K : Int) < 2097150 := by omega
        obtain ⟨a1, a2⟩ := HFA.out K (by omega)
        have HA := Lib.hid (KN.out.add c a1 a2)
        clear a1 a2
        go_wp2_with fail
        refine HA.out.mono ?_
        rintro q w2 ⟨rfl, hk⟩
        have K2 := Lib.hid hk
        clear hk HA
        go_wp2_with fail
        go_roundw
        case rel => exact ⟨K + 1, by omega, by go_num, K2⟩
        case measure => simp [intOf]; omega
      · obtain rfl : K = 2097150 := by omega
        clear hlt hK
        have K1 := KN
        clear KN
        go_wp2_with fail
        refine (K1.out.used (x := 2097150 * c) (n := 2097150) (by unfold fS; rfl) (by unfold fS; rfl)).mono ?_
        rintro q w12 ⟨rfl, hk⟩
        have K2 := Lib.hid hk
        clear hk K1
        go_wp2_with fail
        refine (K2.out.over (n := 1048574) (by have := HC.out; unfold isC at this; show max 0 (_ : Int) = _; unfold fS; simp only []; omega) (by show ovE _ = _; unfold ovE fS; simp only []; omega)).mono ?_
        rintro q w13 ⟨rfl, hk⟩
        have K3 := Lib.hid hk
        clear hk K2
        go_wp2_with fail
        refine (K3.out.add (s' := fS c 2097151) (e := 0) c (HFA.out 2097150 (by omega)).1 (HFA.out 2097150 (by omega)).2).mono ?_
        rintro q w14 ⟨rfl, hk⟩
        have K4 := Lib.hid hk
        clear hk K3
        go_wp2_with fail
        refine (K4.out.used (x := 2097151 * c) (n := 2097151) (by unfold fS; rfl) (by unfold fS; rfl)).mono ?_
        rintro q w15 ⟨rfl, hk⟩
        have K5 := Lib.hid hk
        clear hk K4
        go_wp2_with fail
        have B := Lib.hid K5.out.b; have Z := Lib.hid K5.out.z
        refine (HKN.out w15).mono ?_
        rintro q w30 ⟨rfl, hb⟩
        have HB := Lib.hid (B.out.trans (hb.mono Z.out))
        clear hb
        go_wp2_with fail
        go_ret
        exact ⟨rfl, HB.out⟩
end Go.Proofs.Ytocfinhbocjbgaa.Jk
