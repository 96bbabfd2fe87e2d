/- Proves that the specification's Same of layer 2 returns true at two slices that read as the same keys. Condition: few keys. -/
import Derived.Test.YthabnffmlgppdaaTa
namespace Go.Proofs.Ythabnffmlgppdaa.Ti
open Go.RowKit Ap Mi Nw Hm Tm Tn Ta

set_option maxRecDepth 100000 in
set_option maxHeartbeats 400000 in
theorem same_true {w : World} {A B : Option Addr} {n p q : Nat} {c : List (Cell Key)} (hn : c.length = n) (hA : Rs w 1 A n p (kc c)) (hB : Rs w 1 B n q (kc c)) (hl : n ≤ 1000000) :
    Calls Try.prog 31 #[.slice A n p, .slice B n q] w (boolTo true w) := by
  have HA := Lib.hid hA; have HB := Lib.hid hB; have HN := Lib.hid hn
  have g1 : (n : Int) ≤ 1000000 := by omega
  have hb : (((n : Nat) : Int) != ((n : Nat) : Int)) = false := by simp
  clear hA hB hn
  unfold boolTo
  go_enter Try.func31, Try.ntmps31
  go_wp2_with fail
  go_loopw [5] (fun i wr => ∃ k : Nat, k ≤ n ∧ i = .int .i64 (k : Int) ∧ Below w.heap.size w wr) (fun i _ => n - (intOf i).toNat)
  case atStart => exact ⟨0, Nat.zero_le _, rfl, Below.refl _ _⟩
  case round =>
    obtain ⟨k, hk, rfl, hbl⟩ := hrel
    have BL := Lib.hid hbl
    clear hbl
    by_cases hlt : k < n
    · have i1 : (k : Int) < (n : Int) := by omega
      have hkc : k < c.length := by rw [HN.out]; exact hlt
      have RA := Lib.hid (HA.out.below BL.out (Nat.le_refl _)); have RB := Lib.hid (HB.out.below BL.out (Nat.le_refl _))
      obtain ⟨ta, oa, rfl, la, a0⟩ := RA.out.rd.at_ (kc_get hkc)
      obtain ⟨tb, ob, rfl, lb, b0⟩ := RB.out.rd.at_ (kc_get hkc)
      obtain ⟨kk, hkk⟩ : ∃ kk, kk = ck c[k] := ⟨_, rfl⟩
      rw [← hkk] at a0 b0
      clear hkk
      go_wp2_with fail
      go_quiet (fail)
      obtain ⟨v, hv⟩ : ∃ v, v = wr.drewN nq := ⟨_, rfl⟩
      have BV : Hid (Below w.heap.size w v) := by
        show Below _ _ _
        rw [hv]
        exact BL.out.trans (((Only.refl (fun _ => False) wr).drewN nq).below (fun _ hf => hf.elim) BL.out.size)
      rw [← hv]
      clear hv
      go_wp2_with fail
      go_roundw
      case rel => exact ⟨k + 1, by omega, by go_num, BV.out⟩
      case measure => simp [intOf]; omega
    · obtain rfl : k = n := by omega
      have hnn : ¬ (k : Int) < k := by omega
      go_wp2_with fail
      go_ret
      exact ⟨rfl, BL.out⟩
end Go.Proofs.Ythabnffmlgppdaa.Ti
