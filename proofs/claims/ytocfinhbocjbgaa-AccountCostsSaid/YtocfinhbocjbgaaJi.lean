/- Proves the law AccountCosts at every argument. No condition but that the tags read as a list of strings. -/
import Derived.Test.YtocfinhbocjbgaaJg
import Derived.Deep.Cut
namespace Go.Proofs.Ytocfinhbocjbgaa.Ji
open Go.RowKit Ap Mi Nw Ja Jb Jc Je Jf Jg

set_option maxRecDepth 100000 in
set_option maxHeartbeats 2000000 in
theorem costs_walk (k : ByteArray) (n : Int) (A : Option Addr) (c : Nat) (l : List ByteArray) (W : World) (hk : k.size ≤ 9223372036854775807) (hl : Sl W A l c) (hs : ∀ t ∈ l, t.size ≤ 9223372036854775807) :
    Calls Try.prog 3 #[.string k, .int .i64 n, .slice A l.length c] W (boolTo true W) := by
  have HS := Lib.hid hl
  have HT := Lib.hid hs
  have hcl := Rs.le hl
  have hcm := Rs.max hl
  unfold maxLen at hcm
  unfold boolTo
  clear hl hs
  have HKN : Hid (∀ w1, Calls Try.prog 8 #[] w1 (boolTo true w1)) := fun w1 => known_any w1
  unfold boolTo at HKN
  by_cases h1 : 600 < k.size
  case pos =>
    have g1 : (k.size : Int) > 600 := by omega
    clear h1
    go_enter Try.func3, Try.ntmps3
    go_wp2_with fail
    refine (HKN.out W).mono ?_
    rintro q w1 ⟨rfl, hb⟩
    have HB := Lib.hid hb
    clear hb
    go_wp2_with fail
    go_ret
    exact ⟨rfl, HB.out⟩
  have g1 : ¬ (k.size : Int) > 600 := by omega
  by_cases h2 : n < 0
  case pos =>
    clear h1
    go_enter Try.func3, Try.ntmps3
    go_wp2_with fail
    refine (HKN.out W).mono ?_
    rintro q w1 ⟨rfl, hb⟩
    have HB := Lib.hid hb
    clear hb
    go_wp2_with fail
    go_ret
    exact ⟨rfl, HB.out⟩
  have g2 : 0 ≤ n := by omega
  by_cases h3 : n > 66000
  case pos =>
    clear h1 h2
    go_enter Try.func3, Try.ntmps3
    go_wp2_with fail
    refine (HKN.out W).mono ?_
    rintro q w1 ⟨rfl, hb⟩
    have HB := Lib.hid hb
    clear hb
    go_wp2_with fail
    go_ret
    exact ⟨rfl, HB.out⟩
  have g3 : n ≤ 66000 := by omega
  by_cases h4 : 40 < l.length
  case pos =>
    have g4 : (l.length : Int) > 40 := by omega
    clear h1 h2 h3 h4
    go_enter Try.func3, Try.ntmps3
    go_wp2_with fail
    refine (HKN.out W).mono ?_
    rintro q w1 ⟨rfl, hb⟩
    have HB := Lib.hid hb
    clear hb
    go_wp2_with fail
    go_ret
    exact ⟨rfl, HB.out⟩
  have g4 : (l.length : Int) ≤ 40 := by omega
  have hl40 : l.length ≤ 40 := by omega
  obtain ⟨vn, hvn⟩ : ∃ vn : Nat, n = (vn : Int) := ⟨n.toNat, by omega⟩
  subst hvn
  have hv : vn ≤ 100000 := by omega
  clear h1 h2 h3 h4 g2
  go_enter Try.func3, Try.ntmps3
  go_wp2_with fail
  go_loopw [30] (fun i wr => ∃ K : Nat, K ≤ l.length ∧ i = .int .i64 (K : Int) ∧ wr = W ∧ Hid (∀ i (h : i < l.length), i < K → l[i].size ≤ 100)) (fun i _ => l.length - (intOf i).toNat)
  case atStart => exact ⟨0, Nat.zero_le _, rfl, rfl, fun i h hi => by omega⟩
  case round =>
    obtain ⟨K, hK, rfl, rfl, HLT⟩ := hrel
    by_cases hlt : K < l.length
    · have j1 : (K : Int) < (l.length : Int) := by omega
      obtain ⟨b, o, rfl, lb, a0⟩ := HS.out.at_ hlt
      have hts := HT.out _ (List.getElem_mem hlt)
      obtain ⟨t, ht⟩ : ∃ t, t = l[K] := ⟨_, rfl⟩
      rw [← ht] at a0 hts
      have HTK := Lib.hid ht
      clear ht
      by_cases h5 : 100 < t.size
      · have g5 : (t.size : Int) > 100 := by omega
        clear h5
        go_wp2_with fail
        refine (HKN.out wr).mono ?_
        rintro q w1 ⟨rfl, hb⟩
        have HB := Lib.hid hb
        clear hb
        go_wp2_with fail
        go_ret
        exact ⟨rfl, HB.out⟩
      · have g5 : ¬ (t.size : Int) > 100 := by omega
        have HN2 : Hid (∀ i (h : i < l.length), i < K + 1 → l[i].size ≤ 100) := fun i h hi => by
          by_cases e : i = K
          · subst e; rw [← HTK.out]; omega
          · exact HLT.out i h (by omega)
        clear h5
        go_wp2_with fail
        go_roundw
        case rel => exact ⟨K + 1, by omega, by go_num, trivial, HN2⟩
        case measure => simp [intOf]; omega
    · obtain rfl : K = l.length := by omega
      have hnn : ¬ (l.length : Int) < l.length := by omega
      clear hlt
      obtain ⟨w1, hmk, b1⟩ := make_any vn wr hv
      have HB1 := Lib.hid b1
      have HC := Lib.hid (cost_any k vn c vn (some ⟨wr.heap.size, 0, none⟩) A l w1 (HS.out.below b1 (Nat.le_refl _)) hv)
      unfold vPost at HC
      obtain ⟨cv, hcv⟩ : ∃ z, z = costV k vn l := ⟨_, rfl⟩
      obtain ⟨cn, hcn⟩ : ∃ z, z = costN k vn l := ⟨_, rfl⟩
      have HCV := Lib.hid hcv; have HCN := Lib.hid hcn
      rw [← hcv, ← hcn] at HC
      clear b1 hcv hcn
      go_wp2_with fail
      refine HC.out.mono ?_
      rintro q w2 ⟨rfl, hb⟩
      have HB2 := Lib.hid (HB1.out.trans (hb.mono HB1.out.size))
      clear hb HC
      go_wp2_with fail
      refine (costs_is k vn (HS.out.below HB2.out (Nat.le_refl _)) hv (by omega) (fun t ht => by obtain ⟨i, hi, rfl⟩ := List.getElem_of_mem ht; have := HLT.out i hi hi; omega) HCV.out.symm HCN.out.symm).mono ?_
      rintro q w3 ⟨rfl, hb⟩
      have HB3 := Lib.hid (HB2.out.trans (hb.mono HB2.out.size))
      clear hb
      go_wp2_with fail
      refine (HKN.out w3).mono ?_
      rintro q w4 ⟨rfl, hb⟩
      have HB4 := Lib.hid (HB3.out.trans (hb.mono HB3.out.size))
      clear hb
      go_wp2_with fail
      go_ret
      exact ⟨rfl, HB4.out⟩
end Go.Proofs.Ytocfinhbocjbgaa.Ji
