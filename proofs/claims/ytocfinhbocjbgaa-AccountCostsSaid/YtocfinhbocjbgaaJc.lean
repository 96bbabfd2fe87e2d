/- Proves what the specification's Cost returns for a key, a value's length and tags. Conditions: as each theorem names them. -/
import Derived.Test.YtocfinhbocjbgaaJb
import Derived.Deep.RegionHeld3
namespace Go.Proofs.Ytocfinhbocjbgaa.Jc
open Go.RowKit Ap Mi Nw Ja Jb

def strs (l : List ByteArray) : List Value := l.map Value.string
/-- A slice that reads as a list of strings. -/
def Sl (w : World) (A : Option Addr) (l : List ByteArray) (c : Nat) : Prop := Rs w 1 A l.length c (strs l)
theorem Sl.below {w w' : World} {A : Option Addr} {l : List ByteArray} {c B : Nat} (h : Sl w A l c) (hb : Below B w w') (hB : w.heap.size ≤ B) : Sl w' A l c := Rs.below h hb hB
theorem Sl.at_ {w : World} {A : Option Addr} {l : List ByteArray} {c : Nat} (h : Sl w A l c) {i : Nat} (hi : i < l.length) : ∃ b o, A = some ⟨b, o, none⟩ ∧ b < w.heap.size ∧ w.cell? ⟨b, o + i, none⟩ = some (.string l[i]) :=
  (Rs.rd h).at_ (by unfold strs; rw [List.getElem?_map, List.getElem?_eq_getElem hi]; rfl)
/-- Keys and tags by their lengths. -/
def keyOk (k : ByteArray) : Prop := 1 ≤ k.size ∧ k.size ≤ 250
instance (k : ByteArray) : Decidable (keyOk k) := inferInstanceAs (Decidable (_ ∧ _))
def tagOk (k : ByteArray) : Prop := 1 ≤ k.size ∧ k.size ≤ 64
instance (k : ByteArray) : Decidable (tagOk k) := inferInstanceAs (Decidable (_ ∧ _))
theorem valid_any (k : ByteArray) (w : World) : Calls Try.prog 28 #[.string k] w fun q w' => q = .returned (.bool (decide (keyOk k))) ∧ w' = w := by
  by_cases h0 : 1 ≤ k.size
  · by_cases h1 : k.size ≤ 250
    · have HS : Hid (keyOk k) := ⟨h0, h1⟩
      have g0 : (k.size : Int) ≥ 1 := by omega
      have g1 : (k.size : Int) ≤ 250 := by omega
      go_enter Try.func28, Try.ntmps28
      go_wp2_with fail
      go_ret
      exact ⟨retB (by simp [HS.out]), rfl⟩
    · have HS : Hid (¬ keyOk k) := fun h => h1 h.2
      have g0 : (k.size : Int) ≥ 1 := by omega
      have g1 : ¬ (k.size : Int) ≤ 250 := by omega
      go_enter Try.func28, Try.ntmps28
      go_wp2_with fail
      go_ret
      exact ⟨retB (by simp [HS.out]), rfl⟩
  · have HS : Hid (¬ keyOk k) := fun h => h0 h.1
    have g0 : ¬ (k.size : Int) ≥ 1 := by omega
    go_enter Try.func28, Try.ntmps28
    go_wp2_with fail
    go_ret
    exact ⟨retB (by simp [HS.out]), rfl⟩
theorem vtag_any (k : ByteArray) (w : World) : Calls Try.prog 29 #[.string k] w fun q w' => q = .returned (.bool (decide (tagOk k))) ∧ w' = w := by
  by_cases h0 : 1 ≤ k.size
  · by_cases h1 : k.size ≤ 64
    · have HS : Hid (tagOk k) := ⟨h0, h1⟩
      have g0 : (k.size : Int) ≥ 1 := by omega
      have g1 : (k.size : Int) ≤ 64 := by omega
      go_enter Try.func29, Try.ntmps29
      go_wp2_with fail
      go_ret
      exact ⟨retB (by simp [HS.out]), rfl⟩
    · have HS : Hid (¬ tagOk k) := fun h => h1 h.2
      have g0 : (k.size : Int) ≥ 1 := by omega
      have g1 : ¬ (k.size : Int) ≤ 64 := by omega
      go_enter Try.func29, Try.ntmps29
      go_wp2_with fail
      go_ret
      exact ⟨retB (by simp [HS.out]), rfl⟩
  · have HS : Hid (¬ tagOk k) := fun h => h0 h.1
    have g0 : ¬ (k.size : Int) ≥ 1 := by omega
    go_enter Try.func29, Try.ntmps29
    go_wp2_with fail
    go_ret
    exact ⟨retB (by simp [HS.out]), rfl⟩
/-- The first K tags are tags, in order. -/
def good (l : List ByteArray) (K : Nat) : Prop := ∀ i (h : i < l.length), i < K → tagOk l[i] ∧ (0 < i → Op.bytesLess (l[i - 1]'(by omega)).toList l[i].toList = true)
def sumT (l : List ByteArray) (K : Nat) : Nat := ((l.take K).map ByteArray.size).sum
theorem sumT_succ {l : List ByteArray} {K : Nat} (h : K < l.length) : sumT l (K + 1) = sumT l K + l[K].size := by
  unfold sumT
  rw [List.take_succ_eq_append_getElem h, List.map_append, List.sum_append]; simp
theorem good_succ {l : List ByteArray} {K : Nat} (hK : K < l.length) (hg : good l K) (h1 : tagOk l[K]) (h2 : 0 < K → Op.bytesLess (l[K - 1]'(by omega)).toList l[K].toList = true) : good l (K + 1) := fun i hi hiK => by
  by_cases e : i = K
  · subst e; exact ⟨h1, h2⟩
  · exact hg i hi (by omega)
theorem sumT_le {l : List ByteArray} : ∀ {K : Nat}, K ≤ l.length → good l K → sumT l K ≤ 64 * K
  | 0, _, _ => by simp [sumT]
  | K + 1, hK, hg => by
    have h1 := sumT_le (K := K) (by omega) (fun i hi hiK => hg i hi (by omega))
    have h2 := (hg K (by omega) (by omega)).1.2
    rw [sumT_succ (by omega)]
    omega
/-- Tags in order. -/
def okT (l : List ByteArray) : Prop := l.length ≤ 16 ∧ good l l.length
open Classical in
noncomputable def costN (k : ByteArray) (vn : Nat) (l : List ByteArray) : Int := if ¬ (keyOk k ∧ okT l) then 2 else if 65536 < vn then 5 else 0
open Classical in
noncomputable def costV (k : ByteArray) (vn : Nat) (l : List ByteArray) : Int := if (keyOk k ∧ okT l) ∧ vn ≤ 65536 then 64 + (k.size : Int) + (vn : Int) + (sumT l l.length : Int) else 0
theorem cost_bad {k : ByteArray} {vn : Nat} {l : List ByteArray} (h : ¬ (keyOk k ∧ okT l)) : costV k vn l = 0 ∧ costN k vn l = 2 := ⟨if_neg (fun g => h g.1), if_pos h⟩
theorem cost_long {k : ByteArray} {vn : Nat} {l : List ByteArray} (h : keyOk k ∧ okT l) (hv : 65536 < vn) : costV k vn l = 0 ∧ costN k vn l = 5 := ⟨if_neg (fun g => by have := g.2; omega), by unfold costN; rw [if_neg (fun g => g h), if_pos hv]⟩
theorem cost_good {k : ByteArray} {vn : Nat} {l : List ByteArray} (h : keyOk k ∧ okT l) (hv : vn ≤ 65536) : costV k vn l = 64 + (k.size : Int) + (vn : Int) + (sumT l l.length : Int) ∧ costN k vn l = 0 := ⟨if_pos ⟨h, hv⟩, by unfold costN; rw [if_neg (fun g => g h), if_neg (by omega)]⟩
set_option maxRecDepth 100000 in
set_option maxHeartbeats 1000000 in
theorem cost_any (k : ByteArray) (vn c vc : Nat) (V A : Option Addr) (l : List ByteArray) (w : World) (hl : Sl w A l c) (hv : vn ≤ 100000) :
    Calls Try.prog 9 #[.string k, .slice V vn vc, .slice A l.length c] w (vPost w (.tuple #[.int .i64 (costV k vn l), .int .i64 (costN k vn l)])) := by
  have HS := Lib.hid hl
  have g2 : (vn : Int) ≤ 100000 := by omega
  have hcap := Rs.max hl
  unfold maxLen at hcap
  unfold vPost
  clear hl
  by_cases hk : keyOk k
  case neg =>
    have HK := Lib.hid (valid_any k w)
    rw [decide_eq_false hk] at HK
    obtain ⟨e1, e2⟩ := cost_bad (vn := vn) (l := l) (fun g : keyOk k ∧ okT l => hk g.1)
    rw [e1, e2]
    clear hk e1 e2
    go_enter Try.func9, Try.ntmps9
    go_wp2_with fail
    refine HK.out.mono ?_
    rintro q w1 ⟨rfl, rfl⟩
    go_wp2_with fail
    go_ret2
    exact ⟨rfl, Below.refl _ _⟩
  have HK := Lib.hid (valid_any k w)
  rw [decide_eq_true hk] at HK
  have HKO := Lib.hid hk
  obtain ⟨hk1, hk2⟩ := hk
  have g1 : (k.size : Int) ≤ 250 := by omega
  by_cases h16 : 16 < l.length
  case pos =>
    obtain ⟨e1, e2⟩ := cost_bad (vn := vn) (l := l) (fun g : keyOk k ∧ okT l => by have := g.2.1; omega)
    rw [e1, e2]
    have g3 : (l.length : Int) > 16 := by omega
    clear e1 e2 h16
    go_enter Try.func9, Try.ntmps9
    go_wp2_with fail
    refine HK.out.mono ?_
    rintro q w1 ⟨rfl, rfl⟩
    go_wp2_with fail
    go_ret2
    exact ⟨rfl, Below.refl _ _⟩
  have g3 : (l.length : Int) ≤ 16 := by omega
  have hl16 : l.length ≤ 16 := by omega
  have HB : Hid (¬ good l l.length → costV k vn l = 0 ∧ costN k vn l = 2) := fun h => cost_bad (fun g => h g.2.2)
  have HG : Hid (good l l.length → vn ≤ 65536 → costV k vn l = 64 + (k.size : Int) + (vn : Int) + (sumT l l.length : Int) ∧ costN k vn l = 0) := fun h hv => cost_good ⟨HKO.out, hl16, h⟩ hv
  have HL : Hid (good l l.length → 65536 < vn → costV k vn l = 0 ∧ costN k vn l = 5) := fun h hv => cost_long ⟨HKO.out, hl16, h⟩ hv
  obtain ⟨cv, hcv⟩ : ∃ z, z = costV k vn l := ⟨_, rfl⟩
  obtain ⟨cn, hcn⟩ : ∃ z, z = costN k vn l := ⟨_, rfl⟩
  rw [← hcv, ← hcn] at HB HG HL ⊢
  clear hcv hcn h16
  go_enter Try.func9, Try.ntmps9
  go_wp2_with fail
  refine HK.out.mono ?_
  rintro q w1 ⟨rfl, rfl⟩
  go_wp2_with fail
  go_loopw [8, 9] (fun s i wr => ∃ K : Nat, K ≤ l.length ∧ i = .int .i64 (K : Int) ∧ s = .int .i64 (64 + (k.size : Int) + (vn : Int) + (sumT l K : Int)) ∧ Hid (good l K) ∧ Below w1.heap.size w1 wr) (fun _ i _ => l.length - (intOf i).toNat)
  case atStart => exact ⟨0, Nat.zero_le _, rfl, by simp [sumT], (fun i h hi => by omega), Below.refl _ _⟩
  case round =>
    obtain ⟨K, hK, rfl, rfl, GK, hb⟩ := hrel
    have HBW := Lib.hid hb
    have hsum := sumT_le hK GK.out
    obtain ⟨sk, hsk⟩ : ∃ z, z = sumT l K := ⟨_, rfl⟩
    have HSK := Lib.hid hsk
    rw [← hsk] at hsum ⊢
    clear hb hsk
    by_cases hlt : K < l.length
    · have j1 : (K : Int) < (l.length : Int) := by omega
      have SL := HS.out.below HBW.out (Nat.le_refl _)
      obtain ⟨b, o, rfl, lb, a0⟩ := SL.at_ hlt
      obtain ⟨t, ht⟩ : ∃ t, t = l[K] := ⟨_, rfl⟩
      have HT := Lib.hid ht
      rw [← ht] at a0
      clear ht
      by_cases hto : tagOk t
      case neg =>
        have HVT : Hid (∀ W, Calls Try.prog 29 #[.string t] W fun q w' => q = .returned (.bool false) ∧ w' = W) := fun W => by have := vtag_any t W; rw [decide_eq_false hto] at this; exact this
        have HR := Lib.hid (HB.out (fun g => hto (by rw [HT.out]; exact (g K hlt hlt).1)))
        clear hto SL
        go_wp2_with fail
        go_quiet ((go_at_call 29; exact Calls.quiet_of_same (HVT.out _)))
        go_wp2_with fail
        go_ret2
        exact ⟨(by rw [HR.out.1, HR.out.2]; try rfl), HBW.out.trans (((Only.refl (fun _ => False) wr).drewN nq).below (fun _ h => h.elim) HBW.out.size)⟩
      have HVT : Hid (∀ W, Calls Try.prog 29 #[.string t] W fun q w' => q = .returned (.bool true) ∧ w' = W) := fun W => by have := vtag_any t W; rw [decide_eq_true hto] at this; exact this
      have hts : t.size ≤ 64 := hto.2
      have HTO := Lib.hid hto
      clear hto
      by_cases h0 : 0 < K
      · obtain ⟨b', o', e, _, a1⟩ := SL.at_ (i := K - 1) (by omega)
        injection e with e; injection e with e1 e2
        subst e1; subst e2
        obtain ⟨p, hp⟩ : ∃ p, p = l[K - 1] := ⟨_, rfl⟩
        have HP := Lib.hid hp
        rw [← hp] at a1
        have hw : ((K : Int) - 1) = ((K - 1 : Nat) : Int) := by omega
        have hgt : decide ((0 : Int) < (K : Int)) = true := by simp; omega
        have hgt2 : decide (0 < K) = true := by simp; omega
        clear hp SL
        by_cases hless : Op.bytesLess p.toList t.toList = true
        · have HLS := Lib.hid hless
          have hl2 : (!Op.bytesLess p.toList t.toList) = false := by rw [hless]; rfl
          clear hless
          go_wp2_with fail
          go_quiet ((go_at_call 29; exact Calls.quiet_of_same (HVT.out _)))
          go_wp2_with fail
          go_roundw
          case rel => exact ⟨K + 1, by omega, by go_num, by rw [sumT_succ hlt, ← HSK.out, ← HT.out]; go_num, good_succ hlt GK.out (by rw [← HT.out]; exact HTO.out) (fun _ => by rw [← HT.out, ← HP.out]; exact HLS.out), HBW.out.trans (((Only.refl (fun _ => False) wr).drewN nq).below (fun _ h => h.elim) HBW.out.size)⟩
          case measure => simp [intOf]; omega
        · have hl2 : (!Op.bytesLess p.toList t.toList) = true := by simpa using hless
          have HR := Lib.hid (HB.out (fun g => hless (by rw [HT.out, HP.out]; exact (g K hlt hlt).2 h0)))
          clear hless
          go_wp2_with fail
          go_quiet ((go_at_call 29; exact Calls.quiet_of_same (HVT.out _)))
          go_wp2_with fail
          go_ret2
          exact ⟨(by rw [HR.out.1, HR.out.2]; try rfl), HBW.out.trans (((Only.refl (fun _ => False) wr).drewN nq).below (fun _ h => h.elim) HBW.out.size)⟩
      · have hgt : decide ((0 : Int) < (K : Int)) = false := by simp; omega
        have hgt2 : decide (0 < K) = false := by simp; omega
        have HK0 : Hid (¬ 0 < K) := h0
        clear SL h0
        go_wp2_with fail
        go_quiet ((go_at_call 29; exact Calls.quiet_of_same (HVT.out _)))
        go_wp2_with fail
        go_roundw
        case rel => exact ⟨K + 1, by omega, by go_num, by rw [sumT_succ hlt, ← HSK.out, ← HT.out]; go_num, good_succ hlt GK.out (by rw [← HT.out]; exact HTO.out) (fun h => absurd h HK0.out), HBW.out.trans (((Only.refl (fun _ => False) wr).drewN nq).below (fun _ h => h.elim) HBW.out.size)⟩
        case measure => simp [intOf]; omega
    · obtain rfl : K = l.length := by omega
      have hnn : ¬ (l.length : Int) < l.length := by omega
      clear hlt
      by_cases hvn : 65536 < vn
      · have hvI : (vn : Int) > 65536 := by omega
        have HR := Lib.hid (HL.out GK.out hvn)
        clear hvn
        go_wp2_with fail
        go_wp2_with fail
        go_ret2
        exact ⟨(by rw [HR.out.1, HR.out.2]; try rfl), HBW.out⟩
      · have hvI : ¬ (vn : Int) > 65536 := by omega
        have HR := Lib.hid (HG.out GK.out (by omega))
        clear hvn
        go_wp2_with fail
        go_wp2_with fail
        go_ret2
        exact ⟨(by rw [HR.out.1, HR.out.2, HSK.out]; try rfl), HBW.out⟩
end Go.Proofs.Ytocfinhbocjbgaa.Jc
