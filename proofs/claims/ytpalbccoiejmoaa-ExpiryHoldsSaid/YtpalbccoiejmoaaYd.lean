/- Proves what the specification's functions Same, Put, Remove, Move and Due return for lists of slots with deadlines. Conditions: as each theorem names them. -/
import Derived.Test.YtpalbccoiejmoaaYc
import Derived.StillTailTactics
import Derived.Deep.Cut
import Derived.Deep.RegionHeld3
import Derived.Test.YtpalbccoiejmoaaRg
namespace Go.Proofs.Ytpalbccoiejmoaa.Yd
open Go.RowKit Ap Mi Nw Rg Ya Yb Yc

set_option maxRecDepth 100000 in
set_option maxHeartbeats 400000 in
theorem same_true {w : World} {A B : Option Addr} {n p q : Nat} {l : List Td} (hn : l.length = n) (hA : Rs w 2 A n p (tv l)) (hB : Rs w 2 B n q (tv l)) (hl : n ≤ 1100000) :
    Calls Try.prog 18 #[.slice A n p, .slice B n q] w (boolTo true w) := by
  have HA := Lib.hid hA; have HB := Lib.hid hB; have HN := Lib.hid hn
  have g1 : (n : Int) ≤ 1100000 := by omega
  have hb : (((n : Nat) : Int) != ((n : Nat) : Int)) = false := by simp
  clear hA hB hn
  unfold boolTo
  go_enter Try.func18, Try.ntmps18
  go_wp2_with fail
  go_loopw [5] (fun i wr => ∃ k : Nat, k ≤ n ∧ i = .int .i64 (k : Int) ∧ Below w.heap.size w wr) (fun i _ => n - (intOf i).toNat)
  case atStart => exact ⟨0, Nat.zero_le _, rfl, Below.refl _ _⟩
  case round =>
    obtain ⟨k, hk, rfl, hbl⟩ := hrel
    have BL := Lib.hid hbl
    clear hbl
    by_cases hlt : k < n
    · have i1 : (k : Int) < (n : Int) := by omega
      have hkc : k < l.length := by rw [HN.out]; exact hlt
      have RA : Hid (Lt wr A l p) := by show Rs _ _ _ _ _ _; rw [HN.out]; exact HA.out.below BL.out (Nat.le_refl _)
      have RB : Hid (Lt wr B l q) := by show Rs _ _ _ _ _ _; rw [HN.out]; exact HB.out.below BL.out (Nat.le_refl _)
      obtain ⟨ta, oa, rfl, la, a0, a1⟩ := RA.out.at_ hkc
      obtain ⟨tb, ob, rfl, lb, b0, b1⟩ := RB.out.at_ hkc
      obtain ⟨⟨x, y⟩, hkk⟩ : ∃ kk, kk = l[k] := ⟨_, rfl⟩
      rw [← hkk] at a0 b0 a1 b1
      simp only at a0 a1 b0 b1
      have hkn : (x != x) = false := by simp
      have hkm : (y != y) = false := by simp
      have hkn' : (x == x) = true := by simp
      have hkm' : (y == y) = true := by simp
      clear hkk
      go_wp2_with fail
      go_quiet (fail)
      obtain ⟨v, hv⟩ : ∃ v, v = wr.drewN nq := ⟨_, rfl⟩
      have BV : Hid (Below w.heap.size w v) := by
        show Below _ _ _
        rw [hv]
        exact BL.out.trans (((Only.refl (fun _ => False) wr).drewN nq).below (fun _ hf => hf.elim) BL.out.size)
      rw [← hv]
      clear hv
      go_wp2_with fail
      go_roundw
      case rel => exact ⟨k + 1, by omega, by go_num, BV.out⟩
      case measure => simp [intOf]; omega
    · obtain rfl : k = n := by omega
      have hnn : ¬ (k : Int) < k := by omega
      go_wp2_with fail
      go_ret
      exact ⟨rfl, BL.out⟩
/-- A list and an error. -/
def tabPost (w : World) (A0 : Option Addr) (l : List Td) (e0 : Int) : Ending → World → Prop := fun e w' => ∃ A c, e = .returned (.tuple #[.slice A l.length c, .int .i64 e0]) ∧ Lt w' A l c ∧ Below w.heap.size w w' ∧ ∀ a, A = some a → A0 = some a ∨ (w.heap.size ≤ a.block ∧ a.block < w'.heap.size)
theorem cut_lit (b o K c : Nat) : cutM (some ⟨b, o, none⟩) 2 K c = if c = K then some ⟨b, o, none⟩ else some ⟨b, o + K * 2, none⟩ := by
  unfold cutM; split <;> simp [Nw.add_lit]
theorem src_lit {w : World} {t e e' : TypeId} (hk : Try.prog.underlying t = some (.slice e)) (cs : Array Value) (n sz : Nat) (hn : cs.size = n * sz) (h1 : ∀ u ∈ cs.toList, u.oneCell' = true) : Src Try.prog sz t (.slice (some ⟨w.heap.size, 0, none⟩) n n) n cs.toList (w.alloc (.cells cs e')) :=
  Src.ofSlice _ hk _ n n cs.toList (by simpa using hn) (fun j u hu => by
    rw [Nw.add_lit, Nat.zero_add, cell_of_row _ _ j cs e' (0, 0) (heap_alloc_new w _)]; simpa using hu) h1
theorem only_row {w w' : World} {A : Option Addr} {F : Nat → Prop} (h : w.grownBy w' (A.map (·.block))) (hA : ∀ a, A = some a → F a.block) : Only F w w' :=
  Only.of_grown h (fun k e => by rw [Option.map_eq_some_iff] at e; obtain ⟨a, ha, e⟩ := e; rw [← e]; exact hA a ha)
set_option maxRecDepth 100000 in
set_option maxHeartbeats 2000000 in
theorem put_any {w : World} {A : Option Addr} {l : List Td} {c : Nat} (h : Lt w A l c) (n a : Int) (hn : l.length ≤ 1048576) :
    Calls Try.prog 12 #[.slice A l.length c, .int .i64 n, .int .u64 a] w (tabPost w A (putT l n a) (putN l n)) := by
  have HT := Lib.hid h
  have HA := Lib.hid (at_any h n (by omega))
  have hcap := Rs.max h
  unfold tabPost
  by_cases hs : Sl n
  case neg =>
    have HS := Lib.hid (slot_no hs w)
    have H1 : Hid (putT l n a = l) := if_neg (fun h => hs h.1)
    have H2 : Hid (putN l n = 2) := if_pos hs
    clear hs h
    go_enter Try.func12, Try.ntmps12
    go_wp2_with fail
    refine HS.out.mono ?_
    rintro e w1 ⟨rfl, rfl⟩
    go_wp2_with fail
    go_ret2
    exact ⟨A, c, by rw [H1.out, H2.out]; rfl, by rw [H1.out]; exact HT.out, Below.refl _ _, fun a ha => Or.inl ha⟩
  have HS := Lib.hid (slot_yes hs w)
  by_cases hm : n ∈ ns l
  case pos =>
    have hp := kx_geq.1 hm
    have H1 : Hid (putT l n a = l) := if_neg (fun h => h.2 hm)
    have H2 : Hid (putN l n = 11) := by show _ = _; unfold putN; rw [if_neg (by simpa using hs), if_pos hm]
    obtain ⟨i, hi⟩ : ∃ i, i = kx l n := ⟨_, rfl⟩
    rw [← hi] at HA hp
    clear hs hm h hi
    go_enter Try.func12, Try.ntmps12
    go_wp2_with fail
    refine HS.out.mono ?_
    rintro e w1 ⟨rfl, rfl⟩
    go_wp2_with fail
    refine HA.out.mono ?_
    rintro e w1 ⟨rfl, rfl⟩
    go_wp2_with fail
    go_ret2
    exact ⟨A, c, by rw [H1.out, H2.out]; rfl, by rw [H1.out]; exact HT.out, Below.refl _ _, fun a ha => Or.inl ha⟩
  case neg =>
    have hp := kx_geq.2 hm
    have hp' : ¬ 0 ≤ kx l n := by omega
    have H1 : Hid (putT l n a = ins l (n, a)) := if_pos ⟨hs, hm⟩
    have H2 : Hid (putN l n = 0) := by show _ = _; unfold putN; rw [if_neg (by simpa using hs), if_neg hm]
    obtain ⟨i, hi⟩ : ∃ i, i = kx l n := ⟨_, rfl⟩
    rw [← hi] at HA hp hp'
    clear hs hm h hi
    obtain ⟨v0, hv0⟩ : ∃ v0, v0 = w.alloc (.cells #[.int .i64 n, .int .u64 a] 41) := ⟨_, rfl⟩
    have b0 : Below w.heap.size w v0 := by rw [hv0]; exact bnew _ _
    have P8 : Hid (Blk v0 w.heap.size #[.int .i64 n, .int .u64 a] 41) := by show Blk _ _ _ _; rw [hv0]; exact Blk.new _ _ _
    have HB0 := Lib.hid b0
    have g1 : (l.length : Int) ≤ 1048576 := by omega
    go_enter Try.func12, Try.ntmps12
    go_wp2_with fail
    refine HS.out.mono ?_
    rintro e w1 ⟨rfl, rfl⟩
    go_wp2_with fail
    refine HA.out.mono ?_
    rintro e w ⟨rfl, rfl⟩
    go_wp2_with fail
    rw [← hv0]
    clear hv0 b0 hp
    have lz := P8.out.lt
    go_loopw [9] (fun i wr => ∃ K : Nat, K ≤ l.length ∧ i = .int .i64 (K : Int) ∧ Below v0.heap.size v0 wr ∧ Hid (∀ j (h : j < l.length), j < K → bf l[j] (n, a))) (fun i _ => l.length - (intOf i).toNat)
    case atStart => exact ⟨0, Nat.zero_le _, rfl, Below.refl _ _, fun j _ hj => by omega⟩
    case round =>
      obtain ⟨K, hK, rfl, hb, hm⟩ := hrel
      have HB := Lib.hid hb
      have BW : Hid (Below w.heap.size w wr) := HB0.out.trans (hb.mono HB0.out.size)
      have HTr := Lib.hid (HT.out.below BW.out (Nat.le_refl _))
      have P8r := Lib.hid (P8.out.below hb lz)
      obtain ⟨x0, x1, _⟩ := P8r.out.two
      clear hb
      by_cases hlt : K < l.length
      · have j1 : (K : Int) < (l.length : Int) := by omega
        have jd : decide ((K : Int) < (l.length : Int)) = true := by simpa using hlt
        obtain ⟨tb, to_, rfl, ltb, a0, a1⟩ := HTr.out.at_ hlt
        obtain ⟨y, hy⟩ : ∃ y, y = l[K] := ⟨_, rfl⟩
        rw [← hy] at a0 a1
        have HBF := Lib.hid (before_any y (n, a) wr.drew)
        obtain ⟨q, hq⟩ : ∃ q, q = decide (bf y (n, a)) := ⟨_, rfl⟩
        rw [← hq] at HBF
        have HY := Lib.hid hy; have HQ := Lib.hid hq
        clear hy hq
        go_wp2_with fail
        go_still_tail 10, (by kernel_rfl)
        change wpList _ _ _ _ _ wr.drew
        go_wp2_with fail
        refine HBF.out.mono ?_
        rintro e w3 ⟨rfl, hb⟩
        have B3 : Hid (Below v0.heap.size v0 w3) := (HB.out.trans ((Below.refl v0.heap.size wr).drew)).trans (hb.mono HB.out.size)
        clear hb HBF x0 x1 a0 a1
        cases q
        case' true =>
          go_wp2_with fail
          go_roundw
          case rel => exact ⟨K + 1, by omega, by go_num, B3.out, fun j h hj => by
            rcases Nat.lt_or_ge j K with h1 | h1
            · exact hm.out j h h1
            · have : j = K := by omega
              subst this
              rw [← HY.out]; exact of_decide_eq_true HQ.out.symm⟩
          case measure => simp [intOf]; omega
        case' false =>
          have KK : Hid (K = putK l (n, a)) := (tw_at hK (fun j h hj => by simpa using hm.out j h hj) (fun h => by rw [← HY.out]; exact HQ.out.symm)).symm
          have W3 : Hid (Below w.heap.size w w3) := HB0.out.trans (B3.out.mono HB0.out.size)
          have P83 := Lib.hid (P8.out.below B3.out lz)
          have HT3 := Lib.hid (HT.out.below W3.out (Nat.le_refl _))
          have hcK : ¬ c = K := by have := HT3.out.le; omega
          have S1 := Lib.hid ((HT3.out.pre hK).src (P := Try.prog) Try.underlying26 (by omega) (tv_one _))
          have hlc := HT3.out.le
          have kc : (K : Int) ≤ (c : Int) := by omega
          have kI : (K : Int) ≤ (l.length : Int) := by omega
          have k0 : (0 : Int) ≤ (K : Int) := by omega
          have hz3 : w.heap.size < w3.heap.size := by have := P83.out.lt; exact this
          go_upto_region 10 with (at_builtin; (refine wpList_mine rfl _ _ elT _ rfl rfl (Mine.nil w3.heap.size 2 w3) _ rfl K _ S1.out (by omega) (by omega) (Nat.le_refl _) ?_); intro A4 c4 w4 m4 g4 _)
          simp only [List.nil_append, Nat.zero_add] at m4
          have M4 : Hid (Mine w3.heap.size 2 w4 A4 K c4 (tv (l.take K))) := m4
          have B4 : Hid (Below w3.heap.size w3 w4) := (Below.refl _ _).grown g4 (Nat.le_refl _) (fun k e => by cases e)
          have P84 := Lib.hid (P83.out.below B4.out hz3)
          have HT4 := Lib.hid (HT3.out.below B4.out (Nat.le_refl _))
          have hz4 := B4.out.size
          obtain ⟨x0, x1, _⟩ := P84.out.two
          clear m4 g4 S1
          try simp only [Nat.zero_add]
          go_upto_region 11 with (at_builtin; (refine wpList_mine rfl _ _ elT _ rfl rfl (M4.out.below (bnew w4 (.cells #[.int .i64 n, .int .u64 a] 41)) (Nat.le_refl _)) _ rfl 1 _ (src_lit Try.underlying26 #[.int .i64 n, .int .u64 a] 1 2 rfl (by simp [Value.oneCell'])) (by omega) (by omega) (by simp; omega) ?_); intro A5 c5 w5 m5 g5 _)
          have M5 : Hid (Mine w3.heap.size 2 w5 A5 (K + 1) c5 (tv (l.take K ++ [(n, a)]))) := by show Mine _ _ _ _ _ _ _; rw [tv_append]; exact m5
          have B5 : Hid (Below w3.heap.size w3 w5) := (B4.out.trans ((bnew w4 (.cells #[.int .i64 n, .int .u64 a] 41)).mono hz4)).trans ((only_row (F := fun j => w3.heap.size ≤ j) g5 (fun a ha => (M4.out.base ha).1)).below (fun _ h => h) (by simp; omega))
          have HT5 := Lib.hid (HT3.out.below B5.out (Nat.le_refl _))
          have hz5 := B5.out.size
          clear m5 g5 x0 x1
          have S5 := Lib.hid ((HT5.out.cut hK).src (P := Try.prog) Try.underlying26 (by omega) (tv_one _))
          rw [cut_lit, if_neg hcK] at S5
          go_wp2_with (at_builtin; (refine wpList_mine rfl _ _ elT _ rfl rfl M5.out _ rfl (l.length - K) _ S5.out (by omega) (by omega) (by omega) ?_))
          intro A6 c6 w6 m6 g6 _
          have E6 : Hid (K + 1 + (l.length - K) = (ins l (n, a)).length) := by show _ = _; rw [ins_len]; omega
          have T6 : Hid (l.take K ++ [(n, a)] ++ l.drop K = ins l (n, a)) := by show _ = _; rw [KK.out]; unfold ins; simp
          have M6 : Hid (Mine w3.heap.size 2 w6 A6 (ins l (n, a)).length c6 (tv (ins l (n, a)))) := by show Mine _ _ _ _ _ _ _; rw [← E6.out, ← T6.out, tv_append _ (l.drop K)]; exact m6
          have B6 : Hid (Below w3.heap.size w3 w6) := B5.out.trans ((only_row (F := fun j => w3.heap.size ≤ j) g6 (fun a ha => (M5.out.base ha).1)).below (fun _ h => h) hz5)
          clear m6 g6
          rw [E6.out]
          obtain ⟨T, hT⟩ : ∃ T, T = ins l (n, a) := ⟨_, rfl⟩
          have HTT := Lib.hid hT
          rw [← hT] at M6
          rw [← hT]
          clear hT
          go_wp2_with fail
          go_ret2
          exact ⟨A6, c6, by rw [H1.out, H2.out, ← HTT.out]; rfl, by rw [H1.out, ← HTT.out]; exact Lt.mine M6.out, W3.out.trans (B6.out.mono W3.out.size), fun b hb => Or.inr ⟨by have h1 := (M6.out.base hb).1; have := W3.out.size; omega, (M6.out.base hb).2.1⟩⟩
      · have KK : Hid (K = putK l (n, a)) := (tw_at hK (fun j h hj => by simpa using hm.out j h hj) (fun h => absurd h hlt)).symm
        have jd : decide ((K : Int) < (l.length : Int)) = false := by simp; omega
        have j1 : ¬ (K : Int) < (l.length : Int) := by omega
        go_wp2_with fail
        go_quiet (fail)
        obtain ⟨w3, hw3⟩ : ∃ w3, w3 = wr.drewN nq := ⟨_, rfl⟩
        have B3 : Hid (Below wr.heap.size wr w3) := by show Below _ _ _; rw [hw3]; exact ((Only.refl (fun _ => False) wr).drewN nq).below (fun _ hf => hf.elim) (Nat.le_refl _)
        have W3 := Lib.hid (BW.out.trans (B3.out.mono BW.out.size))
        have P83 := Lib.hid (P8r.out.below B3.out P8r.out.lt)
        have HT3 := Lib.hid (HTr.out.below B3.out (Nat.le_refl _))
        rw [← hw3]
        clear hw3 HTr P8r BW
        clear hlt j1 jd
        cases A with
        | none =>
          have S1 := Lib.hid ((HT3.out.pre hK).src (P := Try.prog) Try.underlying26 (by omega) (tv_one _))
          have hlc := HT3.out.le
          have kc : (K : Int) ≤ (c : Int) := by omega
          have kI : (K : Int) ≤ (l.length : Int) := by omega
          have k0 : (0 : Int) ≤ (K : Int) := by omega
          have hz3 : w.heap.size < w3.heap.size := by have := P83.out.lt; exact this
          go_upto_region 10 with (at_builtin; (refine wpList_mine rfl _ _ elT _ rfl rfl (Mine.nil w3.heap.size 2 w3) _ rfl K _ S1.out (by omega) (by omega) (Nat.le_refl _) ?_); intro A4 c4 w4 m4 g4 _)
          simp only [List.nil_append, Nat.zero_add] at m4
          have M4 : Hid (Mine w3.heap.size 2 w4 A4 K c4 (tv (l.take K))) := m4
          have B4 : Hid (Below w3.heap.size w3 w4) := (Below.refl _ _).grown g4 (Nat.le_refl _) (fun k e => by cases e)
          have P84 := Lib.hid (P83.out.below B4.out hz3)
          have HT4 := Lib.hid (HT3.out.below B4.out (Nat.le_refl _))
          have hz4 := B4.out.size
          obtain ⟨x0, x1, _⟩ := P84.out.two
          clear m4 g4 S1
          try simp only [Nat.zero_add]
          go_upto_region 11 with (at_builtin; (refine wpList_mine rfl _ _ elT _ rfl rfl (M4.out.below (bnew w4 (.cells #[.int .i64 n, .int .u64 a] 41)) (Nat.le_refl _)) _ rfl 1 _ (src_lit Try.underlying26 #[.int .i64 n, .int .u64 a] 1 2 rfl (by simp [Value.oneCell'])) (by omega) (by omega) (by simp; omega) ?_); intro A5 c5 w5 m5 g5 _)
          have M5 : Hid (Mine w3.heap.size 2 w5 A5 (K + 1) c5 (tv (l.take K ++ [(n, a)]))) := by show Mine _ _ _ _ _ _ _; rw [tv_append]; exact m5
          have B5 : Hid (Below w3.heap.size w3 w5) := (B4.out.trans ((bnew w4 (.cells #[.int .i64 n, .int .u64 a] 41)).mono hz4)).trans ((only_row (F := fun j => w3.heap.size ≤ j) g5 (fun a ha => (M4.out.base ha).1)).below (fun _ h => h) (by simp; omega))
          have HT5 := Lib.hid (HT3.out.below B5.out (Nat.le_refl _))
          have hz5 := B5.out.size
          clear m5 g5 x0 x1
          have S5 := Lib.hid ((HT5.out.cut hK).src (P := Try.prog) Try.underlying26 (by omega) (tv_one _))
          rw [show cutM none 2 K c = none from by unfold cutM; split <;> rfl] at S5
          go_wp2_with (at_builtin; (refine wpList_mine rfl _ _ elT _ rfl rfl M5.out _ rfl (l.length - K) _ S5.out (by omega) (by omega) (by omega) ?_))
          intro A6 c6 w6 m6 g6 _
          have E6 : Hid (K + 1 + (l.length - K) = (ins l (n, a)).length) := by show _ = _; rw [ins_len]; omega
          have T6 : Hid (l.take K ++ [(n, a)] ++ l.drop K = ins l (n, a)) := by show _ = _; rw [KK.out]; unfold ins; simp
          have M6 : Hid (Mine w3.heap.size 2 w6 A6 (ins l (n, a)).length c6 (tv (ins l (n, a)))) := by show Mine _ _ _ _ _ _ _; rw [← E6.out, ← T6.out, tv_append _ (l.drop K)]; exact m6
          have B6 : Hid (Below w3.heap.size w3 w6) := B5.out.trans ((only_row (F := fun j => w3.heap.size ≤ j) g6 (fun a ha => (M5.out.base ha).1)).below (fun _ h => h) hz5)
          clear m6 g6
          rw [E6.out]
          obtain ⟨T, hT⟩ : ∃ T, T = ins l (n, a) := ⟨_, rfl⟩
          have HTT := Lib.hid hT
          rw [← hT] at M6
          rw [← hT]
          clear hT
          go_wp2_with fail
          go_ret2
          exact ⟨A6, c6, by rw [H1.out, H2.out, ← HTT.out]; rfl, by rw [H1.out, ← HTT.out]; exact Lt.mine M6.out, W3.out.trans (B6.out.mono W3.out.size), fun b hb => Or.inr ⟨by have h1 := (M6.out.base hb).1; have := W3.out.size; omega, (M6.out.base hb).2.1⟩⟩
        | some q =>
          have hq0 : q.add 0 = q := by unfold Addr.add; simp
          have hq1 : q.add (0 * 2) = q := hq0
          by_cases hcK : c = K
          · have hcS := hcK.symm
            subst hcS
            have S1 := Lib.hid ((HT3.out.pre hK).src (P := Try.prog) Try.underlying26 (by omega) (tv_one _))
            have hlc := HT3.out.le
            have kc : (K : Int) ≤ (K : Int) := by omega
            have kI : (K : Int) ≤ (l.length : Int) := by omega
            have k0 : (0 : Int) ≤ (K : Int) := by omega
            have hz3 : w.heap.size < w3.heap.size := by have := P83.out.lt; exact this
            go_upto_region 10 with (at_builtin; (refine wpList_mine rfl _ _ elT _ rfl rfl (Mine.nil w3.heap.size 2 w3) _ rfl K _ S1.out (by omega) (by omega) (Nat.le_refl _) ?_); intro A4 c4 w4 m4 g4 _)
            simp only [List.nil_append, Nat.zero_add] at m4
            have M4 : Hid (Mine w3.heap.size 2 w4 A4 K c4 (tv (l.take K))) := m4
            have B4 : Hid (Below w3.heap.size w3 w4) := (Below.refl _ _).grown g4 (Nat.le_refl _) (fun k e => by cases e)
            have P84 := Lib.hid (P83.out.below B4.out hz3)
            have HT4 := Lib.hid (HT3.out.below B4.out (Nat.le_refl _))
            have hz4 := B4.out.size
            obtain ⟨x0, x1, _⟩ := P84.out.two
            clear m4 g4 S1
            try simp only [Nat.zero_add]
            go_upto_region 11 with (at_builtin; (refine wpList_mine rfl _ _ elT _ rfl rfl (M4.out.below (bnew w4 (.cells #[.int .i64 n, .int .u64 a] 41)) (Nat.le_refl _)) _ rfl 1 _ (src_lit Try.underlying26 #[.int .i64 n, .int .u64 a] 1 2 rfl (by simp [Value.oneCell'])) (by omega) (by omega) (by simp; omega) ?_); intro A5 c5 w5 m5 g5 _)
            have M5 : Hid (Mine w3.heap.size 2 w5 A5 (K + 1) c5 (tv (l.take K ++ [(n, a)]))) := by show Mine _ _ _ _ _ _ _; rw [tv_append]; exact m5
            have B5 : Hid (Below w3.heap.size w3 w5) := (B4.out.trans ((bnew w4 (.cells #[.int .i64 n, .int .u64 a] 41)).mono hz4)).trans ((only_row (F := fun j => w3.heap.size ≤ j) g5 (fun a ha => (M4.out.base ha).1)).below (fun _ h => h) (by simp; omega))
            have HT5 := Lib.hid (HT3.out.below B5.out (Nat.le_refl _))
            have hz5 := B5.out.size
            clear m5 g5 x0 x1
            have S5 := Lib.hid ((HT5.out.cut hK).src (P := Try.prog) Try.underlying26 (by omega) (tv_one _))
            rw [show cutM (some q) 2 K K = some q from if_pos rfl, Nat.sub_self] at S5
            have e0 : l.length - K = 0 := by omega
            rw [e0] at S5
            go_wp2_with (at_builtin; (refine wpList_mine rfl _ _ elT _ rfl rfl M5.out _ rfl 0 _ S5.out (by omega) (by omega) (by omega) ?_))
            intro A6 c6 w6 m6 g6 _
            try simp only [Nat.add_zero] at m6
            try simp only [Nat.add_zero]
            have E6 : Hid (K + 1 = (ins l (n, a)).length) := by show _ = _; rw [ins_len]; omega
            have T6 : Hid (l.take K ++ [(n, a)] ++ l.drop K = ins l (n, a)) := by show _ = _; rw [KK.out]; unfold ins; simp
            have M6 : Hid (Mine w3.heap.size 2 w6 A6 (ins l (n, a)).length c6 (tv (ins l (n, a)))) := by show Mine _ _ _ _ _ _ _; rw [← E6.out, ← T6.out, tv_append _ (l.drop K)]; exact m6
            have B6 : Hid (Below w3.heap.size w3 w6) := B5.out.trans ((only_row (F := fun j => w3.heap.size ≤ j) g6 (fun a ha => (M5.out.base ha).1)).below (fun _ h => h) hz5)
            clear m6 g6
            rw [E6.out]
            obtain ⟨T, hT⟩ : ∃ T, T = ins l (n, a) := ⟨_, rfl⟩
            have HTT := Lib.hid hT
            rw [← hT] at M6
            rw [← hT]
            clear hT
            go_wp2_with fail
            go_ret2
            exact ⟨A6, c6, by rw [H1.out, H2.out, ← HTT.out]; rfl, by rw [H1.out, ← HTT.out]; exact Lt.mine M6.out, W3.out.trans (B6.out.mono W3.out.size), fun b hb => Or.inr ⟨by have h1 := (M6.out.base hb).1; have := W3.out.size; omega, (M6.out.base hb).2.1⟩⟩
          · have S1 := Lib.hid ((HT3.out.pre hK).src (P := Try.prog) Try.underlying26 (by omega) (tv_one _))
            have hlc := HT3.out.le
            have kc : (K : Int) ≤ (c : Int) := by omega
            have kI : (K : Int) ≤ (l.length : Int) := by omega
            have k0 : (0 : Int) ≤ (K : Int) := by omega
            have hz3 : w.heap.size < w3.heap.size := by have := P83.out.lt; exact this
            go_upto_region 10 with (at_builtin; (refine wpList_mine rfl _ _ elT _ rfl rfl (Mine.nil w3.heap.size 2 w3) _ rfl K _ S1.out (by omega) (by omega) (Nat.le_refl _) ?_); intro A4 c4 w4 m4 g4 _)
            simp only [List.nil_append, Nat.zero_add] at m4
            have M4 : Hid (Mine w3.heap.size 2 w4 A4 K c4 (tv (l.take K))) := m4
            have B4 : Hid (Below w3.heap.size w3 w4) := (Below.refl _ _).grown g4 (Nat.le_refl _) (fun k e => by cases e)
            have P84 := Lib.hid (P83.out.below B4.out hz3)
            have HT4 := Lib.hid (HT3.out.below B4.out (Nat.le_refl _))
            have hz4 := B4.out.size
            obtain ⟨x0, x1, _⟩ := P84.out.two
            clear m4 g4 S1
            try simp only [Nat.zero_add]
            go_upto_region 11 with (at_builtin; (refine wpList_mine rfl _ _ elT _ rfl rfl (M4.out.below (bnew w4 (.cells #[.int .i64 n, .int .u64 a] 41)) (Nat.le_refl _)) _ rfl 1 _ (src_lit Try.underlying26 #[.int .i64 n, .int .u64 a] 1 2 rfl (by simp [Value.oneCell'])) (by omega) (by omega) (by simp; omega) ?_); intro A5 c5 w5 m5 g5 _)
            have M5 : Hid (Mine w3.heap.size 2 w5 A5 (K + 1) c5 (tv (l.take K ++ [(n, a)]))) := by show Mine _ _ _ _ _ _ _; rw [tv_append]; exact m5
            have B5 : Hid (Below w3.heap.size w3 w5) := (B4.out.trans ((bnew w4 (.cells #[.int .i64 n, .int .u64 a] 41)).mono hz4)).trans ((only_row (F := fun j => w3.heap.size ≤ j) g5 (fun a ha => (M4.out.base ha).1)).below (fun _ h => h) (by simp; omega))
            have HT5 := Lib.hid (HT3.out.below B5.out (Nat.le_refl _))
            have hz5 := B5.out.size
            clear m5 g5 x0 x1
            have S5 := Lib.hid ((HT5.out.cut hK).src (P := Try.prog) Try.underlying26 (by omega) (tv_one _))
            rw [show cutM (some q) 2 K c = some (q.add (K * 2)) from if_neg hcK] at S5
            go_wp2_with (at_builtin; (refine wpList_mine rfl _ _ elT _ rfl rfl M5.out _ rfl (l.length - K) _ S5.out (by omega) (by omega) (by omega) ?_))
            intro A6 c6 w6 m6 g6 _
            have E6 : Hid (K + 1 + (l.length - K) = (ins l (n, a)).length) := by show _ = _; rw [ins_len]; omega
            have T6 : Hid (l.take K ++ [(n, a)] ++ l.drop K = ins l (n, a)) := by show _ = _; rw [KK.out]; unfold ins; simp
            have M6 : Hid (Mine w3.heap.size 2 w6 A6 (ins l (n, a)).length c6 (tv (ins l (n, a)))) := by show Mine _ _ _ _ _ _ _; rw [← E6.out, ← T6.out, tv_append _ (l.drop K)]; exact m6
            have B6 : Hid (Below w3.heap.size w3 w6) := B5.out.trans ((only_row (F := fun j => w3.heap.size ≤ j) g6 (fun a ha => (M5.out.base ha).1)).below (fun _ h => h) hz5)
            clear m6 g6
            rw [E6.out]
            obtain ⟨T, hT⟩ : ∃ T, T = ins l (n, a) := ⟨_, rfl⟩
            have HTT := Lib.hid hT
            rw [← hT] at M6
            rw [← hT]
            clear hT
            go_wp2_with fail
            go_ret2
            exact ⟨A6, c6, by rw [H1.out, H2.out, ← HTT.out]; rfl, by rw [H1.out, ← HTT.out]; exact Lt.mine M6.out, W3.out.trans (B6.out.mono W3.out.size), fun b hb => Or.inr ⟨by have h1 := (M6.out.base hb).1; have := W3.out.size; omega, (M6.out.base hb).2.1⟩⟩
/-- A list, a deadline and an error. -/
def remPost (w : World) (A0 : Option Addr) (l : List Td) (a0 e0 : Int) : Ending → World → Prop := fun e w' => ∃ A c, e = .returned (.tuple #[.slice A l.length c, .int .u64 a0, .int .i64 e0]) ∧ Lt w' A l c ∧ Below w.heap.size w w' ∧ ∀ a, A = some a → A0 = some a ∨ (w.heap.size ≤ a.block ∧ a.block < w'.heap.size)
set_option maxRecDepth 100000 in
set_option maxHeartbeats 2000000 in
theorem remove_any {w : World} {A : Option Addr} {l : List Td} {c : Nat} (h : Lt w A l c) (n : Int) (hn : l.length ≤ 1048577) (hd : (ns l).Nodup) :
    Calls Try.prog 28 #[.slice A l.length c, .int .i64 n] w (remPost w A (remT l n) (remA l n) (remN l n)) := by
  have HT := Lib.hid h
  have HA := Lib.hid (at_any h n (by omega))
  have hcap := Rs.max h
  unfold remPost
  by_cases hs : Sl n
  case neg =>
    have HS := Lib.hid (slot_no hs w)
    have H1 : Hid (remT l n = l) := if_neg (fun h => hs h.1)
    have H2 : Hid (remN l n = 2) := if_pos hs
    have H3 : Hid (remA l n = 0) := if_neg (fun h => hs h.1)
    clear hs h hd
    go_enter Try.func28, Try.ntmps28
    go_wp2_with fail
    refine HS.out.mono ?_
    rintro e w1 ⟨rfl, rfl⟩
    go_wp2_with fail
    go_ret3
    exact ⟨A, c, by rw [H1.out, H2.out, H3.out]; rfl, by rw [H1.out]; exact HT.out, Below.refl _ _, fun a ha => Or.inl ha⟩
  have HS := Lib.hid (slot_yes hs w)
  by_cases hm : n ∈ ns l
  case neg =>
    have hp := kx_geq.2 hm
    have H1 : Hid (remT l n = l) := if_neg (fun h => hm h.2)
    have H2 : Hid (remN l n = 9) := by show _ = _; unfold remN; rw [if_neg (by simpa using hs), if_neg hm]
    have H3 : Hid (remA l n = 0) := if_neg (fun h => hm h.2)
    obtain ⟨i, hi⟩ : ∃ i, i = kx l n := ⟨_, rfl⟩
    rw [← hi] at HA hp
    clear hs hm h hi hd
    go_enter Try.func28, Try.ntmps28
    go_wp2_with fail
    refine HS.out.mono ?_
    rintro e w1 ⟨rfl, rfl⟩
    go_wp2_with fail
    refine HA.out.mono ?_
    rintro e w1 ⟨rfl, rfl⟩
    go_wp2_with fail
    go_ret3
    exact ⟨A, c, by rw [H1.out, H2.out, H3.out]; rfl, by rw [H1.out]; exact HT.out, Below.refl _ _, fun a ha => Or.inl ha⟩
  case pos =>
    obtain ⟨kq, hk, hkl, he⟩ := kx_pos hm
    have H1 : Hid (remT l n = wo l n) := if_pos ⟨hs, hm⟩
    have H2 : Hid (remN l n = 0) := by show _ = _; unfold remN; rw [if_neg (by simpa using hs), if_pos hm]
    have H3 : Hid (remA l n = l[kq].2) := by show _ = _; unfold remA; rw [if_pos ⟨hs, hm⟩, tmOf_at hd hkl he]
    have H4 := Lib.hid (erase_wo hd hkl he)
    obtain ⟨tb, to_, rfl, ltb, -, a1⟩ := h.at_ hkl
    obtain ⟨y, hy⟩ : ∃ y, y = l[kq].2 := ⟨_, rfl⟩
    rw [← hy] at H3 a1
    rw [hk] at HA
    have S1 := Lib.hid ((h.pre (Nat.le_of_lt hkl)).src (P := Try.prog) Try.underlying26 (by omega) (tv_one _))
    have hlc := h.le
    have kc : (kq : Int) ≤ (c : Int) := by omega
    have k0 : ¬ (kq : Int) < 0 := by omega
    have k1 : (0 : Int) ≤ (kq : Int) := by omega
    have k2 : (kq : Int) < (l.length : Int) := by omega
    have k3 : (kq : Int) + 1 ≤ (l.length : Int) := by omega
    have k4 : IntKind.i64.wrap ((kq : Int) + 1) = (kq : Int) + 1 := by rw [IntKind.wrap_i64]; omega
    have k5 : (0 : Int) ≤ (kq : Int) + 1 := by omega
    have k6 : ((kq : Int) + 1).toNat = kq + 1 := by omega
    have g1 : (l.length : Int) ≤ 1048577 := by omega
    clear hs hm h hd he hk hy
    go_enter Try.func28, Try.ntmps28
    go_wp2_with fail
    refine HS.out.mono ?_
    rintro e w1 ⟨rfl, rfl⟩
    go_wp2_with fail
    refine HA.out.mono ?_
    rintro e w ⟨rfl, rfl⟩
    go_upto_region 7 with (at_builtin; (refine wpList_mine rfl _ _ elT _ rfl rfl (Mine.nil w.heap.size 2 w) _ rfl kq _ S1.out (by omega) (by omega) (Nat.le_refl _) ?_); intro A4 c4 w4 m4 g4 _)
    try simp only [List.nil_append, Nat.zero_add] at m4
    try simp only [Nat.zero_add]
    have M4 : Hid (Mine w.heap.size 2 w4 A4 kq c4 (tv (l.take kq))) := m4
    have B4 : Hid (Below w.heap.size w w4) := (Below.refl _ _).grown g4 (Nat.le_refl _) (fun k e => by cases e)
    have HT4 := Lib.hid (HT.out.below B4.out (Nat.le_refl _))
    have hz4 := B4.out.size
    have a4 := (B4.out.cell (p := ⟨tb, to_ + kq * 2 + 1, none⟩) ltb).trans a1
    have N4 : Hid (∀ b, A4 = some b → w.heap.size ≤ b.block) := fun b hb => (m4.base hb).1
    clear m4 g4 S1 a1
    obtain ⟨w5, hw5⟩ : ∃ w5, w5 = w4.drew := ⟨_, rfl⟩
    have M5 : Hid (Mine w.heap.size 2 w4.drew A4 kq c4 (tv (l.take kq))) := M4.out.drewN 1
    have HT5 : Hid (Lt w4.drew (some ⟨tb, to_, none⟩) l c) := HT4.out.below ((Below.refl w4.heap.size w4).drew) (Nat.le_refl _)
    have B5 : Hid (Below w.heap.size w w4.drew) := B4.out.drew
    have hz5 : w.heap.size ≤ w4.drew.heap.size := hz4
    clear hw5
    by_cases hcK : c = kq + 1
    · subst hcK
      have S6 := Lib.hid ((HT5.out.cut (k := kq + 1) (by omega)).src (P := Try.prog) Try.underlying26 (by omega) (tv_one _))
      have e0 : l.length - (kq + 1) = 0 := by omega
      rw [cut_lit, if_pos rfl, e0, Nat.sub_self] at S6
      refine wp_region_held_drew (S := fun v => v.cell? ⟨tb, to_ + kq * 2 + 1, none⟩ = some (.int .u64 y)) (by kernel_rfl) (a4) (fun hHeld => ?_)
      refine wpAnyH_take (i := 0) (oi := ⟨some 23, _, _, _, _, _⟩) (v := ?_) rfl (by kernel_rfl) (by kernel_rfl) (by kernel_rfl) (fun _ _ _ h => h) (Or.inl ⟨by rfl, ?_⟩) (by assumption) ?_
      rotate_left
      · intro w hSw; go_simp; first | done | with_reducible rfl
      try simp only [Act.put, List.setIfInBounds_toArray, List.set_cons_zero, List.set_cons_succ]
      refine wpAnyH_take (i := 1) (oi := ⟨some 24, _, _, _, _, _⟩) (v := ?_) rfl (by kernel_rfl) (by kernel_rfl) (by kernel_rfl) (fun _ _ _ h => h) (Or.inl ⟨by rfl, ?_⟩) (by assumption) ?_
      rotate_left
      · intro w hSw; go_simp; first | done | with_reducible rfl
      try simp only [Act.put, List.setIfInBounds_toArray, List.set_cons_zero, List.set_cons_succ]
      refine wpAnyH_take (i := 2) (oi := ⟨some 25, _, _, _, _, _⟩) (v := ?_) rfl (by kernel_rfl) (by kernel_rfl) (by kernel_rfl) (fun _ _ _ h => h) (Or.inl ⟨by rfl, ?_⟩) (by assumption) ?_
      rotate_left
      · intro w hSw; go_simp; first | done | with_reducible rfl
      try simp only [Act.put, List.setIfInBounds_toArray, List.set_cons_zero, List.set_cons_succ]
      refine wpAnyH_take (i := 3) (oi := ⟨some 26, _, _, _, _, _⟩) (v := ?_) rfl (by kernel_rfl) (by kernel_rfl) (by kernel_rfl) (fun _ _ _ h => h) (Or.inl ⟨by rfl, ?_⟩) (by assumption) ?_
      rotate_left
      · intro w hSw; go_simp; first | done | with_reducible rfl
      try simp only [Act.put, List.setIfInBounds_toArray, List.set_cons_zero, List.set_cons_succ]
      refine wpAnyH_take (i := 4) (oi := ⟨some 27, _, _, _, _, _⟩) (v := ?_) rfl (by kernel_rfl) (by kernel_rfl) (by kernel_rfl) (fun _ _ _ h => h) (Or.inl ⟨by rfl, ?_⟩) (by assumption) ?_
      rotate_left
      · intro w hSw; go_simp; first | done | with_reducible rfl
      try simp only [Act.put, List.setIfInBounds_toArray, List.set_cons_zero, List.set_cons_succ]
      refine wpAnyH_take (i := 6) (oi := ⟨some 29, _, _, _, _, _⟩) (v := ?_) rfl (by kernel_rfl) (by kernel_rfl) (by kernel_rfl) (fun _ _ _ h => h) (Or.inl ⟨by rfl, ?_⟩) (by assumption) ?_
      rotate_left
      · intro w hSw; go_simp; first | done | with_reducible rfl
      try simp only [Act.put, List.setIfInBounds_toArray, List.set_cons_zero, List.set_cons_succ]
      refine wpAnyH_take (i := 7) (oi := ⟨some 30, _, _, _, _, _⟩) (v := ?_) rfl (by kernel_rfl) (by kernel_rfl) (by kernel_rfl) (fun _ _ _ h => h) (Or.inl ⟨by rfl, ?_⟩) (by assumption) ?_
      rotate_left
      · intro w hSw; go_simp; first | done | with_reducible rfl
      try simp only [Act.put, List.setIfInBounds_toArray, List.set_cons_zero, List.set_cons_succ]
      refine wpAnyH_take (i := 8) (oi := ⟨some 31, _, _, _, _, _⟩) (v := ?_) rfl (by kernel_rfl) (by kernel_rfl) (by kernel_rfl) (fun _ _ _ h => h) (Or.inl ⟨by rfl, ?_⟩) (by assumption) ?_
      rotate_left
      · intro w hSw; go_simp; first | done | with_reducible rfl
      try simp only [Act.put, List.setIfInBounds_toArray, List.set_cons_zero, List.set_cons_succ]
      refine wpAnyH_take (i := 9) (oi := ⟨some 32, _, _, _, _, _⟩) (v := ?_) rfl (by kernel_rfl) (by kernel_rfl) (by kernel_rfl) (fun _ _ _ h => h) (Or.inl ⟨by rfl, ?_⟩) (by assumption) ?_
      rotate_left
      · intro w hSw; go_simp; first | done | with_reducible rfl
      try simp only [Act.put, List.setIfInBounds_toArray, List.set_cons_zero, List.set_cons_succ]
      refine wpAnyH_take (i := 10) (oi := ⟨some 33, _, _, _, _, _⟩) (v := ?_) rfl (by kernel_rfl) (by kernel_rfl) (by kernel_rfl) (fun _ _ _ h => h) (Or.inl ⟨by rfl, ?_⟩) (by assumption) ?_
      rotate_left
      · intro w hSw; go_simp; first | done | with_reducible rfl
      try simp only [Act.put, List.setIfInBounds_toArray, List.set_cons_zero, List.set_cons_succ]
      refine wpAnyH_ready (rs := [5]) (by kernel_rfl) (by simp) ?_
      refine AllReadyH.cons (o := ⟨some 28, _, _, _, _, _⟩) rfl (fun K hK => ?_) AllReadyH.nil
      refine step_mine (by kernel_rfl) _ _ elT _ rfl rfl M5.out _ rfl 0 _ S6.out (by omega) (by omega) hz5 ?_
      intro A6 c6 w6 m6 g6 q6
      have B6 : Hid (Below w.heap.size w4.drew w6) := (only_row (F := fun j => w.heap.size ≤ j) g6 (fun b hb => N4.out b hb)).below (fun _ h => h) hz5
      have M6 : Hid (Mine w.heap.size 2 w6 A6 (wo l n).length c6 (tv (wo l n))) := by
        show Mine _ _ _ _ _ _ _
        have el : (wo l n).length = kq + 0 := by rw [← H4.out]; simp; omega
        rw [el, ← H4.out, tv_append]; exact m6
      have el : kq + 0 = (wo l n).length := by rw [← H4.out]; simp; omega
      have HEL := Lib.hid el
      have a6 := (B6.out.cell (p := ⟨tb, to_ + kq * 2 + 1, none⟩) ltb).trans hHeld
      clear m6 g6 q6 el
      refine hK.out _ _ (a6) (fun hHeld => ?_)
      clear hK K
      try simp only [Act.put, List.setIfInBounds_toArray, List.set_cons_zero, List.set_cons_succ]
      refine wpAnyH_take (i := 11) (oi := ⟨some 4, _, _, _, _, _⟩) (v := ?_) rfl (by kernel_rfl) (by kernel_rfl) (by kernel_rfl) (fun _ _ _ h => h) (Or.inl ⟨by rfl, ?_⟩) (by assumption) ?_
      rotate_left
      · intro w hSw; go_simp; first | done | with_reducible rfl
      try simp only [Act.put, List.setIfInBounds_toArray, List.set_cons_zero, List.set_cons_succ]
      refine wpAnyH_take (i := 12) (oi := ⟨some 5, _, _, _, _, _⟩) (v := ?_) rfl (by kernel_rfl) (by kernel_rfl) (by kernel_rfl) (fun _ _ _ h => h) (Or.inl ⟨by rfl, ?_⟩) (by assumption) ?_
      rotate_left
      · intro w hSw; go_simp; first | done | with_reducible rfl
      try simp only [Act.put, List.setIfInBounds_toArray, List.set_cons_zero, List.set_cons_succ]
      refine wpAnyH_take (i := 13) (oi := ⟨some 6, _, _, _, _, _⟩) (v := ?_) rfl (by kernel_rfl) (by kernel_rfl) (by kernel_rfl) (fun _ _ _ h => h) (Or.inl ⟨by rfl, ?_⟩) (by assumption) ?_
      rotate_left
      · intro w hSw; go_simp; first | done | with_reducible rfl
      try simp only [Act.put, List.setIfInBounds_toArray, List.set_cons_zero, List.set_cons_succ]
      refine wpAnyH_done (by kernel_rfl) ?_ _
      obtain ⟨T, hT⟩ : ∃ T, T = wo l n := ⟨_, rfl⟩
      have HTT := Lib.hid hT
      rw [← hT] at M6
      have HTL : Hid (T.length = kq) := by show _ = _; rw [hT]; have := HEL.out; omega
      clear hT
      go_wp2_with fail
      go_ret3
      exact ⟨A6, c6, by rw [H1.out, H2.out, H3.out, ← HTT.out, HTL.out]; rfl, by rw [H1.out, ← HTT.out]; exact Lt.mine M6.out, B5.out.trans B6.out, fun b hb => Or.inr ⟨(M6.out.base hb).1, (M6.out.base hb).2.1⟩⟩
    · have S6 := Lib.hid ((HT5.out.cut (k := kq + 1) (by omega)).src (P := Try.prog) Try.underlying26 (by omega) (tv_one _))
      rw [cut_lit, if_neg hcK] at S6
      refine wp_region_held_drew (S := fun v => v.cell? ⟨tb, to_ + kq * 2 + 1, none⟩ = some (.int .u64 y)) (by kernel_rfl) (a4) (fun hHeld => ?_)
      refine wpAnyH_take (i := 0) (oi := ⟨some 23, _, _, _, _, _⟩) (v := ?_) rfl (by kernel_rfl) (by kernel_rfl) (by kernel_rfl) (fun _ _ _ h => h) (Or.inl ⟨by rfl, ?_⟩) (by assumption) ?_
      rotate_left
      · intro w hSw; go_simp; first | done | with_reducible rfl
      try simp only [Act.put, List.setIfInBounds_toArray, List.set_cons_zero, List.set_cons_succ]
      refine wpAnyH_take (i := 1) (oi := ⟨some 24, _, _, _, _, _⟩) (v := ?_) rfl (by kernel_rfl) (by kernel_rfl) (by kernel_rfl) (fun _ _ _ h => h) (Or.inl ⟨by rfl, ?_⟩) (by assumption) ?_
      rotate_left
      · intro w hSw; go_simp; first | done | with_reducible rfl
      try simp only [Act.put, List.setIfInBounds_toArray, List.set_cons_zero, List.set_cons_succ]
      refine wpAnyH_take (i := 2) (oi := ⟨some 25, _, _, _, _, _⟩) (v := ?_) rfl (by kernel_rfl) (by kernel_rfl) (by kernel_rfl) (fun _ _ _ h => h) (Or.inl ⟨by rfl, ?_⟩) (by assumption) ?_
      rotate_left
      · intro w hSw; go_simp; first | done | with_reducible rfl
      try simp only [Act.put, List.setIfInBounds_toArray, List.set_cons_zero, List.set_cons_succ]
      refine wpAnyH_take (i := 3) (oi := ⟨some 26, _, _, _, _, _⟩) (v := ?_) rfl (by kernel_rfl) (by kernel_rfl) (by kernel_rfl) (fun _ _ _ h => h) (Or.inl ⟨by rfl, ?_⟩) (by assumption) ?_
      rotate_left
      · intro w hSw; go_simp; first | done | with_reducible rfl
      try simp only [Act.put, List.setIfInBounds_toArray, List.set_cons_zero, List.set_cons_succ]
      refine wpAnyH_take (i := 4) (oi := ⟨some 27, _, _, _, _, _⟩) (v := ?_) rfl (by kernel_rfl) (by kernel_rfl) (by kernel_rfl) (fun _ _ _ h => h) (Or.inl ⟨by rfl, ?_⟩) (by assumption) ?_
      rotate_left
      · intro w hSw; go_simp; first | done | with_reducible rfl
      try simp only [Act.put, List.setIfInBounds_toArray, List.set_cons_zero, List.set_cons_succ]
      refine wpAnyH_take (i := 6) (oi := ⟨some 29, _, _, _, _, _⟩) (v := ?_) rfl (by kernel_rfl) (by kernel_rfl) (by kernel_rfl) (fun _ _ _ h => h) (Or.inl ⟨by rfl, ?_⟩) (by assumption) ?_
      rotate_left
      · intro w hSw; go_simp; first | done | with_reducible rfl
      try simp only [Act.put, List.setIfInBounds_toArray, List.set_cons_zero, List.set_cons_succ]
      refine wpAnyH_take (i := 7) (oi := ⟨some 30, _, _, _, _, _⟩) (v := ?_) rfl (by kernel_rfl) (by kernel_rfl) (by kernel_rfl) (fun _ _ _ h => h) (Or.inl ⟨by rfl, ?_⟩) (by assumption) ?_
      rotate_left
      · intro w hSw; go_simp; first | done | with_reducible rfl
      try simp only [Act.put, List.setIfInBounds_toArray, List.set_cons_zero, List.set_cons_succ]
      refine wpAnyH_take (i := 8) (oi := ⟨some 31, _, _, _, _, _⟩) (v := ?_) rfl (by kernel_rfl) (by kernel_rfl) (by kernel_rfl) (fun _ _ _ h => h) (Or.inl ⟨by rfl, ?_⟩) (by assumption) ?_
      rotate_left
      · intro w hSw; go_simp; first | done | with_reducible rfl
      try simp only [Act.put, List.setIfInBounds_toArray, List.set_cons_zero, List.set_cons_succ]
      refine wpAnyH_take (i := 9) (oi := ⟨some 32, _, _, _, _, _⟩) (v := ?_) rfl (by kernel_rfl) (by kernel_rfl) (by kernel_rfl) (fun _ _ _ h => h) (Or.inl ⟨by rfl, ?_⟩) (by assumption) ?_
      rotate_left
      · intro w hSw; go_simp; first | done | with_reducible rfl
      try simp only [Act.put, List.setIfInBounds_toArray, List.set_cons_zero, List.set_cons_succ]
      refine wpAnyH_take (i := 10) (oi := ⟨some 33, _, _, _, _, _⟩) (v := ?_) rfl (by kernel_rfl) (by kernel_rfl) (by kernel_rfl) (fun _ _ _ h => h) (Or.inl ⟨by rfl, ?_⟩) (by assumption) ?_
      rotate_left
      · intro w hSw; go_simp; first | done | with_reducible rfl
      try simp only [Act.put, List.setIfInBounds_toArray, List.set_cons_zero, List.set_cons_succ]
      refine wpAnyH_ready (rs := [5]) (by kernel_rfl) (by simp) ?_
      refine AllReadyH.cons (o := ⟨some 28, _, _, _, _, _⟩) rfl (fun K hK => ?_) AllReadyH.nil
      refine step_mine (by kernel_rfl) _ _ elT _ rfl rfl M5.out _ rfl (l.length - (kq + 1)) _ S6.out (by omega) (by omega) hz5 ?_
      intro A6 c6 w6 m6 g6 q6
      have B6 : Hid (Below w.heap.size w4.drew w6) := (only_row (F := fun j => w.heap.size ≤ j) g6 (fun b hb => N4.out b hb)).below (fun _ h => h) hz5
      have M6 : Hid (Mine w.heap.size 2 w6 A6 (wo l n).length c6 (tv (wo l n))) := by
        show Mine _ _ _ _ _ _ _
        have el : (wo l n).length = kq + (l.length - (kq + 1)) := by rw [← H4.out]; simp; omega
        rw [el, ← H4.out, tv_append]; exact m6
      have el : kq + (l.length - (kq + 1)) = (wo l n).length := by rw [← H4.out]; simp; omega
      have HEL := Lib.hid el
      have a6 := (B6.out.cell (p := ⟨tb, to_ + kq * 2 + 1, none⟩) ltb).trans hHeld
      clear m6 g6 q6 el
      refine hK.out _ _ (a6) (fun hHeld => ?_)
      clear hK K
      try simp only [Act.put, List.setIfInBounds_toArray, List.set_cons_zero, List.set_cons_succ]
      refine wpAnyH_take (i := 11) (oi := ⟨some 4, _, _, _, _, _⟩) (v := ?_) rfl (by kernel_rfl) (by kernel_rfl) (by kernel_rfl) (fun _ _ _ h => h) (Or.inl ⟨by rfl, ?_⟩) (by assumption) ?_
      rotate_left
      · intro w hSw; go_simp; first | done | with_reducible rfl
      try simp only [Act.put, List.setIfInBounds_toArray, List.set_cons_zero, List.set_cons_succ]
      refine wpAnyH_take (i := 12) (oi := ⟨some 5, _, _, _, _, _⟩) (v := ?_) rfl (by kernel_rfl) (by kernel_rfl) (by kernel_rfl) (fun _ _ _ h => h) (Or.inl ⟨by rfl, ?_⟩) (by assumption) ?_
      rotate_left
      · intro w hSw; go_simp; first | done | with_reducible rfl
      try simp only [Act.put, List.setIfInBounds_toArray, List.set_cons_zero, List.set_cons_succ]
      refine wpAnyH_take (i := 13) (oi := ⟨some 6, _, _, _, _, _⟩) (v := ?_) rfl (by kernel_rfl) (by kernel_rfl) (by kernel_rfl) (fun _ _ _ h => h) (Or.inl ⟨by rfl, ?_⟩) (by assumption) ?_
      rotate_left
      · intro w hSw; go_simp; first | done | with_reducible rfl
      try simp only [Act.put, List.setIfInBounds_toArray, List.set_cons_zero, List.set_cons_succ]
      refine wpAnyH_done (by kernel_rfl) ?_ _
      rw [HEL.out]
      obtain ⟨T, hT⟩ : ∃ T, T = wo l n := ⟨_, rfl⟩
      have HTT := Lib.hid hT
      rw [← hT] at M6
      rw [← hT]
      clear hT
      go_wp2_with fail
      go_ret3
      exact ⟨A6, c6, by rw [H1.out, H2.out, H3.out, ← HTT.out]; rfl, by rw [H1.out, ← HTT.out]; exact Lt.mine M6.out, B5.out.trans B6.out, fun b hb => Or.inr ⟨(M6.out.base hb).1, (M6.out.base hb).2.1⟩⟩
theorem tabPost_self {w : World} {A : Option Addr} {l : List Td} {c : Nat} (h : Lt w A l c) (e0 : Int) : tabPost w A l e0 (.returned (.tuple #[.slice A l.length c, .int .i64 e0])) w := ⟨A, c, rfl, h, Below.refl _ _, fun _ h => Or.inl h⟩
set_option maxRecDepth 100000 in
set_option maxHeartbeats 1000000 in
theorem move_any {w : World} {A : Option Addr} {l : List Td} {c : Nat} (h : Lt w A l c) (n a : Int) (hn : l.length ≤ 1048577) (hd : (ns l).Nodup) :
    Calls Try.prog 27 #[.slice A l.length c, .int .i64 n, .int .u64 a] w (tabPost w A (movT l n a) (remN l n)) := by
  have HR := Lib.hid (remove_any h n hn hd)
  unfold remPost at HR
  by_cases hs : Sl n ∧ n ∈ ns l
  · have H0 : remN l n = 0 := by unfold remN; rw [if_neg (by simpa using hs.1), if_pos hs.2]
    have H1 : Hid (movT l n a = ins (wo l n) (n, a)) := if_pos hs
    have H2 : Hid (putT (wo l n) n a = ins (wo l n) (n, a) ∧ putN (wo l n) n = 0) := ⟨if_pos ⟨hs.1, not_wo l n⟩, by unfold putN; rw [if_neg (by simpa using hs.1), if_neg (not_wo l n)]⟩
    have H3 : remT l n = wo l n := if_pos hs
    have hl := wo_len hd hs.2
    rw [H0, H3] at HR
    rw [H0]
    obtain ⟨y, hy⟩ : ∃ y, y = remA l n := ⟨_, rfl⟩
    rw [← hy] at HR
    obtain ⟨M, hM⟩ : ∃ M, M = wo l n := ⟨_, rfl⟩
    rw [← hM] at HR H1 H2 hl
    unfold tabPost
    obtain ⟨T, hT⟩ : ∃ T, T = ins M (n, a) := ⟨_, rfl⟩
    rw [← hT] at H1 H2
    rw [H1.out]
    clear hs h hd hy hM H0 H3 hT
    go_enter Try.func27, Try.ntmps27
    go_wp2_with fail
    refine HR.out.mono ?_
    rintro e w1 ⟨A1, c1, rfl, hl1, hb1, ha1⟩
    have HP := Lib.hid (put_any hl1 n a (by omega))
    unfold tabPost at HP
    rw [H2.out.1, H2.out.2] at HP
    have HB1 := Lib.hid hb1; have HA1 := Lib.hid ha1
    clear hl1 hb1 ha1 HR H1 H2
    go_wp2_with fail
    refine HP.out.mono ?_
    rintro e w2 ⟨A2, c2, rfl, hl2, hb2, ha2⟩
    have HL2 := Lib.hid hl2; have HB2 := Lib.hid hb2; have HA2 := Lib.hid ha2
    clear hl2 hb2 ha2 HP
    go_wp2_with fail
    go_ret2
    refine ⟨A2, c2, rfl, HL2.out, bstep HB1.out HB2.out, fun b hb => ?_⟩
    have z1 := HB1.out.size; have z2 := HB2.out.size
    rcases HA2.out b hb with h1 | h1
    · rcases HA1.out b h1 with h3 | h3
      · exact Or.inl h3
      · exact Or.inr ⟨h3.1, by omega⟩
    · exact Or.inr ⟨by omega, h1.2⟩
  · have H1 : Hid (movT l n a = l) := if_neg hs
    have H3 : remT l n = l := if_neg hs
    have H0 : (remN l n != 0) = true := by
      unfold remN
      by_cases h1 : Sl n
      · rw [if_neg (by simpa using h1), if_neg (fun h2 => hs ⟨h1, h2⟩)]; rfl
      · rw [if_pos h1]; rfl
    have HT := Lib.hid h
    rw [H3] at HR
    obtain ⟨y, hy⟩ : ∃ y, y = remA l n := ⟨_, rfl⟩
    obtain ⟨r, hr⟩ : ∃ r, r = remN l n := ⟨_, rfl⟩
    rw [← hy, ← hr] at HR
    rw [← hr] at H0 ⊢
    rw [H1.out]
    unfold tabPost
    clear hs h hd hy hr H3 H1
    go_enter Try.func27, Try.ntmps27
    go_wp2_with fail
    refine HR.out.mono ?_
    rintro e w1 ⟨A1, c1, rfl, hl1, hb1, ha1⟩
    have HB1 := Lib.hid hb1
    clear hl1 hb1 ha1 HR
    go_wp2_with fail
    go_ret2
    exact ⟨A, c, rfl, HT.out.below HB1.out (Nat.le_refl _), HB1.out, fun b hb => Or.inl hb⟩
/-- What Due leaves: the rest and what is due. -/
def duePost (w : World) (l m : List Td) : Ending → World → Prop := fun e w' => ∃ A c B d, e = .returned (.tuple #[.slice A l.length c, .slice B m.length d]) ∧ Lt w' A l c ∧ Lt w' B m d ∧ Below w.heap.size w w' ∧ (∀ a, A = some a → w.heap.size ≤ a.block ∧ a.block < w'.heap.size) ∧ ∀ a, B = some a → w.heap.size ≤ a.block ∧ a.block < w'.heap.size
set_option maxRecDepth 100000 in
set_option maxHeartbeats 2000000 in
theorem due_any {w : World} {A : Option Addr} {l : List Td} {c : Nat} (h : Lt w A l c) (now : Int) (hn : l.length ≤ 1048577) :
    Calls Try.prog 16 #[.slice A l.length c, .int .u64 now] w (duePost w (l.drop (dueK l now)) (l.take (dueK l now))) := by
  have HT := Lib.hid h
  have hcap := Rs.max h
  have g1 : (l.length : Int) ≤ 1048577 := by omega
  clear h
  unfold duePost
  go_enter Try.func16, Try.ntmps16
  go_wp2_with fail
  go_loopw [6] (fun i wr => ∃ kq : Nat, kq ≤ l.length ∧ i = .int .i64 (kq : Int) ∧ wr = w ∧ Hid (∀ j (h : j < l.length), j < kq → isDue l[j].2 now)) (fun i _ => l.length - (intOf i).toNat)
  case atStart => exact ⟨0, Nat.zero_le _, rfl, rfl, fun j _ hj => by omega⟩
  case round =>
    obtain ⟨kq, hKL, rfl, rfl, hm⟩ := hrel
    by_cases hlt : kq < l.length
    · have j1 : (kq : Int) < (l.length : Int) := by omega
      obtain ⟨tb, to_, rfl, ltb, -, a1⟩ := HT.out.at_ hlt
      obtain ⟨y, hy⟩ : ∃ y, y = l[kq].2 := ⟨_, rfl⟩
      rw [← hy] at a1
      have HDU := Lib.hid (rdue_any y now wr)
      obtain ⟨q, hq⟩ : ∃ q, q = decide (isDue y now) := ⟨_, rfl⟩
      rw [← hq] at HDU
      have HY := Lib.hid hy; have HQ := Lib.hid hq
      clear hy hq
      go_wp2_with fail
      refine HDU.out.mono ?_
      rintro e w2 ⟨rfl, rfl⟩
      cases q
      case' true =>
        go_wp2_with fail
        go_roundw
        case rel => exact ⟨kq + 1, by omega, by go_num, trivial, fun j h hj => by
          rcases Nat.lt_or_ge j kq with h1 | h1
          · exact hm.out j h h1
          · have : j = kq := by omega
            subst this
            rw [← HY.out]; exact of_decide_eq_true HQ.out.symm⟩
        case measure => simp [intOf]; omega
      case' false =>
        have KK : Hid (kq = dueK l now) := (tw_at hKL (fun j h hj => by simpa using hm.out j h hj) (fun h => by rw [← HY.out]; exact HQ.out.symm)).symm
        have hcK : ¬ c = kq := by have := HT.out.le; omega
        clear HDU a1 j1 HY
        have hlc := HT.out.le
        have kc : (kq : Int) ≤ (c : Int) := by omega
        have kI : (kq : Int) ≤ (l.length : Int) := by omega
        have k0 : (0 : Int) ≤ (kq : Int) := by omega
        go_wp2_with fail
        have HTd : Hid (Lt w2.drew (some ⟨tb, to_, none⟩) l c) := HT.out.below ((Below.refl w2.heap.size w2).drew) (Nat.le_refl _)
        have B0 : Hid (Below w2.heap.size w2 w2.drew) := (Below.refl _ _).drew
        have hz0 : w2.heap.size ≤ w2.drew.heap.size := Nat.le_refl _
        have S5 := Lib.hid ((HTd.out.cut hKL).src (P := Try.prog) Try.underlying26 (by omega) (tv_one _))
        rw [cut_lit, if_neg hcK] at S5
        refine wp_region_held_drew (S := fun _ => True) (by kernel_rfl) (trivial) (fun hHeld => ?_)
        refine wpAnyH_take (i := 0) (oi := ⟨some 22, _, _, _, _, _⟩) (v := ?_) rfl (by kernel_rfl) (by kernel_rfl) (by kernel_rfl) (fun _ _ _ h => h) (Or.inl ⟨by rfl, ?_⟩) (by assumption) ?_
        rotate_left
        · intro w hSw; go_simp; first | done | with_reducible rfl
        try simp only [Act.put, List.setIfInBounds_toArray, List.set_cons_zero, List.set_cons_succ]
        refine wpAnyH_take (i := 1) (oi := ⟨some 23, _, _, _, _, _⟩) (v := ?_) rfl (by kernel_rfl) (by kernel_rfl) (by kernel_rfl) (fun _ _ _ h => h) (Or.inl ⟨by rfl, ?_⟩) (by assumption) ?_
        rotate_left
        · intro w hSw; go_simp; first | done | with_reducible rfl
        try simp only [Act.put, List.setIfInBounds_toArray, List.set_cons_zero, List.set_cons_succ]
        refine wpAnyH_take (i := 2) (oi := ⟨some 24, _, _, _, _, _⟩) (v := ?_) rfl (by kernel_rfl) (by kernel_rfl) (by kernel_rfl) (fun _ _ _ h => h) (Or.inl ⟨by rfl, ?_⟩) (by assumption) ?_
        rotate_left
        · intro w hSw; go_simp; first | done | with_reducible rfl
        try simp only [Act.put, List.setIfInBounds_toArray, List.set_cons_zero, List.set_cons_succ]
        refine wpAnyH_take (i := 4) (oi := ⟨some 26, _, _, _, _, _⟩) (v := ?_) rfl (by kernel_rfl) (by kernel_rfl) (by kernel_rfl) (fun _ _ _ h => h) (Or.inl ⟨by rfl, ?_⟩) (by assumption) ?_
        rotate_left
        · intro w hSw; go_simp; first | done | with_reducible rfl
        try simp only [Act.put, List.setIfInBounds_toArray, List.set_cons_zero, List.set_cons_succ]
        refine wpAnyH_take (i := 5) (oi := ⟨some 27, _, _, _, _, _⟩) (v := ?_) rfl (by kernel_rfl) (by kernel_rfl) (by kernel_rfl) (fun _ _ _ h => h) (Or.inl ⟨by rfl, ?_⟩) (by assumption) ?_
        rotate_left
        · intro w hSw; go_simp; first | done | with_reducible rfl
        try simp only [Act.put, List.setIfInBounds_toArray, List.set_cons_zero, List.set_cons_succ]
        refine wpAnyH_take (i := 6) (oi := ⟨some 28, _, _, _, _, _⟩) (v := ?_) rfl (by kernel_rfl) (by kernel_rfl) (by kernel_rfl) (fun _ _ _ h => h) (Or.inl ⟨by rfl, ?_⟩) (by assumption) ?_
        rotate_left
        · intro w hSw; go_simp; first | done | with_reducible rfl
        try simp only [Act.put, List.setIfInBounds_toArray, List.set_cons_zero, List.set_cons_succ]
        refine wpAnyH_ready (rs := [3]) (by kernel_rfl) (by simp) ?_
        refine AllReadyH.cons (o := ⟨some 25, _, _, _, _, _⟩) rfl (fun K hK => ?_) AllReadyH.nil
        refine step_mine (by kernel_rfl) _ _ elT _ rfl rfl (Mine.nil w2.heap.size 2 w2.drew) _ rfl (l.length - kq) _ S5.out (by omega) (by omega) hz0 ?_
        intro A3 c3 w3 m3 g3 q3
        have B3 : Hid (Below w2.heap.size w2 w3) := B0.out.trans ((only_row (A := none) (F := fun j => w2.heap.size ≤ j) g3 (fun b hb => by cases hb)).below (fun _ h => h) hz0)
        have M3 : Hid (Mine w2.heap.size 2 w3 A3 (l.drop kq).length c3 (tv (l.drop kq))) := by
          show Mine _ _ _ _ _ _ _
          have el : (l.drop kq).length = 0 + (l.length - kq) := by rw [List.length_drop]; omega
          rw [el]; exact m3
        have HTe := Lib.hid (HT.out.below B3.out (Nat.le_refl _))
        have S6 := Lib.hid ((HTe.out.pre hKL).src (P := Try.prog) Try.underlying26 (by omega) (tv_one _))
        have hz3 := B3.out.size
        try simp only [Nat.zero_add]
        clear m3 g3 q3
        refine hK.out _ _ (trivial) (fun hHeld => ?_)
        clear hK K
        try simp only [Act.put, List.setIfInBounds_toArray, List.set_cons_zero, List.set_cons_succ]
        refine wpAnyH_ready (rs := [7]) (by kernel_rfl) (by simp) ?_
        refine AllReadyH.cons (o := ⟨some 29, _, _, _, _, _⟩) rfl (fun K hK => ?_) AllReadyH.nil
        refine step_mine (by kernel_rfl) _ _ elT _ rfl rfl (Mine.nil w2.heap.size 2 w3) _ rfl kq _ S6.out (by omega) (by omega) hz3 ?_
        intro A7 c7 w7 m7 g7 q7
        have B37 : Hid (Below w3.heap.size w3 w7) := (only_row (A := none) (F := fun j => w3.heap.size ≤ j) g7 (fun b hb => by cases hb)).below (fun _ h => h) (Nat.le_refl _)
        have M7 : Hid (Mine w2.heap.size 2 w7 A7 (l.take kq).length c7 (tv (l.take kq))) := by
          show Mine _ _ _ _ _ _ _
          have el : (l.take kq).length = 0 + kq := by rw [List.length_take]; omega
          rw [el]; exact m7
        have M37 := Lib.hid (M3.out.below B37.out (Nat.le_refl _))
        try simp only [Nat.zero_add]
        clear m7 g7 q7
        refine hK.out _ _ (trivial) (fun hHeld => ?_)
        clear hK K
        try simp only [Act.put, List.setIfInBounds_toArray, List.set_cons_zero, List.set_cons_succ]
        refine wpAnyH_take (i := 8) (oi := ⟨some 4, _, _, _, _, _⟩) (v := ?_) rfl (by kernel_rfl) (by kernel_rfl) (by kernel_rfl) (fun _ _ _ h => h) (Or.inl ⟨by rfl, ?_⟩) (by assumption) ?_
        rotate_left
        · intro w hSw; go_simp; first | done | with_reducible rfl
        try simp only [Act.put, List.setIfInBounds_toArray, List.set_cons_zero, List.set_cons_succ]
        refine wpAnyH_take (i := 9) (oi := ⟨some 5, _, _, _, _, _⟩) (v := ?_) rfl (by kernel_rfl) (by kernel_rfl) (by kernel_rfl) (fun _ _ _ h => h) (Or.inl ⟨by rfl, ?_⟩) (by assumption) ?_
        rotate_left
        · intro w hSw; go_simp; first | done | with_reducible rfl
        try simp only [Act.put, List.setIfInBounds_toArray, List.set_cons_zero, List.set_cons_succ]
        refine wpAnyH_done (by kernel_rfl) ?_ _
        have HXL : Hid ((l.drop kq).length = (l.length - kq)) := by show _ = _; rw [List.length_drop]
        have HYL : Hid ((l.take kq).length = kq) := by show _ = _; rw [List.length_take]; omega
        go_wp2_with fail
        go_ret2
        rw [← KK.out]
        exact ⟨A3, c3, A7, c7, by rw [HXL.out, HYL.out]; rfl, Lt.mine M37.out, Lt.mine M7.out, B3.out.trans (B37.out.mono hz3), fun b hb => ⟨(M37.out.base hb).1, (M37.out.base hb).2.1⟩, fun b hb => ⟨(M7.out.base hb).1, (M7.out.base hb).2.1⟩⟩
    · have KK : Hid (kq = dueK l now) := (tw_at hKL (fun j h hj => by simpa using hm.out j h hj) (fun h => absurd h hlt)).symm
      have hnn : ¬ (kq : Int) < (l.length : Int) := by omega
      cases A with
      | none =>
        have hlc := HT.out.le
        have kc : (kq : Int) ≤ (c : Int) := by omega
        have kI : (kq : Int) ≤ (l.length : Int) := by omega
        have k0 : (0 : Int) ≤ (kq : Int) := by omega
        go_wp2_with fail
        have HTd : Hid (Lt wr.drew none l c) := HT.out.below ((Below.refl wr.heap.size wr).drew) (Nat.le_refl _)
        have B0 : Hid (Below wr.heap.size wr wr.drew) := (Below.refl _ _).drew
        have hz0 : wr.heap.size ≤ wr.drew.heap.size := Nat.le_refl _
        have S5 := Lib.hid ((HTd.out.cut hKL).src (P := Try.prog) Try.underlying26 (by omega) (tv_one _))
        rw [show cutM none 2 kq c = none from by unfold cutM; split <;> rfl] at S5
        refine wp_region_held_drew (S := fun _ => True) (by kernel_rfl) (trivial) (fun hHeld => ?_)
        refine wpAnyH_take (i := 0) (oi := ⟨some 22, _, _, _, _, _⟩) (v := ?_) rfl (by kernel_rfl) (by kernel_rfl) (by kernel_rfl) (fun _ _ _ h => h) (Or.inl ⟨by rfl, ?_⟩) (by assumption) ?_
        rotate_left
        · intro w hSw; go_simp; first | done | with_reducible rfl
        try simp only [Act.put, List.setIfInBounds_toArray, List.set_cons_zero, List.set_cons_succ]
        refine wpAnyH_take (i := 1) (oi := ⟨some 23, _, _, _, _, _⟩) (v := ?_) rfl (by kernel_rfl) (by kernel_rfl) (by kernel_rfl) (fun _ _ _ h => h) (Or.inl ⟨by rfl, ?_⟩) (by assumption) ?_
        rotate_left
        · intro w hSw; go_simp; first | done | with_reducible rfl
        try simp only [Act.put, List.setIfInBounds_toArray, List.set_cons_zero, List.set_cons_succ]
        refine wpAnyH_take (i := 2) (oi := ⟨some 24, _, _, _, _, _⟩) (v := ?_) rfl (by kernel_rfl) (by kernel_rfl) (by kernel_rfl) (fun _ _ _ h => h) (Or.inl ⟨by rfl, ?_⟩) (by assumption) ?_
        rotate_left
        · intro w hSw; go_simp; first | done | with_reducible rfl
        try simp only [Act.put, List.setIfInBounds_toArray, List.set_cons_zero, List.set_cons_succ]
        refine wpAnyH_take (i := 4) (oi := ⟨some 26, _, _, _, _, _⟩) (v := ?_) rfl (by kernel_rfl) (by kernel_rfl) (by kernel_rfl) (fun _ _ _ h => h) (Or.inl ⟨by rfl, ?_⟩) (by assumption) ?_
        rotate_left
        · intro w hSw; go_simp; first | done | with_reducible rfl
        try simp only [Act.put, List.setIfInBounds_toArray, List.set_cons_zero, List.set_cons_succ]
        refine wpAnyH_take (i := 5) (oi := ⟨some 27, _, _, _, _, _⟩) (v := ?_) rfl (by kernel_rfl) (by kernel_rfl) (by kernel_rfl) (fun _ _ _ h => h) (Or.inl ⟨by rfl, ?_⟩) (by assumption) ?_
        rotate_left
        · intro w hSw; go_simp; first | done | with_reducible rfl
        try simp only [Act.put, List.setIfInBounds_toArray, List.set_cons_zero, List.set_cons_succ]
        refine wpAnyH_take (i := 6) (oi := ⟨some 28, _, _, _, _, _⟩) (v := ?_) rfl (by kernel_rfl) (by kernel_rfl) (by kernel_rfl) (fun _ _ _ h => h) (Or.inl ⟨by rfl, ?_⟩) (by assumption) ?_
        rotate_left
        · intro w hSw; go_simp; first | done | with_reducible rfl
        try simp only [Act.put, List.setIfInBounds_toArray, List.set_cons_zero, List.set_cons_succ]
        refine wpAnyH_ready (rs := [3]) (by kernel_rfl) (by simp) ?_
        refine AllReadyH.cons (o := ⟨some 25, _, _, _, _, _⟩) rfl (fun K hK => ?_) AllReadyH.nil
        refine step_mine (by kernel_rfl) _ _ elT _ rfl rfl (Mine.nil wr.heap.size 2 wr.drew) _ rfl (l.length - kq) _ S5.out (by omega) (by omega) hz0 ?_
        intro A3 c3 w3 m3 g3 q3
        have B3 : Hid (Below wr.heap.size wr w3) := B0.out.trans ((only_row (A := none) (F := fun j => wr.heap.size ≤ j) g3 (fun b hb => by cases hb)).below (fun _ h => h) hz0)
        have M3 : Hid (Mine wr.heap.size 2 w3 A3 (l.drop kq).length c3 (tv (l.drop kq))) := by
          show Mine _ _ _ _ _ _ _
          have el : (l.drop kq).length = 0 + (l.length - kq) := by rw [List.length_drop]; omega
          rw [el]; exact m3
        have HTe := Lib.hid (HT.out.below B3.out (Nat.le_refl _))
        have S6 := Lib.hid ((HTe.out.pre hKL).src (P := Try.prog) Try.underlying26 (by omega) (tv_one _))
        have hz3 := B3.out.size
        try simp only [Nat.zero_add]
        clear m3 g3 q3
        refine hK.out _ _ (trivial) (fun hHeld => ?_)
        clear hK K
        try simp only [Act.put, List.setIfInBounds_toArray, List.set_cons_zero, List.set_cons_succ]
        refine wpAnyH_ready (rs := [7]) (by kernel_rfl) (by simp) ?_
        refine AllReadyH.cons (o := ⟨some 29, _, _, _, _, _⟩) rfl (fun K hK => ?_) AllReadyH.nil
        refine step_mine (by kernel_rfl) _ _ elT _ rfl rfl (Mine.nil wr.heap.size 2 w3) _ rfl kq _ S6.out (by omega) (by omega) hz3 ?_
        intro A7 c7 w7 m7 g7 q7
        have B37 : Hid (Below w3.heap.size w3 w7) := (only_row (A := none) (F := fun j => w3.heap.size ≤ j) g7 (fun b hb => by cases hb)).below (fun _ h => h) (Nat.le_refl _)
        have M7 : Hid (Mine wr.heap.size 2 w7 A7 (l.take kq).length c7 (tv (l.take kq))) := by
          show Mine _ _ _ _ _ _ _
          have el : (l.take kq).length = 0 + kq := by rw [List.length_take]; omega
          rw [el]; exact m7
        have M37 := Lib.hid (M3.out.below B37.out (Nat.le_refl _))
        try simp only [Nat.zero_add]
        clear m7 g7 q7
        refine hK.out _ _ (trivial) (fun hHeld => ?_)
        clear hK K
        try simp only [Act.put, List.setIfInBounds_toArray, List.set_cons_zero, List.set_cons_succ]
        refine wpAnyH_take (i := 8) (oi := ⟨some 4, _, _, _, _, _⟩) (v := ?_) rfl (by kernel_rfl) (by kernel_rfl) (by kernel_rfl) (fun _ _ _ h => h) (Or.inl ⟨by rfl, ?_⟩) (by assumption) ?_
        rotate_left
        · intro w hSw; go_simp; first | done | with_reducible rfl
        try simp only [Act.put, List.setIfInBounds_toArray, List.set_cons_zero, List.set_cons_succ]
        refine wpAnyH_take (i := 9) (oi := ⟨some 5, _, _, _, _, _⟩) (v := ?_) rfl (by kernel_rfl) (by kernel_rfl) (by kernel_rfl) (fun _ _ _ h => h) (Or.inl ⟨by rfl, ?_⟩) (by assumption) ?_
        rotate_left
        · intro w hSw; go_simp; first | done | with_reducible rfl
        try simp only [Act.put, List.setIfInBounds_toArray, List.set_cons_zero, List.set_cons_succ]
        refine wpAnyH_done (by kernel_rfl) ?_ _
        have HXL : Hid ((l.drop kq).length = (l.length - kq)) := by show _ = _; rw [List.length_drop]
        have HYL : Hid ((l.take kq).length = kq) := by show _ = _; rw [List.length_take]; omega
        go_wp2_with fail
        go_ret2
        rw [← KK.out]
        exact ⟨A3, c3, A7, c7, by rw [HXL.out, HYL.out]; rfl, Lt.mine M37.out, Lt.mine M7.out, B3.out.trans (B37.out.mono hz3), fun b hb => ⟨(M37.out.base hb).1, (M37.out.base hb).2.1⟩, fun b hb => ⟨(M7.out.base hb).1, (M7.out.base hb).2.1⟩⟩
      | some q =>
        have hq0 : q.add 0 = q := by unfold Addr.add; simp
        have hq1 : q.add (0 * 2) = q := hq0
        by_cases hcK : c = kq
        · have hcS := hcK.symm
          subst hcS
          have hlc := HT.out.le
          have kc : (kq : Int) ≤ (kq : Int) := by omega
          have kI : (kq : Int) ≤ (l.length : Int) := by omega
          have k0 : (0 : Int) ≤ (kq : Int) := by omega
          go_wp2_with fail
          have HTd : Hid (Lt wr.drew (some q) l kq) := HT.out.below ((Below.refl wr.heap.size wr).drew) (Nat.le_refl _)
          have B0 : Hid (Below wr.heap.size wr wr.drew) := (Below.refl _ _).drew
          have hz0 : wr.heap.size ≤ wr.drew.heap.size := Nat.le_refl _
          have S5 := Lib.hid ((HTd.out.cut hKL).src (P := Try.prog) Try.underlying26 (by omega) (tv_one _))
          have e0 : l.length - kq = 0 := by omega
          rw [show cutM (some q) 2 kq kq = some q from if_pos rfl, e0, Nat.sub_self] at S5
          refine wp_region_held_drew (S := fun _ => True) (by kernel_rfl) (trivial) (fun hHeld => ?_)
          refine wpAnyH_take (i := 0) (oi := ⟨some 22, _, _, _, _, _⟩) (v := ?_) rfl (by kernel_rfl) (by kernel_rfl) (by kernel_rfl) (fun _ _ _ h => h) (Or.inl ⟨by rfl, ?_⟩) (by assumption) ?_
          rotate_left
          · intro w hSw; go_simp; first | done | with_reducible rfl
          try simp only [Act.put, List.setIfInBounds_toArray, List.set_cons_zero, List.set_cons_succ]
          refine wpAnyH_take (i := 1) (oi := ⟨some 23, _, _, _, _, _⟩) (v := ?_) rfl (by kernel_rfl) (by kernel_rfl) (by kernel_rfl) (fun _ _ _ h => h) (Or.inl ⟨by rfl, ?_⟩) (by assumption) ?_
          rotate_left
          · intro w hSw; go_simp; first | done | with_reducible rfl
          try simp only [Act.put, List.setIfInBounds_toArray, List.set_cons_zero, List.set_cons_succ]
          refine wpAnyH_take (i := 2) (oi := ⟨some 24, _, _, _, _, _⟩) (v := ?_) rfl (by kernel_rfl) (by kernel_rfl) (by kernel_rfl) (fun _ _ _ h => h) (Or.inl ⟨by rfl, ?_⟩) (by assumption) ?_
          rotate_left
          · intro w hSw; go_simp; first | done | with_reducible rfl
          try simp only [Act.put, List.setIfInBounds_toArray, List.set_cons_zero, List.set_cons_succ]
          refine wpAnyH_take (i := 4) (oi := ⟨some 26, _, _, _, _, _⟩) (v := ?_) rfl (by kernel_rfl) (by kernel_rfl) (by kernel_rfl) (fun _ _ _ h => h) (Or.inl ⟨by rfl, ?_⟩) (by assumption) ?_
          rotate_left
          · intro w hSw; go_simp; first | done | with_reducible rfl
          try simp only [Act.put, List.setIfInBounds_toArray, List.set_cons_zero, List.set_cons_succ]
          refine wpAnyH_take (i := 5) (oi := ⟨some 27, _, _, _, _, _⟩) (v := ?_) rfl (by kernel_rfl) (by kernel_rfl) (by kernel_rfl) (fun _ _ _ h => h) (Or.inl ⟨by rfl, ?_⟩) (by assumption) ?_
          rotate_left
          · intro w hSw; go_simp; first | done | with_reducible rfl
          try simp only [Act.put, List.setIfInBounds_toArray, List.set_cons_zero, List.set_cons_succ]
          refine wpAnyH_take (i := 6) (oi := ⟨some 28, _, _, _, _, _⟩) (v := ?_) rfl (by kernel_rfl) (by kernel_rfl) (by kernel_rfl) (fun _ _ _ h => h) (Or.inl ⟨by rfl, ?_⟩) (by assumption) ?_
          rotate_left
          · intro w hSw; go_simp; first | done | with_reducible rfl
          try simp only [Act.put, List.setIfInBounds_toArray, List.set_cons_zero, List.set_cons_succ]
          refine wpAnyH_ready (rs := [3]) (by kernel_rfl) (by simp) ?_
          refine AllReadyH.cons (o := ⟨some 25, _, _, _, _, _⟩) rfl (fun K hK => ?_) AllReadyH.nil
          refine step_mine (by kernel_rfl) _ _ elT _ rfl rfl (Mine.nil wr.heap.size 2 wr.drew) _ rfl 0 _ S5.out (by omega) (by omega) hz0 ?_
          intro A3 c3 w3 m3 g3 q3
          have B3 : Hid (Below wr.heap.size wr w3) := B0.out.trans ((only_row (A := none) (F := fun j => wr.heap.size ≤ j) g3 (fun b hb => by cases hb)).below (fun _ h => h) hz0)
          have M3 : Hid (Mine wr.heap.size 2 w3 A3 (l.drop kq).length c3 (tv (l.drop kq))) := by
            show Mine _ _ _ _ _ _ _
            have el : (l.drop kq).length = 0 + 0 := by rw [List.length_drop]; omega
            rw [el]; exact m3
          have HTe := Lib.hid (HT.out.below B3.out (Nat.le_refl _))
          have S6 := Lib.hid ((HTe.out.pre hKL).src (P := Try.prog) Try.underlying26 (by omega) (tv_one _))
          have hz3 := B3.out.size
          try simp only [Nat.zero_add]
          clear m3 g3 q3
          refine hK.out _ _ (trivial) (fun hHeld => ?_)
          clear hK K
          try simp only [Act.put, List.setIfInBounds_toArray, List.set_cons_zero, List.set_cons_succ]
          refine wpAnyH_ready (rs := [7]) (by kernel_rfl) (by simp) ?_
          refine AllReadyH.cons (o := ⟨some 29, _, _, _, _, _⟩) rfl (fun K hK => ?_) AllReadyH.nil
          refine step_mine (by kernel_rfl) _ _ elT _ rfl rfl (Mine.nil wr.heap.size 2 w3) _ rfl kq _ S6.out (by omega) (by omega) hz3 ?_
          intro A7 c7 w7 m7 g7 q7
          have B37 : Hid (Below w3.heap.size w3 w7) := (only_row (A := none) (F := fun j => w3.heap.size ≤ j) g7 (fun b hb => by cases hb)).below (fun _ h => h) (Nat.le_refl _)
          have M7 : Hid (Mine wr.heap.size 2 w7 A7 (l.take kq).length c7 (tv (l.take kq))) := by
            show Mine _ _ _ _ _ _ _
            have el : (l.take kq).length = 0 + kq := by rw [List.length_take]; omega
            rw [el]; exact m7
          have M37 := Lib.hid (M3.out.below B37.out (Nat.le_refl _))
          try simp only [Nat.zero_add]
          clear m7 g7 q7
          refine hK.out _ _ (trivial) (fun hHeld => ?_)
          clear hK K
          try simp only [Act.put, List.setIfInBounds_toArray, List.set_cons_zero, List.set_cons_succ]
          refine wpAnyH_take (i := 8) (oi := ⟨some 4, _, _, _, _, _⟩) (v := ?_) rfl (by kernel_rfl) (by kernel_rfl) (by kernel_rfl) (fun _ _ _ h => h) (Or.inl ⟨by rfl, ?_⟩) (by assumption) ?_
          rotate_left
          · intro w hSw; go_simp; first | done | with_reducible rfl
          try simp only [Act.put, List.setIfInBounds_toArray, List.set_cons_zero, List.set_cons_succ]
          refine wpAnyH_take (i := 9) (oi := ⟨some 5, _, _, _, _, _⟩) (v := ?_) rfl (by kernel_rfl) (by kernel_rfl) (by kernel_rfl) (fun _ _ _ h => h) (Or.inl ⟨by rfl, ?_⟩) (by assumption) ?_
          rotate_left
          · intro w hSw; go_simp; first | done | with_reducible rfl
          try simp only [Act.put, List.setIfInBounds_toArray, List.set_cons_zero, List.set_cons_succ]
          refine wpAnyH_done (by kernel_rfl) ?_ _
          have HXL : Hid ((l.drop kq).length = 0) := by show _ = _; rw [List.length_drop]; omega
          have HYL : Hid ((l.take kq).length = kq) := by show _ = _; rw [List.length_take]; omega
          go_wp2_with fail
          go_ret2
          rw [← KK.out]
          exact ⟨A3, c3, A7, c7, by rw [HXL.out, HYL.out]; rfl, Lt.mine M37.out, Lt.mine M7.out, B3.out.trans (B37.out.mono hz3), fun b hb => ⟨(M37.out.base hb).1, (M37.out.base hb).2.1⟩, fun b hb => ⟨(M7.out.base hb).1, (M7.out.base hb).2.1⟩⟩
        · have hlc := HT.out.le
          have kc : (kq : Int) ≤ (c : Int) := by omega
          have kI : (kq : Int) ≤ (l.length : Int) := by omega
          have k0 : (0 : Int) ≤ (kq : Int) := by omega
          go_wp2_with fail
          have HTd : Hid (Lt wr.drew (some q) l c) := HT.out.below ((Below.refl wr.heap.size wr).drew) (Nat.le_refl _)
          have B0 : Hid (Below wr.heap.size wr wr.drew) := (Below.refl _ _).drew
          have hz0 : wr.heap.size ≤ wr.drew.heap.size := Nat.le_refl _
          have S5 := Lib.hid ((HTd.out.cut hKL).src (P := Try.prog) Try.underlying26 (by omega) (tv_one _))
          rw [show cutM (some q) 2 kq c = some (q.add (kq * 2)) from if_neg hcK] at S5
          refine wp_region_held_drew (S := fun _ => True) (by kernel_rfl) (trivial) (fun hHeld => ?_)
          refine wpAnyH_take (i := 0) (oi := ⟨some 22, _, _, _, _, _⟩) (v := ?_) rfl (by kernel_rfl) (by kernel_rfl) (by kernel_rfl) (fun _ _ _ h => h) (Or.inl ⟨by rfl, ?_⟩) (by assumption) ?_
          rotate_left
          · intro w hSw; go_simp; first | done | with_reducible rfl
          try simp only [Act.put, List.setIfInBounds_toArray, List.set_cons_zero, List.set_cons_succ]
          refine wpAnyH_take (i := 1) (oi := ⟨some 23, _, _, _, _, _⟩) (v := ?_) rfl (by kernel_rfl) (by kernel_rfl) (by kernel_rfl) (fun _ _ _ h => h) (Or.inl ⟨by rfl, ?_⟩) (by assumption) ?_
          rotate_left
          · intro w hSw; go_simp; first | done | with_reducible rfl
          try simp only [Act.put, List.setIfInBounds_toArray, List.set_cons_zero, List.set_cons_succ]
          refine wpAnyH_take (i := 2) (oi := ⟨some 24, _, _, _, _, _⟩) (v := ?_) rfl (by kernel_rfl) (by kernel_rfl) (by kernel_rfl) (fun _ _ _ h => h) (Or.inl ⟨by rfl, ?_⟩) (by assumption) ?_
          rotate_left
          · intro w hSw; go_simp; first | done | with_reducible rfl
          try simp only [Act.put, List.setIfInBounds_toArray, List.set_cons_zero, List.set_cons_succ]
          refine wpAnyH_take (i := 4) (oi := ⟨some 26, _, _, _, _, _⟩) (v := ?_) rfl (by kernel_rfl) (by kernel_rfl) (by kernel_rfl) (fun _ _ _ h => h) (Or.inl ⟨by rfl, ?_⟩) (by assumption) ?_
          rotate_left
          · intro w hSw; go_simp; first | done | with_reducible rfl
          try simp only [Act.put, List.setIfInBounds_toArray, List.set_cons_zero, List.set_cons_succ]
          refine wpAnyH_take (i := 5) (oi := ⟨some 27, _, _, _, _, _⟩) (v := ?_) rfl (by kernel_rfl) (by kernel_rfl) (by kernel_rfl) (fun _ _ _ h => h) (Or.inl ⟨by rfl, ?_⟩) (by assumption) ?_
          rotate_left
          · intro w hSw; go_simp; first | done | with_reducible rfl
          try simp only [Act.put, List.setIfInBounds_toArray, List.set_cons_zero, List.set_cons_succ]
          refine wpAnyH_take (i := 6) (oi := ⟨some 28, _, _, _, _, _⟩) (v := ?_) rfl (by kernel_rfl) (by kernel_rfl) (by kernel_rfl) (fun _ _ _ h => h) (Or.inl ⟨by rfl, ?_⟩) (by assumption) ?_
          rotate_left
          · intro w hSw; go_simp; first | done | with_reducible rfl
          try simp only [Act.put, List.setIfInBounds_toArray, List.set_cons_zero, List.set_cons_succ]
          refine wpAnyH_ready (rs := [3]) (by kernel_rfl) (by simp) ?_
          refine AllReadyH.cons (o := ⟨some 25, _, _, _, _, _⟩) rfl (fun K hK => ?_) AllReadyH.nil
          refine step_mine (by kernel_rfl) _ _ elT _ rfl rfl (Mine.nil wr.heap.size 2 wr.drew) _ rfl (l.length - kq) _ S5.out (by omega) (by omega) hz0 ?_
          intro A3 c3 w3 m3 g3 q3
          have B3 : Hid (Below wr.heap.size wr w3) := B0.out.trans ((only_row (A := none) (F := fun j => wr.heap.size ≤ j) g3 (fun b hb => by cases hb)).below (fun _ h => h) hz0)
          have M3 : Hid (Mine wr.heap.size 2 w3 A3 (l.drop kq).length c3 (tv (l.drop kq))) := by
            show Mine _ _ _ _ _ _ _
            have el : (l.drop kq).length = 0 + (l.length - kq) := by rw [List.length_drop]; omega
            rw [el]; exact m3
          have HTe := Lib.hid (HT.out.below B3.out (Nat.le_refl _))
          have S6 := Lib.hid ((HTe.out.pre hKL).src (P := Try.prog) Try.underlying26 (by omega) (tv_one _))
          have hz3 := B3.out.size
          try simp only [Nat.zero_add]
          clear m3 g3 q3
          refine hK.out _ _ (trivial) (fun hHeld => ?_)
          clear hK K
          try simp only [Act.put, List.setIfInBounds_toArray, List.set_cons_zero, List.set_cons_succ]
          refine wpAnyH_ready (rs := [7]) (by kernel_rfl) (by simp) ?_
          refine AllReadyH.cons (o := ⟨some 29, _, _, _, _, _⟩) rfl (fun K hK => ?_) AllReadyH.nil
          refine step_mine (by kernel_rfl) _ _ elT _ rfl rfl (Mine.nil wr.heap.size 2 w3) _ rfl kq _ S6.out (by omega) (by omega) hz3 ?_
          intro A7 c7 w7 m7 g7 q7
          have B37 : Hid (Below w3.heap.size w3 w7) := (only_row (A := none) (F := fun j => w3.heap.size ≤ j) g7 (fun b hb => by cases hb)).below (fun _ h => h) (Nat.le_refl _)
          have M7 : Hid (Mine wr.heap.size 2 w7 A7 (l.take kq).length c7 (tv (l.take kq))) := by
            show Mine _ _ _ _ _ _ _
            have el : (l.take kq).length = 0 + kq := by rw [List.length_take]; omega
            rw [el]; exact m7
          have M37 := Lib.hid (M3.out.below B37.out (Nat.le_refl _))
          try simp only [Nat.zero_add]
          clear m7 g7 q7
          refine hK.out _ _ (trivial) (fun hHeld => ?_)
          clear hK K
          try simp only [Act.put, List.setIfInBounds_toArray, List.set_cons_zero, List.set_cons_succ]
          refine wpAnyH_take (i := 8) (oi := ⟨some 4, _, _, _, _, _⟩) (v := ?_) rfl (by kernel_rfl) (by kernel_rfl) (by kernel_rfl) (fun _ _ _ h => h) (Or.inl ⟨by rfl, ?_⟩) (by assumption) ?_
          rotate_left
          · intro w hSw; go_simp; first | done | with_reducible rfl
          try simp only [Act.put, List.setIfInBounds_toArray, List.set_cons_zero, List.set_cons_succ]
          refine wpAnyH_take (i := 9) (oi := ⟨some 5, _, _, _, _, _⟩) (v := ?_) rfl (by kernel_rfl) (by kernel_rfl) (by kernel_rfl) (fun _ _ _ h => h) (Or.inl ⟨by rfl, ?_⟩) (by assumption) ?_
          rotate_left
          · intro w hSw; go_simp; first | done | with_reducible rfl
          try simp only [Act.put, List.setIfInBounds_toArray, List.set_cons_zero, List.set_cons_succ]
          refine wpAnyH_done (by kernel_rfl) ?_ _
          have HXL : Hid ((l.drop kq).length = (l.length - kq)) := by show _ = _; rw [List.length_drop]
          have HYL : Hid ((l.take kq).length = kq) := by show _ = _; rw [List.length_take]; omega
          go_wp2_with fail
          go_ret2
          rw [← KK.out]
          exact ⟨A3, c3, A7, c7, by rw [HXL.out, HYL.out]; rfl, Lt.mine M37.out, Lt.mine M7.out, B3.out.trans (B37.out.mono hz3), fun b hb => ⟨(M37.out.base hb).1, (M37.out.base hb).2.1⟩, fun b hb => ⟨(M7.out.base hb).1, (M7.out.base hb).2.1⟩⟩
end Go.Proofs.Ytpalbccoiejmoaa.Yd
