/- Proves what the functions without, Add, Remove, Use, Oldest, Next and Same of the specification's order return and leave in memory. Conditions: as each theorem names them. -/
import Derived.Test.YtfoalfemkpiniaaUa
import Derived.Test.YtfoalfemkpiniaaRg
namespace Go.Proofs.Ytfoalfemkpiniaa.Ub
open Go.RowKit Ap Mi Nw Ua Rg

theorem src_lit {w : World} {t e e' : TypeId} (hk : Try.prog.underlying t = some (.slice e)) (cs : Array Value) (n sz : Nat) (hn : cs.size = n * sz) (h1 : ∀ u ∈ cs.toList, u.oneCell' = true) : Src Try.prog sz t (.slice (some ⟨w.heap.size, 0, none⟩) n n) n cs.toList (w.alloc (.cells cs e')) :=
  Src.ofSlice _ hk _ n n cs.toList (by simpa using hn) (fun j u hu => by
    rw [Nw.add_lit, Nat.zero_add, cell_of_row _ _ j cs e' (0, 0) (heap_alloc_new w _)]; simpa using hu) h1
theorem only_row {w w' : World} {A : Option Addr} {F : Nat → Prop} (h : w.grownBy w' (A.map (·.block))) (hA : ∀ a, A = some a → F a.block) : Only F w w' :=
  Only.of_grown h (fun k e => by rw [Option.map_eq_some_iff] at e; obtain ⟨a, ha, e⟩ := e; rw [← e]; exact hA a ha)
/-- A new list. -/
def madePost (w : World) (l : List Int) : Ending → World → Prop := fun e w' => ∃ A c, e = .returned (.slice A l.length c) ∧ Mine w.heap.size 1 w' A l.length c (iv l) ∧ Below w.heap.size w w'
theorem wo_step {l : List Int} {n : Int} {k : Nat} (hk : k < l.length) : wo (l.take (k + 1)) n = if l[k] = n then wo (l.take k) n else wo (l.take k) n ++ [l[k]] := by
  rw [List.take_succ_eq_append_getElem hk]
  unfold wo
  rw [List.filter_append]
  by_cases h : l[k] = n
  · simp [h]
  · simp [h]
theorem wo_len (l : List Int) (n : Int) : (wo l n).length ≤ l.length := List.length_filter_le _ _
set_option maxRecDepth 100000 in
set_option maxHeartbeats 1000000 in
theorem without_any {w : World} {A : Option Addr} {l : List Int} {c : Nat} (h : Li w A l c) (n : Int) (hn : l.length ≤ 1000000) :
    Calls Try.prog 42 #[.slice A l.length c, .int .i64 n] w (madePost w (wo l n)) := by
  have HT := Lib.hid h
  have g1 : (l.length : Int) ≤ 1000000 := by omega
  have hcap := Rs.max h
  unfold madePost
  obtain ⟨N, hN⟩ : ∃ N, N = w.heap.size := ⟨_, rfl⟩
  have HN := Lib.hid hN
  rw [← hN]
  clear h hN
  go_enter Try.func42, Try.ntmps42
  go_wp2_with fail
  go_loopw [5, 6] (fun v i wr => ∃ (k : Nat) (X : Option Addr) (d : Nat) (L : List Int), k ≤ l.length ∧ i = .int .i64 (k : Int) ∧ v = .slice X L.length d ∧ Hid (L = wo (l.take k) n) ∧ Mine N 1 wr X L.length d (iv L) ∧ Below N w wr) (fun _ i _ => l.length - (intOf i).toNat)
  case atStart => exact ⟨0, none, 0, [], Nat.zero_le _, rfl, rfl, rfl, Mine.nil _ _ _, Below.refl _ _⟩
  case round =>
    obtain ⟨k, X, d, L, hk, rfl, rfl, HL, hm, hb⟩ := hrel
    have HM := Lib.hid hm; have HB := Lib.hid hb
    have hzr := hb.size
    have HTr := Lib.hid (HT.out.below hb (by have := HN.out; omega))
    clear hm hb
    by_cases hlt : k < l.length
    · have j1 : (k : Int) < (l.length : Int) := by omega
      obtain ⟨tb, to_, rfl, ltb, a0⟩ := HTr.out.at_ hlt
      have HS := Lib.hid (wo_step (n := n) hlt)
      have hLl : L.length ≤ k := by
        rw [HL.out]
        exact Nat.le_trans (wo_len _ _) (by rw [List.length_take]; omega)
      obtain ⟨y, hy⟩ : ∃ y, y = l[k] := ⟨_, rfl⟩
      rw [← hy] at a0 HS
      clear hy
      by_cases he : y = n
      · have hbe : (y != n) = false := by simp [he]
        have HS' : Hid (wo (l.take (k + 1)) n = wo (l.take k) n) := by show _ = _; rw [HS.out, if_pos he]
        clear he
        go_wp2_with fail
        go_roundw
        case rel => exact ⟨k + 1, X, d, L, by omega, by go_num, rfl, by show L = _; rw [HS'.out]; exact HL.out, HM.out, HB.out⟩
        case measure => simp [intOf]; omega
      · have hbe : (y != n) = true := by simp [he]
        have HS' : Hid (wo (l.take (k + 1)) n = wo (l.take k) n ++ [y]) := by show _ = _; rw [HS.out, if_neg he]
        clear he
        go_wp2_with (at_builtin; (refine wpList_mine rfl _ _ elI _ rfl rfl (HM.out.below (bnew wr (.cells #[.int .i64 y] 3)) (Nat.le_refl _)) _ rfl 1 _ (src_lit Try.underlying26 #[.int .i64 y] 1 1 rfl (by simp [Value.oneCell'])) (by omega) (by omega) (by have := HN.out; simp; omega) ?_))
        intro A' c' w5 m5 g5 q5
        have HM5 : Hid (Mine N 1 w5 A' (L ++ [y]).length c' (iv (L ++ [y]))) := by
          show Mine _ _ _ _ _ _ _
          rw [iv_snoc, List.length_append]; exact m5
        have HB5 : Hid (Below N w w5) := (HB.out.trans ((bnew wr (.cells #[.int .i64 y] 3)).mono (by have := HN.out; omega))).trans ((only_row (F := fun j => N ≤ j) g5 (fun a ha => (HM.out.base ha).1)).below (fun _ h => h) (by have := HN.out; simp; omega))
        have e5 : L.length + 1 = (L ++ [y]).length := by simp
        obtain ⟨L', hL'⟩ : ∃ L', L' = L ++ [y] := ⟨_, rfl⟩
        have HL5 : Hid (L' = wo (l.take (k + 1)) n) := by show _ = _; rw [hL', HS'.out, HL.out]
        rw [← hL'] at HM5 e5
        rw [e5]
        clear m5 g5 q5 hL' e5
        go_wp2_with fail
        go_roundw
        case rel => exact ⟨k + 1, A', c', L', by omega, by go_num, rfl, HL5.out, HM5.out, HB5.out⟩
        case measure => simp [intOf]; omega
    · obtain rfl : k = l.length := by omega
      have hnn : ¬ (l.length : Int) < l.length := by omega
      have HL' : Hid (L = wo l n) := by show _ = _; rw [HL.out, List.take_of_length_le (Nat.le_refl _)]
      go_wp2_with fail
      go_ret
      exact ⟨X, d, by rw [← HL'.out]; rfl, by rw [← HL'.out]; exact HM.out, HB.out⟩
/-- A list and an error. -/
def tabPost (w : World) (A0 : Option Addr) (l : List Int) (e0 : Int) : Ending → World → Prop := fun e w' => ∃ A c, e = .returned (.tuple #[.slice A l.length c, .int .i64 e0]) ∧ Li w' A l c ∧ Below w.heap.size w w' ∧ ∀ a, A = some a → A0 = some a ∨ (w.heap.size ≤ a.block ∧ a.block < w'.heap.size)
theorem ix_geq {l : List Int} {n : Int} : (n ∈ l → 0 ≤ ixOf l n) ∧ (n ∉ l → ixOf l n < 0) :=
  ⟨fun h => by obtain ⟨k, e, _⟩ := ix_pos h; omega, fun h => by rw [ix_neg h]; omega⟩
set_option maxRecDepth 100000 in
set_option maxHeartbeats 1000000 in
theorem add_any {w : World} {A : Option Addr} {l : List Int} {c : Nat} (h : Li w A l c) (n : Int) (hn : l.length ≤ 1000000) :
    Calls Try.prog 26 #[.slice A l.length c, .int .i64 n] w (tabPost w A (addT l n) (addN l n)) := by
  have HT := Lib.hid h
  have HA := Lib.hid (at_any h n (by omega))
  have hcap := Rs.max h
  unfold tabPost
  by_cases hs : Sl n
  case neg =>
    have HS := Lib.hid (slot_no hs w)
    have H1 : Hid (addT l n = l) := if_neg (fun h => hs h.1)
    have H2 : Hid (addN l n = 2) := if_pos hs
    clear hs h
    go_enter Try.func26, Try.ntmps26
    go_wp2_with fail
    refine HS.out.mono ?_
    rintro e w1 ⟨rfl, rfl⟩
    go_wp2_with fail
    go_ret2
    exact ⟨A, c, by rw [H1.out, H2.out]; rfl, by rw [H1.out]; exact HT.out, Below.refl _ _, fun a ha => Or.inl ha⟩
  have HS := Lib.hid (slot_yes hs w)
  by_cases hm : n ∈ l
  case pos =>
    have hp := ix_geq.1 hm
    have H1 : Hid (addT l n = l) := if_neg (fun h => h.2 hm)
    have H2 : Hid (addN l n = 11) := by show _ = _; unfold addN; rw [if_neg (by simpa using hs), if_pos hm]
    obtain ⟨i, hi⟩ : ∃ i, i = ixOf l n := ⟨_, rfl⟩
    rw [← hi] at HA hp
    clear hs hm h hi
    go_enter Try.func26, Try.ntmps26
    go_wp2_with fail
    refine HS.out.mono ?_
    rintro e w1 ⟨rfl, rfl⟩
    go_wp2_with fail
    refine HA.out.mono ?_
    rintro e w1 ⟨rfl, rfl⟩
    go_wp2_with fail
    go_ret2
    exact ⟨A, c, by rw [H1.out, H2.out]; rfl, by rw [H1.out]; exact HT.out, Below.refl _ _, fun a ha => Or.inl ha⟩
  case neg =>
    have hp := ix_geq.2 hm
    have hp' : ¬ 0 ≤ ixOf l n := by omega
    have H1 : Hid (addT l n = l ++ [n]) := if_pos ⟨hs, hm⟩
    have H2 : Hid (addN l n = 0) := by show _ = _; unfold addN; rw [if_neg (by simpa using hs), if_neg hm]
    obtain ⟨i, hi⟩ : ∃ i, i = ixOf l n := ⟨_, rfl⟩
    rw [← hi] at HA hp hp'
    have HN0 := Lib.hid (Mine.nil w.heap.size 1 w)
    have HSR := Lib.hid (Rs.src (P := Try.prog) Try.underlying26 h (by omega) (iv_one l))
    clear hs hm h hi
    go_enter Try.func26, Try.ntmps26
    go_wp2_with fail
    refine HS.out.mono ?_
    rintro e w1 ⟨rfl, rfl⟩
    go_wp2_with fail
    refine HA.out.mono ?_
    rintro e w ⟨rfl, rfl⟩
    go_wp2_with (at_builtin; (refine wpList_mine rfl _ _ elI _ rfl rfl HN0.out _ rfl l.length _ HSR.out (by omega) (by omega) (by omega) ?_))
    intro A1 c1 w1 m1 g1 _
    have HM1 : Hid (Mine w.heap.size 1 w1 A1 l.length c1 (iv l)) := m1
    have HB1 : Hid (Below w.heap.size w w1) := (only_row (A := none) (F := fun j => w.heap.size ≤ j) g1 (fun a ha => by cases ha)).below (fun _ h => h) (Nat.le_refl _)
    have hz1 := HB1.out.size
    clear m1 g1
    go_wp2_with (at_builtin; (refine wpList_mine rfl _ _ elI _ rfl rfl (HM1.out.below (bnew w1 (.cells #[.int .i64 n] 3)) (Nat.le_refl _)) _ rfl 1 _ (src_lit Try.underlying26 #[.int .i64 n] 1 1 rfl (by simp [Value.oneCell'])) (by omega) (by omega) (by simp; omega) ?_))
    intro A5 c5 w5 m5 g5 _
    have HM5 : Hid (Mine w.heap.size 1 w5 A5 (l ++ [n]).length c5 (iv (l ++ [n]))) := by
      show Mine _ _ _ _ _ _ _
      rw [iv_snoc, List.length_append]; exact m5
    have HB5 : Hid (Below w.heap.size w w5) := (HB1.out.trans ((bnew w1 (.cells #[.int .i64 n] 3)).mono (by omega))).trans ((only_row (F := fun j => w.heap.size ≤ j) g5 (fun a ha => (HM1.out.base ha).1)).below (fun _ h => h) (by simp; omega))
    have e5 : l.length + 1 = (l ++ [n]).length := by simp
    obtain ⟨L', hL'⟩ : ∃ L', L' = l ++ [n] := ⟨_, rfl⟩
    have HL' := Lib.hid hL'
    rw [← hL'] at HM5 e5
    rw [e5]
    clear m5 g5 hL' e5
    go_wp2_with fail
    go_ret2
    exact ⟨A5, c5, by rw [H1.out, H2.out, ← HL'.out]; rfl, by rw [H1.out, ← HL'.out]; exact Li.mine HM5.out, HB5.out, fun a ha => Or.inr ⟨(HM5.out.base ha).1, (HM5.out.base ha).2.1⟩⟩
/-- What Remove leaves: the list as it was, or a row of the call's own. -/
def remPost (w : World) (A : Option Addr) (c : Nat) (l : List Int) (n : Int) : Ending → World → Prop := fun e w' =>
  (¬ (Sl n ∧ n ∈ l) ∧ e = .returned (.tuple #[.slice A l.length c, .int .i64 (remN l n)]) ∧ w' = w) ∨
  (Sl n ∧ n ∈ l ∧ ∃ A' c', e = .returned (.tuple #[.slice A' (wo l n).length c', .int .i64 0]) ∧ Mine w.heap.size 1 w' A' (wo l n).length c' (iv (wo l n)) ∧ Below w.heap.size w w')
set_option maxRecDepth 100000 in
set_option maxHeartbeats 1000000 in
theorem remove_own {w : World} {A : Option Addr} {l : List Int} {c : Nat} (h : Li w A l c) (n : Int) (hn : l.length ≤ 1000000) :
    Calls Try.prog 28 #[.slice A l.length c, .int .i64 n] w (remPost w A c l n) := by
  have HT := Lib.hid h
  have HA := Lib.hid (at_any h n (by omega))
  have HW := Lib.hid (without_any h n hn)
  unfold madePost at HW
  have hcap := Rs.max h
  by_cases hs : Sl n
  case neg =>
    have HS := Lib.hid (slot_no hs w)
    have H1 : Hid (¬ (Sl n ∧ n ∈ l)) := fun h => hs h.1
    have H2 : Hid (remN l n = 2) := if_pos hs
    clear hs h
    go_enter Try.func28, Try.ntmps28
    go_wp2_with fail
    refine HS.out.mono ?_
    rintro e w1 ⟨rfl, rfl⟩
    go_wp2_with fail
    go_ret2
    exact Or.inl ⟨H1.out, by rw [H2.out]; rfl, rfl⟩
  have HS := Lib.hid (slot_yes hs w)
  by_cases hm : n ∈ l
  case neg =>
    have hp := ix_geq.2 hm
    have hp' : ¬ 0 ≤ ixOf l n := by omega
    have H1 : Hid (¬ (Sl n ∧ n ∈ l)) := fun h => hm h.2
    have H2 : Hid (remN l n = 9) := by show _ = _; unfold remN; rw [if_neg (by simpa using hs), if_neg hm]
    obtain ⟨i, hi⟩ : ∃ i, i = ixOf l n := ⟨_, rfl⟩
    rw [← hi] at HA hp hp'
    clear hs hm h hi
    go_enter Try.func28, Try.ntmps28
    go_wp2_with fail
    refine HS.out.mono ?_
    rintro e w1 ⟨rfl, rfl⟩
    go_wp2_with fail
    refine HA.out.mono ?_
    rintro e w1 ⟨rfl, rfl⟩
    go_wp2_with fail
    go_ret2
    exact Or.inl ⟨H1.out, by rw [H2.out]; rfl, rfl⟩
  case pos =>
    have hp := ix_geq.1 hm
    have hp' : ¬ ixOf l n < 0 := by omega
    have H1 : Hid (Sl n ∧ n ∈ l) := ⟨hs, hm⟩
    obtain ⟨i, hi⟩ : ∃ i, i = ixOf l n := ⟨_, rfl⟩
    rw [← hi] at HA hp hp'
    clear hs hm h hi
    go_enter Try.func28, Try.ntmps28
    go_wp2_with fail
    refine HS.out.mono ?_
    rintro e w1 ⟨rfl, rfl⟩
    go_wp2_with fail
    refine HA.out.mono ?_
    rintro e w1 ⟨rfl, rfl⟩
    go_wp2_with fail
    refine HW.out.mono ?_
    rintro e w1 ⟨A', c', rfl, hm, hb⟩
    have HM := Lib.hid hm; have HB := Lib.hid hb
    clear hm hb
    go_wp2_with fail
    go_ret2
    exact Or.inr ⟨H1.out.1, H1.out.2, A', c', rfl, HM.out, HB.out⟩
theorem remove_any {w : World} {A : Option Addr} {l : List Int} {c : Nat} (h : Li w A l c) (n : Int) (hn : l.length ≤ 1000000) :
    Calls Try.prog 28 #[.slice A l.length c, .int .i64 n] w (tabPost w A (remT l n) (remN l n)) := by
  refine (remove_own h n hn).mono ?_
  rintro e w1 (⟨hno, rfl, rfl⟩ | ⟨hs, hm, A', c', rfl, hr, hb⟩)
  · exact ⟨A, c, by unfold remT; rw [if_neg hno], by unfold remT; rw [if_neg hno]; exact h, Below.refl _ _, fun a ha => Or.inl ha⟩
  · exact ⟨A', c', by unfold remT remN; rw [if_pos ⟨hs, hm⟩, if_neg (by simpa using hs), if_pos hm], by unfold remT; rw [if_pos ⟨hs, hm⟩]; exact Li.mine hr, hb, fun a ha => Or.inr ⟨(hr.base ha).1, (hr.base ha).2.1⟩⟩
set_option maxRecDepth 100000 in
set_option maxHeartbeats 1000000 in
theorem use_any {w : World} {A : Option Addr} {l : List Int} {c : Nat} (h : Li w A l c) (n : Int) (hn : l.length ≤ 1000000) :
    Calls Try.prog 27 #[.slice A l.length c, .int .i64 n] w (tabPost w A (useT l n) (remN l n)) := by
  have HT := Lib.hid h
  have HR := Lib.hid (remove_own h n hn)
  unfold remPost at HR
  have hcap := Rs.max h
  unfold tabPost
  by_cases hs : Sl n ∧ n ∈ l
  case neg =>
    have H1 : Hid (useT l n = l) := if_neg hs
    have H2 : Hid (remN l n ≠ 0) := by
      show _ ≠ _
      unfold remN
      by_cases h1 : Sl n
      · rw [if_neg (by simpa using h1), if_neg (fun h2 => hs ⟨h1, h2⟩)]; decide
      · rw [if_pos h1]; decide
    have HS := Lib.hid hs
    obtain ⟨r, hr⟩ : ∃ r, r = remN l n := ⟨_, rfl⟩
    rw [← hr] at HR H2 ⊢
    have hb : (r != 0) = true := by simpa using H2.out
    clear hs hr h
    go_enter Try.func27, Try.ntmps27
    go_wp2_with fail
    refine HR.out.mono ?_
    rintro e w1 (⟨_, rfl, rfl⟩ | ⟨h1, h2, _⟩)
    case' inr => exact absurd ⟨h1, h2⟩ HS.out
    case' inl =>
      go_wp2_with fail
      go_ret2
      exact ⟨A, c, by rw [H1.out]; rfl, by rw [H1.out]; exact HT.out, Below.refl _ _, fun a ha => Or.inl ha⟩
  case pos =>
    have H1 : Hid (useT l n = wo l n ++ [n]) := if_pos hs
    have H2 : Hid (remN l n = 0) := by show _ = _; unfold remN; rw [if_neg (by simpa using hs.1), if_pos hs.2]
    have HS := Lib.hid hs
    have hwl : (wo l n).length ≤ 1000000 := Nat.le_trans (wo_len _ _) hn
    rw [H2.out]
    obtain ⟨L, hL⟩ : ∃ L, L = wo l n := ⟨_, rfl⟩
    rw [← hL] at HR H1 hwl
    clear hs h hL H2
    go_enter Try.func27, Try.ntmps27
    go_wp2_with fail
    refine HR.out.mono ?_
    rintro e w1 (⟨h1, _⟩ | ⟨_, _, A1, c1, rfl, hm, hb⟩)
    case' inl => exact absurd HS.out h1
    case' inr =>
      have HM1 := Lib.hid hm; have HB1 := Lib.hid hb
      have hz1 := hb.size
      clear hm hb
      go_wp2_with (at_builtin; (refine wpList_mine rfl _ _ elI _ rfl rfl (HM1.out.below (bnew w1 (.cells #[.int .i64 n] 3)) (Nat.le_refl _)) _ rfl 1 _ (src_lit Try.underlying26 #[.int .i64 n] 1 1 rfl (by simp [Value.oneCell'])) (by omega) (by omega) (by simp; omega) ?_))
      intro A5 c5 w5 m5 g5 _
      have HM5 : Hid (Mine w.heap.size 1 w5 A5 (L ++ [n]).length c5 (iv (L ++ [n]))) := by
        show Mine _ _ _ _ _ _ _
        rw [iv_snoc, List.length_append]; exact m5
      have HB5 : Hid (Below w.heap.size w w5) := (HB1.out.trans ((bnew w1 (.cells #[.int .i64 n] 3)).mono (by omega))).trans ((only_row (F := fun j => w.heap.size ≤ j) g5 (fun a ha => (HM1.out.base ha).1)).below (fun _ h => h) (by simp; omega))
      have e5 : L.length + 1 = (L ++ [n]).length := by simp
      obtain ⟨L', hL'⟩ : ∃ L', L' = L ++ [n] := ⟨_, rfl⟩
      have HL' := Lib.hid hL'
      rw [← hL'] at HM5 e5
      rw [e5]
      clear m5 g5 hL' e5
      go_wp2_with fail
      go_ret2
      exact ⟨A5, c5, by rw [H1.out, ← HL'.out]; rfl, by rw [H1.out, ← HL'.out]; exact Li.mine HM5.out, HB5.out, fun a ha => Or.inr ⟨(HM5.out.base ha).1, (HM5.out.base ha).2.1⟩⟩
set_option maxRecDepth 100000 in
set_option maxHeartbeats 1000000 in
theorem oldest_any {w : World} {A : Option Addr} {l : List Int} {c : Nat} (h : Li w A l c) (hn : l.length ≤ 1000000) :
    Calls Try.prog 30 #[.slice A l.length c] w fun e w' => e = .returned (.tuple #[.int .i64 (oldV l), .int .i64 (oldN l)]) ∧ w' = w := by
  have HT := Lib.hid h
  have hcap := Rs.max h
  clear h
  cases l with
  | nil =>
    go_enter Try.func30, Try.ntmps30
    go_wp2_with fail
    go_ret2
    exact ⟨rfl, rfl⟩
  | cons x r =>
    obtain ⟨tb, to_, rfl, ltb, a0⟩ := HT.out.at_ (i := 0) (by simp)
    have a0' : w.cell? ⟨tb, to_, none⟩ = some (.int .i64 x) := a0
    obtain ⟨N, hN⟩ : ∃ N, N = (x :: r).length := ⟨_, rfl⟩
    have hNp : 0 < N := by rw [hN]; simp
    have h0 : ¬ (N : Int) = 0 := by omega
    have h1 : (0 : Int) < (N : Int) := by omega
    have HO : Hid (oldN (x :: r) = 0) := by show _ = _; unfold oldN; simp
    rw [← hN] at hn ⊢
    clear a0 hN
    go_enter Try.func30, Try.ntmps30
    go_wp2_with fail
    go_ret2
    exact ⟨by rw [HO.out]; rfl, rfl⟩
set_option maxRecDepth 100000 in
set_option maxHeartbeats 1000000 in
theorem next_any {w : World} {A : Option Addr} {l : List Int} {c : Nat} (h : Li w A l c) (n : Int) (hn : l.length ≤ 1000000) :
    Calls Try.prog 29 #[.slice A l.length c, .int .i64 n] w fun e w' => e = .returned (.tuple #[.int .i64 (nextV l n), .int .i64 (nextN l n)]) ∧ w' = w := by
  have HT := Lib.hid h
  have HA := Lib.hid (at_any h n (by omega))
  have hcap := Rs.max h
  by_cases hs : Sl n
  case neg =>
    have HS := Lib.hid (slot_no hs w)
    have H1 : Hid (nextN l n = 2) := if_pos hs
    have H2 : Hid (nextV l n = 0) := by show _ = _; unfold nextV; rw [H1.out]; rfl
    clear hs h
    go_enter Try.func29, Try.ntmps29
    go_wp2_with fail
    refine HS.out.mono ?_
    rintro e w1 ⟨rfl, rfl⟩
    go_wp2_with fail
    go_ret2
    exact ⟨by rw [H1.out, H2.out]; rfl, rfl⟩
  have HS := Lib.hid (slot_yes hs w)
  by_cases hm : n ∈ l
  case neg =>
    have hp := ix_geq.2 hm
    have hp' : ¬ 0 ≤ ixOf l n := by omega
    have H1 : Hid (nextN l n = 9) := by show _ = _; unfold nextN; rw [if_neg (by simpa using hs), if_pos hm]
    have H2 : Hid (nextV l n = 0) := by show _ = _; unfold nextV; rw [H1.out]; rfl
    obtain ⟨i, hi⟩ : ∃ i, i = ixOf l n := ⟨_, rfl⟩
    rw [← hi] at HA hp hp'
    clear hs hm h hi
    go_enter Try.func29, Try.ntmps29
    go_wp2_with fail
    refine HS.out.mono ?_
    rintro e w1 ⟨rfl, rfl⟩
    go_wp2_with fail
    refine HA.out.mono ?_
    rintro e w1 ⟨rfl, rfl⟩
    go_wp2_with fail
    go_ret2
    exact ⟨by rw [H1.out, H2.out]; rfl, rfl⟩
  case pos =>
    obtain ⟨k, hk, hkl, _⟩ := ix_pos hm
    have g1 : (l.length : Int) ≤ 1000000 := by omega
    have hp' : ¬ (k : Int) < 0 := by omega
    by_cases he : k + 1 = l.length
    case pos =>
      have H1 : Hid (nextN l n = 16) := by show _ = _; unfold nextN; rw [if_neg (by simpa using hs), if_neg (by simpa using hm), hk, if_pos (by omega)]
      have H2 : Hid (nextV l n = 0) := by show _ = _; unfold nextV; rw [H1.out]; rfl
      have hb : ((k : Int) == (l.length : Int) - 1) = true := by rw [show (l.length : Int) - 1 = (k : Int) from by omega]; simp
      rw [hk] at HA
      clear hs hm h hk he
      go_enter Try.func29, Try.ntmps29
      go_wp2_with fail
      refine HS.out.mono ?_
      rintro e w1 ⟨rfl, rfl⟩
      go_wp2_with fail
      refine HA.out.mono ?_
      rintro e w1 ⟨rfl, rfl⟩
      go_wp2_with fail
      go_ret2
      exact ⟨by rw [H1.out, H2.out]; rfl, rfl⟩
    case neg =>
      have hk1 : k + 1 < l.length := by omega
      have H1 : Hid (nextN l n = 0) := by show _ = _; unfold nextN; rw [if_neg (by simpa using hs), if_neg (by simpa using hm), hk, if_neg (by omega)]
      have H2 : Hid (nextV l n = l[k + 1]) := by
        show _ = _
        unfold nextV
        rw [H1.out, if_pos rfl, hk, show ((k : Int) + 1).toNat = k + 1 from by omega, List.getD_eq_getElem?_getD, List.getElem?_eq_getElem hk1]; rfl
      have hb : ((k : Int) == (l.length : Int) - 1) = false := by simp; omega
      have j1 : (k : Int) + 1 < (l.length : Int) := by omega
      obtain ⟨tb, to_, rfl, ltb, a0⟩ := HT.out.at_ hk1
      have a0' : w.cell? ⟨tb, to_ + ((k : Int) + 1).toNat, none⟩ = some (.int .i64 l[k + 1]) := by rw [show ((k : Int) + 1).toNat = k + 1 from by omega]; exact a0
      have hwr : IntKind.i64.wrap ((k : Int) + 1) = (k : Int) + 1 := by rw [IntKind.wrap_i64]; omega
      obtain ⟨y, hy⟩ : ∃ y, y = l[k + 1] := ⟨_, rfl⟩
      rw [← hy] at a0 a0' H2
      rw [hk] at HA
      clear hs hm h hk he hk1 hy
      go_enter Try.func29, Try.ntmps29
      go_wp2_with fail
      refine HS.out.mono ?_
      rintro e w1 ⟨rfl, rfl⟩
      go_wp2_with fail
      refine HA.out.mono ?_
      rintro e w1 ⟨rfl, rfl⟩
      go_wp2_with fail
      go_ret2
      exact ⟨by rw [H1.out, H2.out]; rfl, rfl⟩
set_option maxRecDepth 100000 in
set_option maxHeartbeats 400000 in
theorem same_true {w : World} {A B : Option Addr} {n p q : Nat} {l : List Int} (hn : l.length = n) (hA : Rs w 1 A n p (iv l)) (hB : Rs w 1 B n q (iv l)) (hl : n ≤ 1000000) :
    Calls Try.prog 39 #[.slice A n p, .slice B n q] w (boolTo true w) := by
  have HA := Lib.hid hA; have HB := Lib.hid hB; have HN := Lib.hid hn
  have g1 : (n : Int) ≤ 1000000 := by omega
  have hb : (((n : Nat) : Int) != ((n : Nat) : Int)) = false := by simp
  clear hA hB hn
  unfold boolTo
  go_enter Try.func39, Try.ntmps39
  go_wp2_with fail
  go_loopw [5] (fun i wr => ∃ k : Nat, k ≤ n ∧ i = .int .i64 (k : Int) ∧ Below w.heap.size w wr) (fun i _ => n - (intOf i).toNat)
  case atStart => exact ⟨0, Nat.zero_le _, rfl, Below.refl _ _⟩
  case round =>
    obtain ⟨k, hk, rfl, hbl⟩ := hrel
    have BL := Lib.hid hbl
    clear hbl
    by_cases hlt : k < n
    · have i1 : (k : Int) < (n : Int) := by omega
      have hkc : k < l.length := by rw [HN.out]; exact hlt
      have RA := Lib.hid (HA.out.below BL.out (Nat.le_refl _)); have RB := Lib.hid (HB.out.below BL.out (Nat.le_refl _))
      obtain ⟨ta, oa, rfl, la, a0⟩ := RA.out.rd.at_ (iv_get hkc)
      obtain ⟨tb, ob, rfl, lb, b0⟩ := RB.out.rd.at_ (iv_get hkc)
      obtain ⟨kk, hkk⟩ : ∃ kk, kk = l[k] := ⟨_, rfl⟩
      rw [← hkk] at a0 b0
      have hkn : (kk != kk) = false := by simp
      clear hkk
      go_wp2_with fail
      go_quiet (fail)
      obtain ⟨v, hv⟩ : ∃ v, v = wr.drewN nq := ⟨_, rfl⟩
      have BV : Hid (Below w.heap.size w v) := by
        show Below _ _ _
        rw [hv]
        exact BL.out.trans (((Only.refl (fun _ => False) wr).drewN nq).below (fun _ hf => hf.elim) BL.out.size)
      rw [← hv]
      clear hv
      go_wp2_with fail
      go_roundw
      case rel => exact ⟨k + 1, by omega, by go_num, BV.out⟩
      case measure => simp [intOf]; omega
    · obtain rfl : k = n := by omega
      have hnn : ¬ (k : Int) < k := by omega
      go_wp2_with fail
      go_ret
      exact ⟨rfl, BL.out⟩
end Go.Proofs.Ytfoalfemkpiniaa.Ub
