/- Proves what the functions of package clock on times return, and their like of the specification. No condition but the bounds of times. -/
import Derived.Test.YthphclmdbinafaaDoorCm
import Derived.Test.YthphclmdbinafaaDoorProg
import Derived.Laws.Rows
import Derived.BigQuiet
import Derived.Deep.QuietTactic
import Derived.Lib.Hide
namespace Go.Proofs.YthphclmdbinafaaDoor.Cf
open Go.RowKit Cm
theorem ret_u {a b : Int} (h : a = b) : Ending.returned (.int .u64 a) = .returned (.int .u64 b) := by rw [h]
theorem ret_i {a b : Int} (h : a = b) : Ending.returned (.int .i64 a) = .returned (.int .i64 b) := by rw [h]

set_option maxRecDepth 100000 in
theorem add_any (a b : Int) (w : World) (ha : Tm a) (hb : Tm b) :
    Calls Tryd.prog 8 #[.int .u64 a, .int .u64 b] w fun e w' => e = .returned (.int .u64 (addI a b)) ∧ w = w' := by
  unfold Tm at ha hb
  have hw : IntKind.u64.wrap (18446744073709551615 - a) = 18446744073709551615 - a := wrap64 _ (by omega) (by omega)
  by_cases h : 18446744073709551615 - a ≤ b
  · rw [add_never h]
    go_enter Tryd.func8, Tryd.ntmps8
    go_wp2
    go_ret
    exact ⟨rfl, rfl⟩
  · rw [add_sum (by omega)]
    have hs : IntKind.u64.wrap (a + b) = a + b := wrap64 _ (by omega) (by omega)
    go_enter Tryd.func8, Tryd.ntmps8
    go_wp2
    go_ret
    exact ⟨rfl, rfl⟩
set_option maxRecDepth 100000 in
theorem eff_any (a b : Int) (w : World) :
    Calls Tryd.prog 10 #[.int .u64 a, .int .u64 b] w fun e w' => e = .returned (.int .u64 (max a b)) ∧ w = w' := by
  go_enter Tryd.func10, Tryd.ntmps10
  go_wp2
  all_goals
    go_ret
    exact ⟨ret_u (by omega), rfl⟩
set_option maxRecDepth 100000 in
theorem due_any (d n : Int) (w : World) :
    Calls Tryd.prog 12 #[.int .u64 d, .int .u64 n] w fun e w' => e = .returned (.bool (dueB d n)) ∧ w = w' := by
  by_cases h : d = 18446744073709551615
  · subst h
    rw [due_never]
    go_enter Tryd.func12, Tryd.ntmps12
    go_wp2
    go_ret
    exact ⟨rfl, rfl⟩
  · rw [due_eq h]
    have hb : (d != 18446744073709551615) = true := by rw [bne_iff_ne]; exact h
    clear h
    go_enter Tryd.func12, Tryd.ntmps12
    go_wp2
    go_ret
    exact ⟨rfl, rfl⟩
set_option maxRecDepth 100000 in
theorem mark_any (n d s g : Int) (w : World) (hs : Tm s) (hg : Tm g) :
    Calls Tryd.prog 15 #[.int .u64 n, .int .u64 d, .int .u64 s, .int .u64 g] w fun e w' => e = .returned (.int .i64 (markI n d s g)) ∧ w = w' := by
  have HA := Lib.hid (fun W => add_any s g W hs hg)
  cases hx : dueB d n with
  | true =>
    rw [mark_dead hx]
    have HX := Lib.hid hx; clear hx
    go_enter Tryd.func15, Tryd.ntmps15
    go_wp2_with fail
    refine (due_any d n _).mono ?_
    rintro e w' ⟨rfl, rfl⟩
    rw [HX.out]
    go_wp2_with fail
    go_ret
    exact ⟨rfl, rfl⟩
  | false =>
    obtain ⟨t, ht⟩ : ∃ t, t = addI s g := ⟨_, rfl⟩
    cases hy : dueB t n with
    | true =>
      rw [mark_end (by rw [← ht]; exact hy)]
      have HX := Lib.hid hx; clear hx
      have HY := Lib.hid hy; clear hy
      rw [← ht] at HA
      clear ht
      go_enter Tryd.func15, Tryd.ntmps15
      go_wp2_with fail
      refine (due_any d n _).mono ?_
      rintro e w' ⟨rfl, rfl⟩
      rw [HX.out]
      go_wp2_with fail
      refine (HA.out _).mono ?_
      rintro e w' ⟨rfl, rfl⟩
      go_wp2_with fail
      refine (due_any t n _).mono ?_
      rintro e w' ⟨rfl, rfl⟩
      rw [HY.out]
      go_wp2_with fail
      go_ret
      exact ⟨rfl, rfl⟩
    | false =>
      cases hz : dueB s n with
      | true =>
        rw [mark_stale hx (by rw [← ht]; exact hy) hz]
        have HX := Lib.hid hx; clear hx
        have HY := Lib.hid hy; clear hy
        have HZ := Lib.hid hz; clear hz
        rw [← ht] at HA
        clear ht
        go_enter Tryd.func15, Tryd.ntmps15
        go_wp2_with fail
        refine (due_any d n _).mono ?_
        rintro e w' ⟨rfl, rfl⟩
        rw [HX.out]
        go_wp2_with fail
        refine (HA.out _).mono ?_
        rintro e w' ⟨rfl, rfl⟩
        go_wp2_with fail
        refine (due_any t n _).mono ?_
        rintro e w' ⟨rfl, rfl⟩
        rw [HY.out]
        go_wp2_with fail
        refine (due_any s n _).mono ?_
        rintro e w' ⟨rfl, rfl⟩
        rw [HZ.out]
        go_wp2_with fail
        go_ret
        exact ⟨rfl, rfl⟩
      | false =>
        rw [mark_fresh hx (by rw [← ht]; exact hy) hz]
        have HX := Lib.hid hx; clear hx
        have HY := Lib.hid hy; clear hy
        have HZ := Lib.hid hz; clear hz
        rw [← ht] at HA
        clear ht
        go_enter Tryd.func15, Tryd.ntmps15
        go_wp2_with fail
        refine (due_any d n _).mono ?_
        rintro e w' ⟨rfl, rfl⟩
        rw [HX.out]
        go_wp2_with fail
        refine (HA.out _).mono ?_
        rintro e w' ⟨rfl, rfl⟩
        go_wp2_with fail
        refine (due_any t n _).mono ?_
        rintro e w' ⟨rfl, rfl⟩
        rw [HY.out]
        go_wp2_with fail
        refine (due_any s n _).mono ?_
        rintro e w' ⟨rfl, rfl⟩
        rw [HZ.out]
        go_wp2_with fail
        go_ret
        exact ⟨rfl, rfl⟩
set_option maxRecDepth 100000 in
theorem next_any (n d s g : Int) (w : World) (hs : Tm s) (hg : Tm g) :
    Calls Tryd.prog 17 #[.int .u64 n, .int .u64 d, .int .u64 s, .int .u64 g] w fun e w' => e = .returned (.int .u64 (nextI n d s g)) ∧ w = w' := by
  have HA := Lib.hid (fun W => add_any s g W hs hg)
  have HM := Lib.hid (fun W => mark_any n d s g W hs hg)
  have ht := add_tm hs hg
  rcases mark_cases n d s g with h | h | h
  · rw [next_dead h]
    have HX := Lib.hid h; clear h
    go_enter Tryd.func17, Tryd.ntmps17
    go_wp2_with fail
    refine (HM.out _).mono ?_
    rintro e w' ⟨rfl, rfl⟩
    rw [HX.out]
    go_wp2_with fail
    go_ret
    exact ⟨rfl, rfl⟩
  · rw [next_fresh h]
    have HX := Lib.hid h; clear h
    unfold Tm at hs hg
    go_enter Tryd.func17, Tryd.ntmps17
    go_wp2_with fail
    refine (HM.out _).mono ?_
    rintro e w' ⟨rfl, rfl⟩
    rw [HX.out]
    go_wp2_with fail
    all_goals
      go_ret
      exact ⟨ret_u (by omega), rfl⟩
  · rw [next_stale h]
    have HX := Lib.hid h; clear h
    unfold Tm at hs hg ht
    obtain ⟨t, ht'⟩ : ∃ t, t = addI s g := ⟨_, rfl⟩
    rw [← ht'] at HA ht ⊢
    clear ht'
    go_enter Tryd.func17, Tryd.ntmps17
    go_wp2_with fail
    refine (HM.out _).mono ?_
    rintro e w' ⟨rfl, rfl⟩
    rw [HX.out]
    go_wp2_with fail
    refine (HA.out _).mono ?_
    rintro e w' ⟨rfl, rfl⟩
    go_wp2_with fail
    all_goals
      go_ret
      exact ⟨ret_u (by omega), rfl⟩
end Go.Proofs.YthphclmdbinafaaDoor.Cf
