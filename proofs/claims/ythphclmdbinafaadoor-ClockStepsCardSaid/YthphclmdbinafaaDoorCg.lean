/- Proves what the specification's functions on times return: sums, deadlines, marks and when they change; and the words of marks on both sides. No condition but the bounds of times. -/
import Derived.Test.YthphclmdbinafaaDoorCu
namespace Go.Proofs.YthphclmdbinafaaDoor.Cg
open Go.RowKit Cm Cf Cu

set_option maxRecDepth 100000 in
theorem radd_any (a b : Int) (w : World) (ha : Tm a) (hb : Tm b) :
    Calls Tryd.prog 9 #[.int .u64 a, .int .u64 b] w fun e w' => e = .returned (.int .u64 (addI a b)) ∧ w = w' := by
  unfold Tm at ha hb
  have hw : IntKind.u64.wrap (18446744073709551615 - a) = 18446744073709551615 - a := wrap64 _ (by omega) (by omega)
  by_cases h : 18446744073709551615 - a ≤ b
  · rw [add_never h]
    go_enter Tryd.func9, Tryd.ntmps9
    go_wp2
    go_ret
    exact ⟨rfl, rfl⟩
  · rw [add_sum (by omega)]
    have hs : IntKind.u64.wrap (a + b) = a + b := wrap64 _ (by omega) (by omega)
    go_enter Tryd.func9, Tryd.ntmps9
    go_wp2
    go_ret
    exact ⟨rfl, rfl⟩
set_option maxRecDepth 100000 in
theorem reff_any (a b : Int) (w : World) :
    Calls Tryd.prog 11 #[.int .u64 a, .int .u64 b] w fun e w' => e = .returned (.int .u64 (max a b)) ∧ w = w' := by
  by_cases h : a < b
  all_goals
    go_enter Tryd.func11, Tryd.ntmps11
    go_wp2
    go_ret
    exact ⟨ret_u (by omega), rfl⟩
set_option maxRecDepth 100000 in
theorem rdue_any (d n : Int) (w : World) :
    Calls Tryd.prog 13 #[.int .u64 d, .int .u64 n] w fun e w' => e = .returned (.bool (dueB d n)) ∧ w = w' := by
  by_cases h : d = 18446744073709551615
  · subst h
    rw [due_never]
    go_enter Tryd.func13, Tryd.ntmps13
    go_wp2
    go_ret
    exact ⟨rfl, rfl⟩
  · rw [due_eq h]
    have hb : (d != 18446744073709551615) = true := by rw [bne_iff_ne]; exact h
    clear h
    go_enter Tryd.func13, Tryd.ntmps13
    go_wp2
    go_ret
    exact ⟨rfl, rfl⟩
theorem bne_due {s : Int} (h : ¬ s = 18446744073709551615) : (s != 18446744073709551615) = true := by rw [bne_iff_ne]; exact h
theorem due_true {s n : Int} (h : ¬ s = 18446744073709551615) (k : s ≤ n) : dueB s n = true := by simp [dueB, h, k]
theorem due_false {s n : Int} (k : ¬ s ≤ n) : dueB s n = false := by simp [dueB]; omega
set_option maxRecDepth 100000 in
set_option maxHeartbeats 1000000 in
theorem rmark_any (n d s g : Int) (w : World) (hs : Tm s) (hg : Tm g) :
    Calls Tryd.prog 16 #[.int .u64 n, .int .u64 d, .int .u64 s, .int .u64 g] w fun e w' => e = .returned (.int .i64 (markI n d s g)) ∧ w = w' := by
  have HA := Lib.hid (fun W => radd_any s g W hs hg)
  have HL := Lib.hid (fun h => @end_late n s g hs hg h)
  obtain ⟨b, hb⟩ : ∃ b, dueB d n = b := ⟨_, rfl⟩
  have HD := Lib.hid (fun W => by have := rdue_any d n W; rw [hb] at this; exact this)
  obtain ⟨t, ht⟩ : ∃ t, t = addI s g := ⟨_, rfl⟩
  obtain ⟨c, hc⟩ : ∃ c, dueB t n = c := ⟨_, rfl⟩
  have HE := Lib.hid (fun W => by have := rdue_any t n W; rw [hc] at this; exact this)
  rw [← ht] at HA HL
  by_cases h1 : s = 18446744073709551615
  · have h3 : (s != 18446744073709551615) = false := by subst h1; rfl
    have hz : dueB s n = false := by rw [h1]; exact due_never n
    have hy := HL.out hz
    cases b with
    | true =>
      rw [mark_dead hb]
      go_enter Tryd.func16, Tryd.ntmps16
      go_wp2_with fail
      refine (HD.out _).mono ?_
      rintro e w' ⟨rfl, rfl⟩
      go_wp2_with fail
      go_ret
      exact ⟨rfl, rfl⟩
    | false =>
      rw [mark_fresh hb (by rw [← ht]; exact hy) hz]
      go_enter Tryd.func16, Tryd.ntmps16
      go_wp2_with fail
      refine (HD.out _).mono ?_
      rintro e w' ⟨rfl, rfl⟩
      go_wp2_with fail
      go_ret
      exact ⟨rfl, rfl⟩
  · have h3 := bne_due h1
    by_cases h2 : s ≤ n
    · have hz := due_true h1 h2
      have h4 : decide (s ≤ n) = true := by simpa using h2
      have HZ := Lib.hid hz; clear hz
      have HB := Lib.hid hb; clear hb
      have HC := Lib.hid hc; clear hc
      have HT := Lib.hid ht; clear ht
      clear h1
      cases b with
      | true =>
        rw [mark_dead HB.out]
        go_enter Tryd.func16, Tryd.ntmps16
        go_wp2_with fail
        refine (HD.out _).mono ?_
        rintro e w' ⟨rfl, rfl⟩
        go_wp2_with fail
        go_ret
        exact ⟨rfl, rfl⟩
      | false =>
        cases c with
        | true =>
          rw [mark_end (by rw [← HT.out]; exact HC.out)]
          go_enter Tryd.func16, Tryd.ntmps16
          go_wp2_with fail
          refine (HD.out _).mono ?_
          rintro e w' ⟨rfl, rfl⟩
          go_wp2_with fail
          refine (HA.out _).mono ?_
          rintro e w' ⟨rfl, rfl⟩
          go_wp2_with fail
          refine (HE.out _).mono ?_
          rintro e w' ⟨rfl, rfl⟩
          go_wp2_with fail
          go_ret
          exact ⟨rfl, rfl⟩
        | false =>
          rw [mark_stale HB.out (by rw [← HT.out]; exact HC.out) HZ.out]
          go_enter Tryd.func16, Tryd.ntmps16
          go_wp2_with fail
          refine (HD.out _).mono ?_
          rintro e w' ⟨rfl, rfl⟩
          go_wp2_with fail
          refine (HA.out _).mono ?_
          rintro e w' ⟨rfl, rfl⟩
          go_wp2_with fail
          refine (HE.out _).mono ?_
          rintro e w' ⟨rfl, rfl⟩
          go_wp2_with fail
          go_ret
          exact ⟨rfl, rfl⟩
    · have hz := due_false h2
      have hy := HL.out hz
      have h4 : decide (s ≤ n) = false := by simpa using h2
      cases b with
      | true =>
        rw [mark_dead hb]
        clear hb hz hy hc ht h1 h2
        go_enter Tryd.func16, Tryd.ntmps16
        go_wp2_with fail
        refine (HD.out _).mono ?_
        rintro e w' ⟨rfl, rfl⟩
        go_wp2_with fail
        go_ret
        exact ⟨rfl, rfl⟩
      | false =>
        rw [mark_fresh hb (by rw [← ht]; exact hy) hz]
        clear hb hz hy hc ht h1 h2
        go_enter Tryd.func16, Tryd.ntmps16
        go_wp2_with fail
        refine (HD.out _).mono ?_
        rintro e w' ⟨rfl, rfl⟩
        go_wp2_with fail
        go_ret
        exact ⟨rfl, rfl⟩
def wordB (m : Int) : ByteArray := if m = 0 then ⟨#[100, 101, 97, 100]⟩ else if m = 1 then ⟨#[102, 114, 101, 115, 104]⟩ else if m = 2 then ⟨#[115, 116, 97, 108, 101]⟩ else ⟨#[]⟩
theorem word_none {m : Int} (h0 : ¬ m = 0) (h1 : ¬ m = 1) (h2 : ¬ m = 2) : wordB m = ⟨#[]⟩ := by unfold wordB; rw [if_neg h0, if_neg h1, if_neg h2]
theorem eqb_no {m k : Int} (h : ¬ m = k) : (m == k) = false := by rw [beq_eq_false_iff_ne]; exact h
set_option maxRecDepth 100000 in
theorem word_any (m : Int) (w : World) :
    Calls Tryd.prog 23 #[.int .i64 m] w fun e w' => e = .returned (.string (wordB m)) ∧ w = w' := by
  by_cases h0 : m = 0
  · subst h0
    go_enter Tryd.func23, Tryd.ntmps23
    go_wp2
    go_ret
    exact ⟨rfl, rfl⟩
  · by_cases h1 : m = 1
    · subst h1
      go_enter Tryd.func23, Tryd.ntmps23
      go_wp2
      go_ret
      exact ⟨rfl, rfl⟩
    · by_cases h2 : m = 2
      · subst h2
        go_enter Tryd.func23, Tryd.ntmps23
        go_wp2
        go_ret
        exact ⟨rfl, rfl⟩
      · rw [word_none h0 h1 h2]
        have e0 := eqb_no h0
        have e1 := eqb_no h1
        have e2 := eqb_no h2
        clear h0 h1 h2
        go_enter Tryd.func23, Tryd.ntmps23
        go_wp2
        go_ret
        exact ⟨rfl, rfl⟩
set_option maxRecDepth 100000 in
theorem rword_any (m : Int) (w : World) :
    Calls Tryd.prog 24 #[.int .i64 m] w (valAfter w (.string (wordB m))) := by
  by_cases h0 : m = 0
  · subst h0
    go_enter Tryd.func24, Tryd.ntmps24
    go_wp2
    go_ret
    exact ⟨rfl, After.alloc _ _⟩
  · by_cases h1 : m = 1
    · subst h1
      go_enter Tryd.func24, Tryd.ntmps24
      go_wp2
      go_ret
      exact ⟨rfl, After.alloc _ _⟩
    · by_cases h2 : m = 2
      · subst h2
        go_enter Tryd.func24, Tryd.ntmps24
        go_wp2
        go_ret
        exact ⟨rfl, After.alloc _ _⟩
      · rw [word_none h0 h1 h2]
        by_cases hn : m < 0
        · have e0 : decide (m < 0) = true := by simpa using hn
          clear h0 h1 h2
          go_enter Tryd.func24, Tryd.ntmps24
          go_wp2
          go_ret
          exact ⟨rfl, After.alloc _ _⟩
        · have e0 : decide (m < 0) = false := by simpa using hn
          have e1 : decide (2 < m) = true := by simp; omega
          clear h0 h1 h2
          go_enter Tryd.func24, Tryd.ntmps24
          go_wp2
          go_ret
          exact ⟨rfl, After.alloc _ _⟩

/-! ### when a mark changes: the earliest of three times -/
def cand (d s t : Int) : Nat → Int
  | 0 => d
  | 1 => s
  | _ => t
def pick (n d s g o x : Int) : Int := if n < x ∧ x < o ∧ markI x d s g ≠ markI n d s g then x else o
def nx (n d s g : Int) : Nat → Int
  | 0 => 18446744073709551615
  | k + 1 => pick n d s g (nx n d s g k) (cand d s (addI s g) k)
theorem pick_no1 {n d s g o x : Int} (h : ¬ n < x) : pick n d s g o x = o := by unfold pick; rw [if_neg (fun k => h k.1)]
theorem pick_no2 {n d s g o x : Int} (h : ¬ x < o) : pick n d s g o x = o := by unfold pick; rw [if_neg (fun k => h k.2.1)]
theorem pick_no3 {n d s g o x : Int} (h : markI x d s g = markI n d s g) : pick n d s g o x = o := by unfold pick; rw [if_neg (fun k => k.2.2 h)]
theorem pick_yes {n d s g o x : Int} (h1 : n < x) (h2 : x < o) (h3 : ¬ markI x d s g = markI n d s g) : pick n d s g o x = x := by unfold pick; rw [if_pos ⟨h1, h2, h3⟩]
theorem pick_is {n d s g o x r : Int} (h : (n < x ∧ x < o ∧ ¬ markI x d s g = markI n d s g → r = x) ∧ (¬ (n < x ∧ x < o ∧ ¬ markI x d s g = markI n d s g) → r = o)) : pick n d s g o x = r := by
  unfold pick
  split
  · rename_i k; exact (h.1 k).symm
  · rename_i k; exact (h.2 k).symm
theorem nx_next {n d s g : Int} (hd : Tm d) (hs : Tm s) (hg : Tm g) : nx n d s g 3 = nextI n d s g := by
  have hI := fun x => @mark_iff x d s g hs hg
  obtain ⟨f1, f2⟩ := @end_ge s g hs hg
  unfold Tm at hd hs
  obtain ⟨a1, a2, a3⟩ := hI n
  show pick n d s g (pick n d s g (pick n d s g 18446744073709551615 d) s) (addI s g) = _
  rcases mark_cases n d s g with h | h | h
  · rw [next_dead h]
    have hk := a1.1 h
    have hx : ∀ x o, pick n d s g o x = o := fun x o => pick_is ⟨fun q => by
      exfalso
      apply q.2.2
      rw [h]
      refine (hI x).1.2 ?_
      have := q.1
      omega, fun _ => rfl⟩
    rw [hx, hx, hx]
  · rw [next_fresh h]
    have hk := a3.1 h
    have m1 : d < 18446744073709551615 → ¬ markI d d s g = 1 := fun q e => by have := (hI d).2.2.1 e; omega
    have m2 : s < 18446744073709551615 → ¬ markI s d s g = 1 := fun q e => by have := (hI s).2.2.1 e; omega
    have p1 : pick n d s g 18446744073709551615 d = d := pick_is (by rw [h]; omega)
    have p2 : pick n d s g d s = min d s := pick_is (by rw [h]; omega)
    have p3 : pick n d s g (min d s) (addI s g) = min d s := pick_is (by omega)
    rw [p1, p2, p3]
  · rw [next_stale h]
    have hk := a2.1 h
    have m1 : d < 18446744073709551615 → markI d d s g = 0 := fun q => (hI d).1.2 (by omega)
    have m3 : addI s g < 18446744073709551615 → markI (addI s g) d s g = 0 := fun q => (hI _).1.2 (by omega)
    have p1 : pick n d s g 18446744073709551615 d = d := pick_is (by rw [h]; omega)
    have p2 : pick n d s g d s = d := pick_is (by omega)
    have p3 : pick n d s g d (addI s g) = min d (addI s g) := pick_is (by rw [h]; omega)
    rw [p1, p2, p3]
theorem cell3 (w : World) (d s t : Int) (T : TypeId) (k : Nat) (h : k < 3) : (w.alloc (.cells #[.int .u64 d, .int .u64 s, .int .u64 t] T)).cell? ⟨w.heap.size, k, none⟩ = some (.int .u64 (cand d s t k)) := by
  rw [World.cell?_alloc_new]
  match k, h with
  | 0, _ | 1, _ | 2, _ => rfl
  | k + 3, h => omega
theorem nx_tm {n d s g : Int} (hd : Tm d) (hs : Tm s) (hg : Tm g) : ∀ k, Tm (nx n d s g k)
  | 0 => by unfold Tm nx; omega
  | k + 1 => by
    have ih := @nx_tm n d s g hd hs hg k
    have ha := add_tm hs hg
    have hc : Tm (cand d s (addI s g) k) := by
      match k with
      | 0 => exact hd
      | 1 => exact hs
      | k + 2 => exact ha
    show Tm (pick n d s g (nx n d s g k) _)
    unfold pick
    split
    · exact hc
    · exact ih
set_option maxRecDepth 100000 in
set_option maxHeartbeats 2000000 in
theorem rnext_any (n d s g : Int) (w : World) (hd : Tm d) (hs : Tm s) (hg : Tm g) :
    Calls Tryd.prog 18 #[.int .u64 n, .int .u64 d, .int .u64 s, .int .u64 g] w (valAfter w (.int .u64 (nextI n d s g))) := by
  have HA := Lib.hid (fun W => radd_any s g W hs hg)
  have HM := Lib.hid (fun x W => rmark_any x d s g W hs hg)
  have HX := Lib.hid (@nx_next n d s g hd hs hg)
  have HC := Lib.hid (cell3 w d s (addI s g) 23)
  have HG := Lib.hid (After.alloc w (.cells #[.int .u64 d, .int .u64 s, .int .u64 (addI s g)] 23))
  have HT := Lib.hid (fun k => (show nx n d s g (k + 1) = pick n d s g (nx n d s g k) (cand d s (addI s g) k) from rfl))
  obtain ⟨t, ht⟩ : ∃ t, t = addI s g := ⟨_, rfl⟩
  rw [← ht] at HA HC HG HT
  clear ht
  go_enter Tryd.func18, Tryd.ntmps18
  go_wp2_with fail
  refine (HA.out _).mono ?_
  rintro e w' ⟨rfl, rfl⟩
  go_wp2_with fail
  obtain ⟨W, hW⟩ : ∃ W, W = w.alloc (.cells #[.int .u64 d, .int .u64 s, .int .u64 t] 23) := ⟨_, rfl⟩
  rw [← hW] at HC HG ⊢
  clear hW
  go_loop [9, 11] (fun vo vi => ∃ (k : Nat) (o : Int), vo = .int .u64 o ∧ vi = .int .i64 k ∧ k ≤ 3 ∧ Hid (o = nx n d s g k)) (fun _ vi => 3 - (RowKit.intOf vi).toNat)
  case atStart => exact ⟨0, _, rfl, rfl, by omega, rfl⟩
  case round =>
    obtain ⟨k, o, rfl, rfl, hk, HO⟩ := hrel
    by_cases hlt : k < 3
    · have hc := HC.out k hlt
      obtain ⟨x, hx⟩ : ∃ x, x = cand d s t k := ⟨_, rfl⟩
      have HP := Lib.hid (HT.out k)
      rw [← hx, ← HO.out] at HP
      rw [← hx] at hc
      clear hx
      by_cases h1 : n < x
      · have g1 : decide (n < x) = true := by simpa using h1
        by_cases h2 : x < o
        · have g2 : decide (x < o) = true := by simpa using h2
          have H1 := Lib.hid (HM.out x)
          have H2 := Lib.hid (HM.out n)
          by_cases h3 : markI x d s g = markI n d s g
          · have HN := Lib.hid (HP.out.trans (pick_no3 h3))
            rw [h3] at H1
            clear HM h3
            obtain ⟨m, hm⟩ : ∃ m, m = markI n d s g := ⟨_, rfl⟩
            rw [← hm] at H1 H2
            clear hm
            go_wp2_with fail
            refine (H1.out _).mono ?_
            rintro e w' ⟨rfl, rfl⟩
            go_wp2_with fail
            refine (H2.out _).mono ?_
            rintro e w' ⟨rfl, rfl⟩
            go_wp2_with fail
            go_round
            case rel => exact ⟨k + 1, o, rfl, by go_num, by omega, HN.out.symm⟩
            case measure => simp [RowKit.intOf]; omega
          · have HN := Lib.hid (HP.out.trans (pick_yes h1 h2 h3))
            clear HM
            obtain ⟨m, hm⟩ : ∃ m, m = markI n d s g := ⟨_, rfl⟩
            obtain ⟨m', hm'⟩ : ∃ m', m' = markI x d s g := ⟨_, rfl⟩
            rw [← hm] at H2 h3
            rw [← hm'] at H1 h3
            have g3 : (m' == m) = false := eqb_no h3
            clear hm hm' h3
            go_wp2_with fail
            refine (H1.out _).mono ?_
            rintro e w' ⟨rfl, rfl⟩
            go_wp2_with fail
            refine (H2.out _).mono ?_
            rintro e w' ⟨rfl, rfl⟩
            go_wp2_with fail
            go_round
            case rel => exact ⟨k + 1, x, rfl, by go_num, by omega, HN.out.symm⟩
            case measure => simp [RowKit.intOf]; omega
        · have g2 : decide (x < o) = false := by simpa using h2
          have HN := Lib.hid (HP.out.trans (pick_no2 h2))
          clear HM
          go_wp2_with fail
          go_round
          case rel => exact ⟨k + 1, o, rfl, by go_num, by omega, HN.out.symm⟩
          case measure => simp [RowKit.intOf]; omega
      · have g1 : decide (n < x) = false := by simpa using h1
        have HN := Lib.hid (HP.out.trans (pick_no1 h1))
        clear HM
        go_wp2_with fail
        go_round
        case rel => exact ⟨k + 1, o, rfl, by go_num, by omega, HN.out.symm⟩
        case measure => simp [RowKit.intOf]; omega
    · obtain rfl : k = 3 := by omega
      have HN := Lib.hid (HO.out.trans HX.out)
      clear HM
      go_wp2_with fail
      go_ret
      exact ⟨ret_u HN.out, HG.out⟩
end Go.Proofs.YthphclmdbinafaaDoor.Cg
