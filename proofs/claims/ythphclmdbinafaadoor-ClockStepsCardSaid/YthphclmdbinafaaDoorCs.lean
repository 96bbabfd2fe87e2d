/- Proves that the law ClockSteps returns true at every input. Condition: what the library lays is laid. -/
import Derived.Test.YthphclmdbinafaaDoorCl
namespace Go.Proofs.YthphclmdbinafaaDoor.Cs
open Go.RowKit Cm Cf Cu Cd Cp Cg Ck Cl

def Bad (a : Int) : Prop := 40 < a ∧ ¬ a = 18446744073709551615
structure Big (a : Int) : Prop where
  gt : decide (40 < a) = true
  ne : (a != 18446744073709551615) = true
structure Fine (a : Int) (c : Bool) : Prop where
  gt : decide (40 < a) = c
  ne : c = true → (a != 18446744073709551615) = false
theorem big_of {a : Int} (h : Bad a) : Big a := ⟨decide_eq_true h.1, bne_iff_ne.2 h.2⟩
theorem fine_of {a : Int} (h : ¬ Bad a) : ∃ c, Fine a c := by
  by_cases k : 40 < a
  · refine ⟨true, decide_eq_true k, fun _ => ?_⟩
    have h' : ¬ (40 < a ∧ ¬ a = 18446744073709551615) := h
    obtain rfl : a = 18446744073709551615 := by omega
    rfl
  · exact ⟨false, decide_eq_false k, fun h => by cases h⟩

set_option maxRecDepth 100000 in
set_option maxHeartbeats 4000000 in
theorem steps_big (d s g : Int) (w : World) (he : Env w) (h : Big d ∨ (∃ c, Fine d c ∧ (Big s ∨ ∃ c, Fine s c ∧ Big g))) :
    Calls Tryd.prog 6 #[.int .u64 d, .int .u64 s, .int .u64 g] w (valAfter w (.bool true)) := by
  rcases h with hb | ⟨c, hf, h⟩
  · obtain ⟨g1, g2⟩ := hb
    go_enter Tryd.func6, Tryd.ntmps6
    go_wp2_with fail
    refine (known_true _ he).mono ?_
    rintro e w1 ⟨rfl, a1⟩
    go_wp2_with fail
    go_ret
    exact ⟨rfl, a1⟩
  · obtain ⟨g1, g2⟩ := hf
    cases c
    all_goals
      first
        | have g3 := g2 rfl
        | skip
      clear g2
      rcases h with hb | ⟨c, hf, hb⟩
    · obtain ⟨k1, k2⟩ := hb
      go_enter Tryd.func6, Tryd.ntmps6
      go_wp2_with fail
      refine (known_true _ he).mono ?_
      rintro e w1 ⟨rfl, a1⟩
      go_wp2_with fail
      go_ret
      exact ⟨rfl, a1⟩
    · obtain ⟨l1, l2⟩ := hb
      obtain ⟨k1, k2⟩ := hf
      cases c
      all_goals
        first
          | have k3 := k2 rfl
          | skip
        clear k2
        go_enter Tryd.func6, Tryd.ntmps6
        go_wp2_with fail
        refine (known_true _ he).mono ?_
        rintro e w1 ⟨rfl, a1⟩
        go_wp2_with fail
        go_ret
        exact ⟨rfl, a1⟩
    · obtain ⟨k1, k2⟩ := hb
      go_enter Tryd.func6, Tryd.ntmps6
      go_wp2_with fail
      refine (known_true _ he).mono ?_
      rintro e w1 ⟨rfl, a1⟩
      go_wp2_with fail
      go_ret
      exact ⟨rfl, a1⟩
    · obtain ⟨l1, l2⟩ := hb
      obtain ⟨k1, k2⟩ := hf
      cases c
      all_goals
        first
          | have k3 := k2 rfl
          | skip
        clear k2
        go_enter Tryd.func6, Tryd.ntmps6
        go_wp2_with fail
        refine (known_true _ he).mono ?_
        rintro e w1 ⟨rfl, a1⟩
        go_wp2_with fail
        go_ret
        exact ⟨rfl, a1⟩

set_option maxRecDepth 100000 in
set_option maxHeartbeats 4000000 in
theorem steps_fine (d s g : Int) (hd : Tm d) (hs : Tm s) (hg : Tm g) (w : World) (he : Env w) (cd cs cg : Bool) (fd : Fine d cd) (fs : Fine s cs) (fg : Fine g cg) :
    Calls Tryd.prog 6 #[.int .u64 d, .int .u64 s, .int .u64 g] w (valAfter w (.bool true)) := by
  have HM := Lib.hid (fun x W => mark_any x d s g W hs hg)
  have HN := Lib.hid (fun x W => next_any x d s g W hs hg)
  have HG := Lib.hid (fun x => @next_gt x d s g hd hs hg)
  have HO := Lib.hid (fun x => @next_other x d s g hd hs hg)
  have HS := Lib.hid (fun x y => @next_same x d s g hd hs hg y)
  have HK := Lib.hid (fun W k => known_true W k)
  have HE := Lib.hid he
  clear he hd hs hg
  obtain ⟨d1, d2⟩ := fd
  obtain ⟨s1, s2⟩ := fs
  obtain ⟨g1, g2⟩ := fg
  cases cd <;> cases cs <;> cases cg
  all_goals
    first
      | have d3 := d2 rfl
      | skip
    first
      | have s3 := s2 rfl
      | skip
    first
      | have g3 := g2 rfl
      | skip
    clear d2 s2 g2
    go_enter Tryd.func6, Tryd.ntmps6
    go_wp2_with fail
    go_loop [7, 8, 9, 10, 11] (fun vn _ _ _ _ => ∃ n : Nat, vn = .int .u64 n ∧ n ≤ 90) (fun vn _ _ _ _ => 90 - (RowKit.intOf vn).toNat)
    case atStart => exact ⟨0, rfl, by omega⟩
    case round =>
      obtain ⟨n, rfl, hn⟩ := hrel
      by_cases hlt : n < 90
      · have c1 : decide ((n : Int) < 90) = true := by simp; omega
        have H1 := Lib.hid (HM.out n)
        have H2 := Lib.hid (HN.out n)
        have K1 := Lib.hid (HG.out n (by omega))
        have K2 := Lib.hid (HO.out n)
        have K3 := Lib.hid (HS.out n)
        obtain ⟨y, hy⟩ : ∃ y, y = nextI n d s g := ⟨_, rfl⟩
        obtain ⟨m, hm⟩ : ∃ m, m = markI n d s g := ⟨_, rfl⟩
        rw [← hy] at H2 K1 K2 K3
        rw [← hm] at H1 K2 K3
        clear hy hm
        have c2 : decide (y ≤ (n : Int)) = false := by have := K1.out; simp; omega
        have e1 : IntKind.u64.wrap ((n : Int) + 1) = ((n + 1 : Nat) : Int) := by rw [wrap64 _ (by omega) (by omega)]; omega
        go_wp2_with fail
        refine (H1.out _).mono ?_
        rintro e w' ⟨rfl, rfl⟩
        go_wp2_with fail
        refine (H2.out _).mono ?_
        rintro e w' ⟨rfl, rfl⟩
        go_wp2_with fail
        go_loop [10, 11] (fun vt _ => ∃ t : Nat, vt = .int .u64 t ∧ n < t ∧ t ≤ 90) (fun vt _ => 90 - (RowKit.intOf vt).toNat)
        case atStart => exact ⟨n + 1, rfl, by omega, by omega⟩
        case round =>
          obtain ⟨t, rfl, hnt, ht⟩ := hrel
          by_cases hlt2 : t < 90
          · have k1 : decide ((t : Int) < 90) = true := by simp; omega
            have e2 : IntKind.u64.wrap ((t : Int) + 1) = ((t + 1 : Nat) : Int) := by rw [wrap64 _ (by omega) (by omega)]; omega
            have H3 := Lib.hid (HM.out t)
            by_cases h1 : (t : Int) < y
            · have k2 : decide ((t : Int) < y) = true := decide_eq_true h1
              rw [K3.out t (by omega) h1] at H3
              have h2 : ((t : Int) == y) = false := eqb_no (by omega)
              clear h1
              go_wp2_with fail
              refine (H3.out _).mono ?_
              rintro e w' ⟨rfl, rfl⟩
              go_wp2_with fail
              go_round
              case rel => exact ⟨t + 1, by go_num, by omega, by omega⟩
              case measure => simp [RowKit.intOf]; omega
            · have k2 : decide ((t : Int) < y) = false := decide_eq_false h1
              by_cases h2 : (t : Int) = y
              · have k3 : ((t : Int) == y) = true := by rw [beq_iff_eq]; exact h2
                obtain ⟨m', hm⟩ : ∃ m', m' = markI t d s g := ⟨_, rfl⟩
                have k4 : (m' == m) = false := eqb_no (by rw [hm, h2]; exact K2.out (by omega))
                rw [← hm] at H3
                clear hm h1 h2
                go_wp2_with fail
                refine (H3.out _).mono ?_
                rintro e w' ⟨rfl, rfl⟩
                go_wp2_with fail
                go_round
                case rel => exact ⟨t + 1, by go_num, by omega, by omega⟩
                case measure => simp [RowKit.intOf]; omega
              · have k3 : ((t : Int) == y) = false := eqb_no h2
                obtain ⟨m', hm⟩ : ∃ m', m' = markI t d s g := ⟨_, rfl⟩
                rw [← hm] at H3
                clear hm h1 h2
                go_wp2_with fail
                refine (H3.out _).mono ?_
                rintro e w' ⟨rfl, rfl⟩
                go_wp2_with fail
                go_round
                case rel => exact ⟨t + 1, by go_num, by omega, by omega⟩
                case measure => simp [RowKit.intOf]; omega
          · have k1 : decide ((t : Int) < 90) = false := by simp; omega
            go_wp2_with fail
            go_round
            case rel => exact ⟨n + 1, by go_num, by omega⟩
            case measure => simp [RowKit.intOf]; omega
      · have c1 : decide ((n : Int) < 90) = false := by simp; omega
        go_wp2_with fail
        refine (HK.out _ HE.out).mono ?_
        rintro e w1 ⟨rfl, a1⟩
        go_wp2_with fail
        go_ret
        exact ⟨rfl, a1⟩

theorem steps_walk (d s g : Int) (hd : (Lit.int .u64 d).wf = true) (hs : (Lit.int .u64 s).wf = true) (hg : (Lit.int .u64 g).wf = true) (w : World) (he : Env w) :
    Calls Tryd.prog 6 #[.int .u64 d, .int .u64 s, .int .u64 g] w (valAfter w (.bool true)) := by
  by_cases h1 : Bad d
  · exact steps_big d s g w he (.inl (big_of h1))
  · obtain ⟨c1, f1⟩ := fine_of h1
    by_cases h2 : Bad s
    · exact steps_big d s g w he (.inr ⟨c1, f1, .inl (big_of h2)⟩)
    · obtain ⟨c2, f2⟩ := fine_of h2
      by_cases h3 : Bad g
      · exact steps_big d s g w he (.inr ⟨c1, f1, .inr ⟨c2, f2, big_of h3⟩⟩)
      · obtain ⟨c3, f3⟩ := fine_of h3
        exact steps_fine d s g (tm_wf hd) (tm_wf hs) (tm_wf hg) w he c1 c2 c3 f1 f2 f3
end Go.Proofs.YthphclmdbinafaaDoor.Cs
