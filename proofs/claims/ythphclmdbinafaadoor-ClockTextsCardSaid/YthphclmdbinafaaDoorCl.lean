/- Proves that the laws ClockSums, ClockMarks, ClockTexts and ClockHolds return true at every input. Condition: what the library lays is laid. -/
import Derived.Test.YthphclmdbinafaaDoorCk
namespace Go.Proofs.YthphclmdbinafaaDoor.Cl
open Go.RowKit Cm Cf Cu Cd Cp Cg Ck

theorem tm_wf {a : Int} (h : (Lit.int .u64 a).wf = true) : Tm a := by
  simp [Lit.wf, IntKind.min, IntKind.max, IntKind.signed, IntKind.bits] at h; unfold Tm; omega

/-! ### how marks change -/
section
variable {n d s g : Int} (hd : Tm d) (hs : Tm s) (hg : Tm g)
include hd hs hg
theorem next_gt (hn : n < 18446744073709551615) : n < nextI n d s g := by
  obtain ⟨a1, a2, a3⟩ := @mark_iff n d s g hs hg
  have f := @end_ge s g hs hg
  unfold Tm at hd hs hg
  rcases mark_cases n d s g with h | h | h
  · rw [next_dead h]; omega
  · have := a3.1 h; rw [next_fresh h]; omega
  · have := a2.1 h; rw [next_stale h]; omega
theorem next_gt' (hx : nextI n d s g ≠ 18446744073709551615) (hn : Tm n) : n < nextI n d s g := by
  by_cases h : n < 18446744073709551615
  · exact next_gt hd hs hg h
  · exfalso
    obtain ⟨a1, a2, a3⟩ := @mark_iff n d s g hs hg
    have f := @end_ge s g hs hg
    unfold Tm at hd hs hg hn
    rcases mark_cases n d s g with h | h | h
    · rw [next_dead h] at hx; omega
    · have := a3.1 h; rw [next_fresh h] at hx; omega
    · have := a2.1 h; rw [next_stale h] at hx; omega
theorem next_other (hx : nextI n d s g ≠ 18446744073709551615) : ¬ markI (nextI n d s g) d s g = markI n d s g := by
  obtain ⟨a1, a2, a3⟩ := @mark_iff n d s g hs hg
  have f := @end_ge s g hs hg
  obtain ⟨y, hy⟩ : ∃ y, y = nextI n d s g := ⟨_, rfl⟩
  rw [← hy] at hx ⊢
  obtain ⟨b1, b2, b3⟩ := @mark_iff y d s g hs hg
  unfold Tm at hd hs hg
  rcases mark_cases n d s g with h | h | h
  · rw [next_dead h] at hy; omega
  · rw [next_fresh h] at hy; rw [h]; intro e; have := b3.1 e; omega
  · have := a2.1 h; rw [next_stale h] at hy; rw [h]; intro e; have := b2.1 e; omega
theorem next_same {x : Int} (h0 : n ≤ x) (h1 : x < nextI n d s g) : markI x d s g = markI n d s g := by
  obtain ⟨a1, a2, a3⟩ := @mark_iff n d s g hs hg
  obtain ⟨b1, b2, b3⟩ := @mark_iff x d s g hs hg
  have f := @end_ge s g hs hg
  unfold Tm at hd hs hg
  rcases mark_cases n d s g with h | h | h
  · have := a1.1 h; rw [h]; exact b1.2 (by omega)
  · have := a3.1 h; rw [next_fresh h] at h1; rw [h]; exact b3.2 (by omega)
  · have := a2.1 h; rw [next_stale h] at h1; rw [h]; exact b2.2 (by omega)
omit hd in
theorem mark_on {x : Int} (h0 : n ≤ x) : (markI n d s g = 0 → markI x d s g = 0) ∧ (markI n d s g = 2 → ¬ markI x d s g = 1) := by
  obtain ⟨a1, a2, a3⟩ := @mark_iff n d s g hs hg
  obtain ⟨b1, b2, b3⟩ := @mark_iff x d s g hs hg
  refine ⟨fun h => ?_, fun h e => ?_⟩
  · have := a1.1 h; exact b1.2 (by omega)
  · have := a2.1 h; have := b3.1 e; omega
end

set_option maxRecDepth 100000 in
set_option maxHeartbeats 1000000 in
theorem sums_walk (a b : Int) (ha : (Lit.int .u64 a).wf = true) (hb : (Lit.int .u64 b).wf = true) (w : World) (he : Env w) :
    Calls Tryd.prog 3 #[.int .u64 a, .int .u64 b] w (valAfter w (.bool true)) := by
  have HA := Lib.hid (tm_wf ha)
  have HB := Lib.hid (tm_wf hb)
  clear ha hb
  go_enter Tryd.func3, Tryd.ntmps3
  go_wp2_with fail
  refine (add_any a b _ HA.out HB.out).mono ?_
  rintro e w' ⟨rfl, rfl⟩
  go_wp2_with fail
  refine (radd_any a b _ HA.out HB.out).mono ?_
  rintro e w' ⟨rfl, rfl⟩
  go_wp2_with fail
  refine (eff_any a b _).mono ?_
  rintro e w' ⟨rfl, rfl⟩
  go_wp2_with fail
  refine (reff_any a b _).mono ?_
  rintro e w' ⟨rfl, rfl⟩
  go_wp2_with fail
  refine (due_any a b _).mono ?_
  rintro e w' ⟨rfl, rfl⟩
  go_wp2_with fail
  refine (rdue_any a b _).mono ?_
  rintro e w' ⟨rfl, rfl⟩
  go_wp2_with fail
  refine (known_true _ he).mono ?_
  rintro e w1 ⟨rfl, a1⟩
  go_wp2_with fail
  go_ret
  exact ⟨rfl, a1⟩

set_option maxRecDepth 100000 in
set_option maxHeartbeats 1000000 in
theorem marks_walk (n d s g : Int) (_hn : (Lit.int .u64 n).wf = true) (hd : (Lit.int .u64 d).wf = true) (hs : (Lit.int .u64 s).wf = true) (hg : (Lit.int .u64 g).wf = true) (w : World) (he : Env w) :
    Calls Tryd.prog 4 #[.int .u64 n, .int .u64 d, .int .u64 s, .int .u64 g] w (valAfter w (.bool true)) := by
  have HD := Lib.hid (tm_wf hd)
  have HS := Lib.hid (tm_wf hs)
  have HG := Lib.hid (tm_wf hg)
  clear hd hs hg
  obtain ⟨m, hm⟩ : ∃ m, m = markI n d s g := ⟨_, rfl⟩
  have H1 := Lib.hid (fun W => mark_any n d s g W HS.out HG.out)
  have H2 := Lib.hid (fun W => rmark_any n d s g W HS.out HG.out)
  obtain ⟨y, hy⟩ : ∃ y, y = nextI n d s g := ⟨_, rfl⟩
  have H3 := Lib.hid (fun W => next_any n d s g W HS.out HG.out)
  have H4 := Lib.hid (fun W => rnext_any n d s g W HD.out HS.out HG.out)
  rw [← hm] at H1 H2
  rw [← hy] at H3 H4
  clear hm hy
  go_enter Tryd.func4, Tryd.ntmps4
  go_wp2_with fail
  refine (H1.out _).mono ?_
  rintro e w' ⟨rfl, rfl⟩
  go_wp2_with fail
  refine (H2.out _).mono ?_
  rintro e w' ⟨rfl, rfl⟩
  go_wp2_with fail
  refine (H3.out _).mono ?_
  rintro e w' ⟨rfl, rfl⟩
  go_wp2_with fail
  refine (H4.out _).mono ?_
  rintro e w1 ⟨rfl, a1⟩
  have A1 := Lib.hid a1; clear a1
  go_wp2_with fail
  refine (known_true _ (he.after A1.out)).mono ?_
  rintro e w2 ⟨rfl, a2⟩
  have A2 := Lib.hid (A1.out.trans a2); clear a2
  go_wp2_with fail
  go_ret
  exact ⟨rfl, A2.out⟩

set_option maxRecDepth 100000 in
set_option maxHeartbeats 1000000 in
theorem texts_walk (a : Int) (s : ByteArray) (m : Int) (ha : (Lit.int .u64 a).wf = true) (_hs : s.size ≤ maxLen) (_hm : (Lit.int .i64 m).wf = true) (w : World) (he : Env w) :
    Calls Tryd.prog 5 #[.int .u64 a, .string s, .int .i64 m] w (valAfter w (.bool true)) := by
  have ht := tm_wf ha
  clear ha
  unfold Tm at ht
  obtain ⟨t, rfl⟩ : ∃ t : Nat, a = t := ⟨a.toNat, by omega⟩
  by_cases h40 : 40 < s.size
  · have g1 : decide (40 < (s.size : Int)) = true := by simp; omega
    go_enter Tryd.func5, Tryd.ntmps5
    go_wp2_with fail
    refine (known_true _ he).mono ?_
    rintro e w1 ⟨rfl, a1⟩
    go_wp2_with fail
    go_ret
    exact ⟨rfl, a1⟩
  · have g1 : decide (40 < (s.size : Int)) = false := by simp; omega
    have ht' : t < 18446744073709551616 := by omega
    have HT := Lib.hid (fun W k => text_any t ht' W k)
    have HR := Lib.hid (fun W => rtext_any t ht' W)
    obtain ⟨x, hx⟩ : ∃ x, x = textB t := ⟨_, rfl⟩
    rw [← hx] at HT HR
    have HW := Lib.hid (fun W => word_any m W)
    have HV := Lib.hid (fun W => rword_any m W)
    obtain ⟨y, hy⟩ : ∃ y, y = wordB m := ⟨_, rfl⟩
    rw [← hy] at HW HV
    have HP := Lib.hid (rparse_any s (by omega) w)
    cases hp : parseR s with
    | none =>
      have HQ := Lib.hid (fun W k => parses_none s (by omega) hp W k)
      rw [hp] at HP
      unfold rTuple at HP
      clear hx hy hp
      go_enter Tryd.func5, Tryd.ntmps5
      go_wp2_with fail
      refine HP.out.mono ?_
      rintro e w' ⟨rfl, rfl⟩
      go_wp2_with fail
      refine (HT.out _ he).mono ?_
      rintro e w1 ⟨rfl, a1⟩
      have A1 := Lib.hid a1; clear a1
      go_wp2_with fail
      refine (HR.out _).mono ?_
      rintro e w' ⟨rfl, rfl⟩
      go_wp2_with fail
      refine (HQ.out _ (he.after A1.out)).mono ?_
      rintro e w2 ⟨rfl, a2⟩
      have A2 := Lib.hid (A1.out.trans a2); clear a2
      go_wp2_with fail
      refine (HW.out _).mono ?_
      rintro e w' ⟨rfl, rfl⟩
      go_wp2_with fail
      refine (HV.out _).mono ?_
      rintro e w3 ⟨rfl, a3⟩
      have A3 := Lib.hid (A2.out.trans a3); clear a3
      go_wp2_with fail
      refine (known_true _ (he.after A3.out)).mono ?_
      rintro e w4 ⟨rfl, a4⟩
      have A4 := Lib.hid (A3.out.trans a4); clear a4
      go_wp2_with fail
      go_ret
      exact ⟨rfl, A4.out⟩
    | some u =>
      have HQ := Lib.hid (fun W k => parses_some s u (by omega) hp W k)
      rw [hp] at HP
      unfold rTuple at HP
      clear hx hy hp
      go_enter Tryd.func5, Tryd.ntmps5
      go_wp2_with fail
      refine HP.out.mono ?_
      rintro e w' ⟨rfl, rfl⟩
      go_wp2_with fail
      refine (HT.out _ he).mono ?_
      rintro e w1 ⟨rfl, a1⟩
      have A1 := Lib.hid a1; clear a1
      go_wp2_with fail
      refine (HR.out _).mono ?_
      rintro e w' ⟨rfl, rfl⟩
      go_wp2_with fail
      refine (HQ.out _ (he.after A1.out)).mono ?_
      rintro e w2 ⟨rfl, a2⟩
      have A2 := Lib.hid (A1.out.trans a2); clear a2
      go_wp2_with fail
      refine (HW.out _).mono ?_
      rintro e w' ⟨rfl, rfl⟩
      go_wp2_with fail
      refine (HV.out _).mono ?_
      rintro e w3 ⟨rfl, a3⟩
      have A3 := Lib.hid (A2.out.trans a3); clear a3
      go_wp2_with fail
      refine (known_true _ (he.after A3.out)).mono ?_
      rintro e w4 ⟨rfl, a4⟩
      have A4 := Lib.hid (A3.out.trans a4); clear a4
      go_wp2_with fail
      go_ret
      exact ⟨rfl, A4.out⟩
end Go.Proofs.YthphclmdbinafaaDoor.Cl
