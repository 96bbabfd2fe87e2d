/- Proves that the law's helpers return true: parses at the right answer, and the chapter's examples. Condition: what the library lays is laid. -/
import Derived.Test.YthphclmdbinafaaDoorCp
import Derived.Test.YthphclmdbinafaaDoorCg
namespace Go.Proofs.YthphclmdbinafaaDoor.Ck
open Go.RowKit Cm Cf Cu Cd Cp Cg

set_option maxRecDepth 100000 in
theorem parses_some (s : ByteArray) (u : Nat) (hs : s.size ≤ 281474976710656) (h : parseR s = some u) (w : World) (he : Env w) :
    Calls Tryd.prog 22 #[.string s, .int .u64 u, .int .i64 0] w (valAfter w (.bool true)) := by
  have HP := Lib.hid (parse_some s u hs h w he)
  clear h
  go_enter Tryd.func22, Tryd.ntmps22
  go_wp2_with fail
  refine HP.out.mono ?_
  rintro e w1 ⟨rfl, a1⟩
  have A1 := Lib.hid a1; clear a1
  unfold okTuple
  go_wp2_with fail
  go_ret
  exact ⟨rfl, A1.out⟩
set_option maxRecDepth 100000 in
theorem parses_none (s : ByteArray) (hs : s.size ≤ 281474976710656) (h : parseR s = none) (w : World) (he : Env w) :
    Calls Tryd.prog 22 #[.string s, .int .u64 0, .int .i64 6] w (valAfter w (.bool true)) := by
  have HP := Lib.hid (parse_none s hs h w he)
  clear h
  go_enter Tryd.func22, Tryd.ntmps22
  go_wp2_with fail
  refine HP.out.mono ?_
  rintro e w1 ⟨rfl, a1⟩
  have A1 := Lib.hid a1; clear a1
  unfold noTuple
  go_wp2_with fail
  go_ret
  exact ⟨rfl, A1.out⟩

/-! ### at given answers -/
theorem add_at (a b c : Int) (w : World) (h : Tm a ∧ Tm b ∧ addI a b = c) : Calls Tryd.prog 8 #[.int .u64 a, .int .u64 b] w fun e w' => e = .returned (.int .u64 c) ∧ w = w' := by
  obtain ⟨ha, hb, rfl⟩ := h; exact add_any a b w ha hb
theorem eff_at (a b c : Int) (w : World) (h : max a b = c) : Calls Tryd.prog 10 #[.int .u64 a, .int .u64 b] w fun e w' => e = .returned (.int .u64 c) ∧ w = w' := by
  subst h; exact eff_any a b w
theorem due_at (a b : Int) (c : Bool) (w : World) (h : dueB a b = c) : Calls Tryd.prog 12 #[.int .u64 a, .int .u64 b] w fun e w' => e = .returned (.bool c) ∧ w = w' := by
  subst h; exact due_any a b w
theorem mark_at (n d s g c : Int) (w : World) (h : Tm s ∧ Tm g ∧ markI n d s g = c) : Calls Tryd.prog 15 #[.int .u64 n, .int .u64 d, .int .u64 s, .int .u64 g] w fun e w' => e = .returned (.int .i64 c) ∧ w = w' := by
  obtain ⟨hs, hg, rfl⟩ := h; exact mark_any n d s g w hs hg
theorem next_at (n d s g c : Int) (w : World) (h : Tm s ∧ Tm g ∧ nextI n d s g = c) : Calls Tryd.prog 17 #[.int .u64 n, .int .u64 d, .int .u64 s, .int .u64 g] w fun e w' => e = .returned (.int .u64 c) ∧ w = w' := by
  obtain ⟨hs, hg, rfl⟩ := h; exact next_any n d s g w hs hg
theorem text_at (t : Nat) (x : ByteArray) (w : World) (ht : t < 18446744073709551616) (he : Env w) (h : textB t = x) : Calls Tryd.prog 20 #[.int .u64 t] w (valAfter w (.string x)) := by
  subst h; exact text_any t ht w he
theorem word_at (m : Int) (x : ByteArray) (w : World) (h : wordB m = x) : Calls Tryd.prog 23 #[.int .i64 m] w fun e w' => e = .returned (.string x) ∧ w = w' := by
  subst h; exact word_any m w
def b120 : ByteArray := ⟨#[49, 50, 48]⟩
def b007 : ByteArray := ⟨#[48, 48, 55]⟩
def bMax : ByteArray := ⟨#[49, 56, 52, 52, 54, 55, 52, 52, 48, 55, 51, 55, 48, 57, 53, 53, 49, 54, 49, 53]⟩
theorem text120 : textB 120 = b120 := by
  rw [text_num (by decide), Lib.decDigits.eq_1, dif_neg (by decide), Lib.decDigits_two (by decide) (by decide)]; rfl
theorem p_never : parseR neverB = some 18446744073709551615 := if_pos rfl
theorem p_007 : parseR b007 = none := by
  rw [ok_at (u := 7) (by decide) (by decide +kernel), if_neg]
  rw [text_num (by decide), Lib.decDigits_one (by decide)]
  decide
theorem p_max : parseR bMax = none := by
  rw [ok_at (u := 18446744073709551615) (by decide) (by decide +kernel), if_neg]
  rw [text_never]
  decide

set_option maxRecDepth 100000 in
set_option maxHeartbeats 4000000 in
theorem known_true (w : World) (he : Env w) : Calls Tryd.prog 14 #[] w (valAfter w (.bool true)) := by
  have e1 : b120.toList = [49, 50, 48] := by rw [Lib.toList_data]; rfl
  have e2 : neverB.toList = [110, 101, 118, 101, 114] := by rw [Lib.toList_data]; rfl
  go_enter Tryd.func14, Tryd.ntmps14
  go_wp2_with fail
  refine (add_at 5 7 12 _ (by unfold Tm; decide)).mono ?_
  rintro e w' ⟨rfl, rfl⟩
  go_wp2_with fail
  refine (add_at 18446744073709551615 0 18446744073709551615 _ (by unfold Tm; decide)).mono ?_
  rintro e w' ⟨rfl, rfl⟩
  go_wp2_with fail
  refine (add_at 5 18446744073709551615 18446744073709551615 _ (by unfold Tm; decide)).mono ?_
  rintro e w' ⟨rfl, rfl⟩
  go_wp2_with fail
  refine (add_at 18446744073709551613 1 18446744073709551614 _ (by unfold Tm; decide)).mono ?_
  rintro e w' ⟨rfl, rfl⟩
  go_wp2_with fail
  refine (add_at 18446744073709551613 2 18446744073709551615 _ (by unfold Tm; decide)).mono ?_
  rintro e w' ⟨rfl, rfl⟩
  go_wp2_with fail
  refine (eff_at 9 4 9 _ (by decide)).mono ?_
  rintro e w' ⟨rfl, rfl⟩
  go_wp2_with fail
  refine (due_at 5 5 true _ (by decide)).mono ?_
  rintro e w' ⟨rfl, rfl⟩
  go_wp2_with fail
  refine (due_at 6 5 false _ (by decide)).mono ?_
  rintro e w' ⟨rfl, rfl⟩
  go_wp2_with fail
  refine (due_at 18446744073709551615 18446744073709551615 false _ (by decide)).mono ?_
  rintro e w' ⟨rfl, rfl⟩
  go_wp2_with fail
  refine (due_at 5 18446744073709551615 true _ (by decide)).mono ?_
  rintro e w' ⟨rfl, rfl⟩
  go_wp2_with fail
  refine (mark_at 9 10 18446744073709551615 3 1 _ (by unfold Tm; decide)).mono ?_
  rintro e w' ⟨rfl, rfl⟩
  go_wp2_with fail
  refine (mark_at 10 10 18446744073709551615 3 0 _ (by unfold Tm; decide)).mono ?_
  rintro e w' ⟨rfl, rfl⟩
  go_wp2_with fail
  refine (mark_at 9 20 7 3 2 _ (by unfold Tm; decide)).mono ?_
  rintro e w' ⟨rfl, rfl⟩
  go_wp2_with fail
  refine (mark_at 10 20 7 3 0 _ (by unfold Tm; decide)).mono ?_
  rintro e w' ⟨rfl, rfl⟩
  go_wp2_with fail
  refine (mark_at 6 20 7 3 1 _ (by unfold Tm; decide)).mono ?_
  rintro e w' ⟨rfl, rfl⟩
  go_wp2_with fail
  refine (mark_at 7 20 7 0 0 _ (by unfold Tm; decide)).mono ?_
  rintro e w' ⟨rfl, rfl⟩
  go_wp2_with fail
  refine (mark_at 50 18446744073709551615 7 18446744073709551615 2 _ (by unfold Tm; decide)).mono ?_
  rintro e w' ⟨rfl, rfl⟩
  go_wp2_with fail
  refine (next_at 6 20 7 3 7 _ (by unfold Tm; decide)).mono ?_
  rintro e w' ⟨rfl, rfl⟩
  go_wp2_with fail
  refine (next_at 7 20 7 3 10 _ (by unfold Tm; decide)).mono ?_
  rintro e w' ⟨rfl, rfl⟩
  go_wp2_with fail
  refine (next_at 10 20 7 3 18446744073709551615 _ (by unfold Tm; decide)).mono ?_
  rintro e w' ⟨rfl, rfl⟩
  go_wp2_with fail
  refine (next_at 3 5 7 3 5 _ (by unfold Tm; decide)).mono ?_
  rintro e w' ⟨rfl, rfl⟩
  go_wp2_with fail
  refine (text_at 120 b120 _ (by decide) he text120).mono ?_
  rintro e w1 ⟨rfl, a1⟩
  have A1 := Lib.hid a1; clear a1
  go_wp2_with fail
  refine (text_at 18446744073709551615 neverB _ (by decide) (he.after A1.out) text_never).mono ?_
  rintro e w2 ⟨rfl, a2⟩
  have A2 := Lib.hid (A1.out.trans a2); clear a2
  go_wp2_with fail
  refine (parses_some neverB 18446744073709551615 (by decide) p_never _ (he.after A2.out)).mono ?_
  rintro e w3 ⟨rfl, a3⟩
  have A3 := Lib.hid (A2.out.trans a3); clear a3
  go_wp2_with fail
  refine (parses_none b007 (by decide) p_007 _ (he.after A3.out)).mono ?_
  rintro e w4 ⟨rfl, a4⟩
  have A4 := Lib.hid (A3.out.trans a4); clear a4
  go_wp2_with fail
  refine (parses_none bMax (by decide) p_max _ (he.after A4.out)).mono ?_
  rintro e w5 ⟨rfl, a5⟩
  have A5 := Lib.hid (A4.out.trans a5); clear a5
  go_wp2_with fail
  refine (word_at 2 ⟨#[115, 116, 97, 108, 101]⟩ _ (by decide)).mono ?_
  rintro e w' ⟨rfl, rfl⟩
  go_wp2_with fail
  refine (word_at 3 ⟨#[]⟩ _ (by decide)).mono ?_
  rintro e w' ⟨rfl, rfl⟩
  go_wp2_with fail
  go_ret
  exact ⟨rfl, A5.out⟩
end Go.Proofs.YthphclmdbinafaaDoor.Ck
