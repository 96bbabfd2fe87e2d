/- Proves that the law ClockHolds returns true at every input. Condition: what the library lays is laid. -/
import Derived.Test.YthphclmdbinafaaDoorCl
namespace Go.Proofs.YthphclmdbinafaaDoor.Ch
open Go.RowKit Cm Cf Cu Cd Cp Cg Ck Cl

/-! ### the text of a time is read as that time -/
theorem digit_byte {k : Nat} (h : k < 10) : (UInt8.ofNat (48 + k)).toNat = 48 + k := by rw [UInt8.toNat_ofNat']; omega
theorem parse_dec (t : Nat) : ∀ r : List UInt8, t ≤ 18446744073709551615 → Lib.parseUintM 18446744073709551615 0 (Lib.decDigits t ++ r) = Lib.parseUintM 18446744073709551615 t r := by
  induction t using Nat.strongRecOn with
  | _ t ih =>
    intro r ht
    by_cases h : t < 10
    · have e := digit_byte h
      rw [Lib.decDigits_one h, List.singleton_append, num_on (by omega) (by omega) (by omega), e]
      congr 1
      omega
    · have e := digit_byte (show t % 10 < 10 by omega)
      rw [Lib.decDigits.eq_1, dif_neg h, List.append_assoc, ih (t / 10) (by omega) _ (by omega), List.singleton_append, num_on (by omega) (by omega) (by omega), e]
      congr 1
      omega
theorem dec_ne (t : Nat) : ¬ Lib.decDigits t = [] := by
  intro e
  have h := Lib.decDigits_length t
  have := Lib.nDigits_pos t
  rw [e] at h
  simp at h
  omega
theorem parse_digits (t : Nat) (h : t < 18446744073709551616) : Lib.parseUintB 64 (Lib.decDigits t) = .ok t := by
  unfold Lib.parseUintB
  rw [if_neg (dec_ne t), show (2 : Nat) ^ 64 - 1 = 18446744073709551615 by decide]
  have := parse_dec t [] (by omega)
  rw [List.append_nil] at this
  rw [this]; rfl
theorem never_syntax : Lib.parseUintB 64 neverB.data.toList = .syntax := by decide +kernel
theorem text_size (t : Nat) (h : t < 18446744073709551616) : (textB t).size ≤ 20 := by
  unfold textB
  split
  · decide
  · show (Lib.decDigits t).toArray.size ≤ 20
    rw [List.size_toArray, Lib.decDigits_length]
    exact Lib.nDigits_le20 t h
theorem parse_text (t : Nat) (h : t < 18446744073709551616) : parseR (textB t) = some t := by
  by_cases e : t = 18446744073709551615
  · subst e; rw [text_never]; exact p_never
  · have hp : Lib.parseUintB 64 (textB t).data.toList = .ok t := by
      rw [text_num e]
      show Lib.parseUintB 64 (Lib.decDigits t) = _
      exact parse_digits t h
    rw [ok_at (u := t) ?_ hp, if_pos rfl]
    intro q
    rw [q, never_syntax] at hp
    cases hp

/-! ### ClockHolds -/
theorem add_at' (a b v : Int) (w : World) (ha : Tm a) (hb : Tm b) (h : addI a b = v) : Calls Tryd.prog 8 #[.int .u64 a, .int .u64 b] w fun e w' => e = .returned (.int .u64 v) ∧ w = w' := by
  subst h; exact add_any a b w ha hb
structure Facts (n l d s g x v a b y m : Int) : Prop where
  eff : ∀ W, Calls Tryd.prog 10 #[.int .u64 n, .int .u64 l] W fun e w' => e = .returned (.int .u64 x) ∧ W = w'
  eff2 : ∀ W, Calls Tryd.prog 10 #[.int .u64 x, .int .u64 n] W fun e w' => e = .returned (.int .u64 x) ∧ W = w'
  add : ∀ W, Calls Tryd.prog 8 #[.int .u64 n, .int .u64 l] W fun e w' => e = .returned (.int .u64 v) ∧ W = w'
  ma : ∀ W, Calls Tryd.prog 15 #[.int .u64 n, .int .u64 d, .int .u64 s, .int .u64 g] W fun e w' => e = .returned (.int .i64 a) ∧ W = w'
  mb : ∀ W, Calls Tryd.prog 15 #[.int .u64 x, .int .u64 d, .int .u64 s, .int .u64 g] W fun e w' => e = .returned (.int .i64 b) ∧ W = w'
  ny : ∀ W, Calls Tryd.prog 17 #[.int .u64 n, .int .u64 d, .int .u64 s, .int .u64 g] W fun e w' => e = .returned (.int .u64 y) ∧ W = w'
  my : ∀ W, Calls Tryd.prog 15 #[.int .u64 y, .int .u64 d, .int .u64 s, .int .u64 g] W fun e w' => e = .returned (.int .i64 m) ∧ W = w'
  mz : ¬ y = 18446744073709551615 → ∀ W, Calls Tryd.prog 15 #[.int .u64 (y - 1), .int .u64 d, .int .u64 s, .int .u64 g] W fun e w' => e = .returned (.int .i64 a) ∧ W = w'

set_option maxRecDepth 100000 in
set_option maxHeartbeats 4000000 in
/-- The walk with the answers of all calls given. -/
theorem holds_core (n l d s g x v a b y m : Int) (t : Nat) (w : World) (he : Env w) (hl : l = t) (ht : t < 18446744073709551616) (F : Facts n l d s g x v a b y m)
    (n0 : 0 ≤ n) (x1 : decide (x < n) = false) (x2 : decide (x < l) = false) (v1 : decide (v < n) = false) (hy : Tm y)
    (hab : (a = 0 ∧ b = 0) ∨ (a = 1 ∧ (b = 0 ∨ b = 1 ∨ b = 2)) ∨ (a = 2 ∧ (b = 0 ∨ b = 2)))
    (hyn : ¬ y = 18446744073709551615 → decide (y ≤ n) = false ∧ (m == a) = false)
    (hxy : x < y → b = a) :
    Calls Tryd.prog 7 #[.int .u64 n, .int .u64 l, .int .u64 d, .int .u64 s, .int .u64 g] w (valAfter w (.bool true)) := by
  have HT := Lib.hid (fun W k => text_any t ht W k)
  obtain ⟨z, hz⟩ : ∃ z, z = textB t := ⟨_, rfl⟩
  have HQ := Lib.hid (fun W k => parses_some (textB t) t (by have := text_size t ht; omega) (parse_text t ht) W k)
  rw [← hz, ← hl] at HT HQ
  have HF := Lib.hid F
  clear F hz hl
  by_cases hn : y = 18446744073709551615
  · subst hn
    clear hyn
    have c2 := decide_eq_true hy.2
    rcases hab with ⟨rfl, rfl⟩ | ⟨rfl, rfl | rfl | rfl⟩ | ⟨rfl, rfl | rfl⟩
    all_goals by_cases hx : x < 18446744073709551615
    all_goals first
      | (exfalso; have := hxy hx; omega; done)
      | skip
    all_goals
      first
        | have c3 : decide (x < 18446744073709551615) = true := decide_eq_true hx
        | have c3 : decide (x < 18446744073709551615) = false := decide_eq_false hx
      have HX := Lib.hid hx
      clear hxy hx hy
      go_enter Tryd.func7, Tryd.ntmps7
      go_wp2_with fail
      refine (HF.out.eff _).mono ?_
      rintro e w' ⟨rfl, rfl⟩
      go_wp2_with fail
      refine (HF.out.eff2 _).mono ?_
      rintro e w' ⟨rfl, rfl⟩
      go_wp2_with fail
      refine (HF.out.add _).mono ?_
      rintro e w' ⟨rfl, rfl⟩
      go_wp2_with fail
      refine (HF.out.ma _).mono ?_
      rintro e w' ⟨rfl, rfl⟩
      go_wp2_with fail
      refine (HF.out.mb _).mono ?_
      rintro e w' ⟨rfl, rfl⟩
      go_wp2_with fail
      refine (HF.out.ny _).mono ?_
      rintro e w' ⟨rfl, rfl⟩
      go_wp2_with fail
      refine (HT.out _ he).mono ?_
      rintro e w1 ⟨rfl, a1⟩
      have A1 := Lib.hid a1; clear a1
      go_wp2_with fail
      refine (HQ.out _ (he.after A1.out)).mono ?_
      rintro e w2 ⟨rfl, a2⟩
      have A2 := Lib.hid (A1.out.trans a2); clear a2
      go_wp2_with fail
      refine (known_true _ (he.after A2.out)).mono ?_
      rintro e w4 ⟨rfl, a4⟩
      have A4 := Lib.hid (A2.out.trans a4); clear a4
      go_wp2_with fail
      go_ret
      exact ⟨rfl, A4.out⟩
  · obtain ⟨c2, c4⟩ := hyn hn
    have c5 : (y != 18446744073709551615) = true := bne_iff_ne.2 hn
    have HZ := Lib.hid (HF.out.mz hn)
    have c6 : IntKind.u64.wrap (y - 1) = y - 1 := wrap64 _ (by have := of_decide_eq_false c2; omega) (by have := hy.2; omega)
    clear hyn hn
    rcases hab with ⟨rfl, rfl⟩ | ⟨rfl, rfl | rfl | rfl⟩ | ⟨rfl, rfl | rfl⟩
    all_goals by_cases hx : x < y
    all_goals first
      | (exfalso; have := hxy hx; omega; done)
      | skip
    all_goals
      first
        | have c3 : decide (x < y) = true := decide_eq_true hx
        | have c3 : decide (x < y) = false := decide_eq_false hx
      clear hxy hx hy
      go_enter Tryd.func7, Tryd.ntmps7
      go_wp2_with fail
      refine (HF.out.eff _).mono ?_
      rintro e w' ⟨rfl, rfl⟩
      go_wp2_with fail
      refine (HF.out.eff2 _).mono ?_
      rintro e w' ⟨rfl, rfl⟩
      go_wp2_with fail
      refine (HF.out.add _).mono ?_
      rintro e w' ⟨rfl, rfl⟩
      go_wp2_with fail
      refine (HF.out.ma _).mono ?_
      rintro e w' ⟨rfl, rfl⟩
      go_wp2_with fail
      refine (HF.out.mb _).mono ?_
      rintro e w' ⟨rfl, rfl⟩
      go_wp2_with fail
      refine (HF.out.ny _).mono ?_
      rintro e w' ⟨rfl, rfl⟩
      go_wp2_with fail
      refine (HF.out.my _).mono ?_
      rintro e w' ⟨rfl, rfl⟩
      go_wp2_with fail
      refine (HZ.out _).mono ?_
      rintro e w' ⟨rfl, rfl⟩
      go_wp2_with fail
      refine (HT.out _ he).mono ?_
      rintro e w1 ⟨rfl, a1⟩
      have A1 := Lib.hid a1; clear a1
      go_wp2_with fail
      refine (HQ.out _ (he.after A1.out)).mono ?_
      rintro e w2 ⟨rfl, a2⟩
      have A2 := Lib.hid (A1.out.trans a2); clear a2
      go_wp2_with fail
      refine (known_true _ (he.after A2.out)).mono ?_
      rintro e w4 ⟨rfl, a4⟩
      have A4 := Lib.hid (A2.out.trans a4); clear a4
      go_wp2_with fail
      go_ret
      exact ⟨rfl, A4.out⟩

theorem holds_walk (n l d s g : Int) (hn : (Lit.int .u64 n).wf = true) (hl : (Lit.int .u64 l).wf = true) (hd : (Lit.int .u64 d).wf = true) (hs : (Lit.int .u64 s).wf = true) (hg : (Lit.int .u64 g).wf = true) (w : World) (he : Env w) :
    Calls Tryd.prog 7 #[.int .u64 n, .int .u64 l, .int .u64 d, .int .u64 s, .int .u64 g] w (valAfter w (.bool true)) := by
  have tn := tm_wf hn
  have tl := tm_wf hl
  have td := tm_wf hd
  have ts := tm_wf hs
  have tg := tm_wf hg
  have ty := @next_tm n d s g td ts tg
  have mn := mark_cases n d s g
  have mx := mark_cases (max n l) d s g
  have on := @mark_on n d s g ts tg (max n l) (by omega)
  refine holds_core n l d s g (max n l) (addI n l) (markI n d s g) (markI (max n l) d s g) (nextI n d s g) (markI (nextI n d s g) d s g) l.toNat w he (by have := tl.1; omega) (by have := tl.2; omega)
    ⟨fun W => eff_any n l W, fun W => eff_at _ n _ W (by omega), fun W => add_any n l W tn tl, fun W => mark_any n d s g W ts tg, fun W => mark_any _ d s g W ts tg,
      fun W => next_any n d s g W ts tg, fun W => mark_any _ d s g W ts tg, fun hy W => mark_at _ d s g _ W ⟨ts, tg, ?_⟩⟩
    tn.1 (by simp; omega) (by simp; omega) ?_ ty ?_ ?_ ?_
  · have := next_gt' td ts tg hy tn
    exact next_same td ts tg (by omega) (by omega)
  · have := @end_ge n l tn tl; simp; omega
  · omega
  · intro hy
    have := next_gt' td ts tg hy tn
    exact ⟨by simp; omega, eqb_no (next_other td ts tg hy)⟩
  · intro hx
    exact next_same td ts tg (by omega) hx
end Go.Proofs.YthphclmdbinafaaDoor.Ch
