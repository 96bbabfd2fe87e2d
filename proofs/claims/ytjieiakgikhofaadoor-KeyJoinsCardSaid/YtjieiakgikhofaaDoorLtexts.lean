/- Proves that the laws KeyTexts, KeyParses and KeyJoins return true at every input. Conditions: the library's variable and the table of digits are laid; the strings have lengths of the form's own bound. -/
import Derived.Test.YtjieiakgikhofaaDoorLnames
namespace Go.Proofs.YtjieiakgikhofaaDoor.Ltexts
open Go.RowKit Km Kt Kv Kl Kc Ap Kx Ky Kr Ks Kf Kg Kj Ku Kz Ka Kk Lnames

theorem text_long (s : ByteArray) (w : World) (he : Env w) (hs : s.size ≤ maxLen) (h : 250 < s.size) :
    Calls Tryd.prog 32 #[.string s] w (strRes w [] 5) := by
  refine (text_any s w he hs).mono fun _ _ hh => ⟨?_, After.of hh.2⟩
  rw [hh.1, if_pos h, if_pos h]; rfl
theorem rtext_at (s : ByteArray) (x : Bs) (w : World) (hs : s.size ≤ 1000) (h : textL s.data.toList = x) :
    Calls Tryd.prog 33 #[.string s] w (valAfter w (.string ⟨x.toArray⟩)) := by
  subst h
  refine (rtext_any s w hs).mono fun _ w' hh => ⟨hh.1, ?_⟩
  obtain ⟨m, rfl⟩ := hh.2
  exact After.drewN _ _
theorem known_now (w : World) (he : Env w) : Calls Tryd.prog 10 #[] w (lawPost w) := known_true w w he (After.of (Below.refl _ _))

set_option maxRecDepth 100000 in
set_option maxHeartbeats 1000000 in
theorem texts_walk (s : ByteArray) (w : World) (he : Env w) (hs : s.size ≤ maxLen) :
    Calls Tryd.prog 7 #[.string s] w (lawPost w) := by
  have HS := Lib.hid hs
  unfold maxLen at hs
  by_cases h1 : s.size ≤ 600
  · by_cases h2 : 250 < s.size
    · have HT := Lib.hid (text_long s w he HS.out h2)
      go_enter Tryd.func7, Tryd.ntmps7
      go_wp2_with fail
      refine HT.out.mono ?_
      rintro e w1 ⟨rfl, a1⟩
      have A1 := Lib.hid a1; clear a1
      go_wp2_with fail
      refine (one_true ⟨#[]⟩ ⟨#[]⟩ 5 5 _ rfl rfl).mono ?_
      rintro e w2 ⟨rfl, rfl⟩
      go_wp2_with fail
      refine (known_true w _ he A1.out).mono ?_
      rintro e w3 ⟨rfl, hb3⟩
      go_wp2_with fail
      go_ret
      exact ⟨rfl, hb3⟩
    · obtain ⟨x, hx⟩ : ∃ x, textL s.data.toList = x := ⟨_, rfl⟩
      have HT := Lib.hid (text_at s x w he (by omega) hx)
      have HR := Lib.hid (fun W => rtext_at s x W (by omega) hx)
      have h3 : s.size ≤ 250 := by omega
      clear hx h2
      go_enter Tryd.func7, Tryd.ntmps7
      go_wp2_with fail
      refine HT.out.mono ?_
      rintro e w1 ⟨rfl, a1⟩
      have A1 := Lib.hid a1; clear a1
      go_wp2_with fail
      refine (HR.out _).mono ?_
      rintro e w2 ⟨rfl, a2⟩
      have A2 := Lib.hid (A1.out.trans a2); clear a2
      go_wp2_with fail
      refine (one_true ⟨x.toArray⟩ ⟨x.toArray⟩ 0 0 _ rfl rfl).mono ?_
      rintro e w3 ⟨rfl, rfl⟩
      go_wp2_with fail
      refine (known_true w _ he A2.out).mono ?_
      rintro e w3 ⟨rfl, hb3⟩
      go_wp2_with fail
      go_ret
      exact ⟨rfl, hb3⟩
  · have h3 : 600 < s.size := by omega
    clear h1
    go_enter Tryd.func7, Tryd.ntmps7
    go_wp2_with fail
    refine (known_now w he).mono ?_
    rintro e w3 ⟨rfl, hb3⟩
    go_wp2_with fail
    go_ret
    exact ⟨rfl, hb3⟩

set_option maxRecDepth 100000 in
set_option maxHeartbeats 1000000 in
theorem parses_walk (s : ByteArray) (w : World) (he : Env w) (hs : s.size ≤ maxLen) :
    Calls Tryd.prog 8 #[.string s] w (lawPost w) := by
  have HS := Lib.hid hs
  unfold maxLen at hs
  by_cases h1 : s.size ≤ 1000
  · have HR := Lib.hid (rparse_any s w h1)
    cases hp : parseV s.data.toList with
    | none =>
      have hr := rparse_none hp
      have hq := parse_none hp
      have HE := Lib.hid hr
      have HQ := Lib.hid hq
      clear hp hr hq
      go_enter Tryd.func8, Tryd.ntmps8
      go_wp2_with fail
      refine HR.out.mono ?_
      rintro e w1 ⟨rfl, a1⟩
      have A1 := Lib.hid (After.of a1); clear a1
      rw [HE.out.1, HE.out.2]
      go_wp2_with fail
      refine (parses_true s ⟨#[]⟩ 6 _ (env_after he A1.out) HS.out HQ.out.1 HQ.out.2).mono ?_
      rintro e w2 ⟨rfl, a2⟩
      have A2 := Lib.hid (A1.out.trans a2); clear a2
      go_wp2_with fail
      refine (known_true w _ he A2.out).mono ?_
      rintro e w3 ⟨rfl, hb3⟩
      go_wp2_with fail
      go_ret
      exact ⟨rfl, hb3⟩
    | some x =>
      have hr := rparse_some hp
      have hq := parse_some hp
      have HE := Lib.hid hr
      have HQ := Lib.hid hq
      clear hp hr hq
      go_enter Tryd.func8, Tryd.ntmps8
      go_wp2_with fail
      refine HR.out.mono ?_
      rintro e w1 ⟨rfl, a1⟩
      have A1 := Lib.hid (After.of a1); clear a1
      rw [HE.out.1, HE.out.2]
      go_wp2_with fail
      refine (parses_true s ⟨x.toArray⟩ 0 _ (env_after he A1.out) HS.out HQ.out.1 HQ.out.2).mono ?_
      rintro e w2 ⟨rfl, a2⟩
      have A2 := Lib.hid (A1.out.trans a2); clear a2
      go_wp2_with fail
      refine (known_true w _ he A2.out).mono ?_
      rintro e w3 ⟨rfl, hb3⟩
      go_wp2_with fail
      go_ret
      exact ⟨rfl, hb3⟩
  · have h3 : 1000 < s.size := by omega
    clear h1
    go_enter Tryd.func8, Tryd.ntmps8
    go_wp2_with fail
    refine (known_now w he).mono ?_
    rintro e w3 ⟨rfl, hb3⟩
    go_wp2_with fail
    go_ret
    exact ⟨rfl, hb3⟩

/-! ### KeyJoins -/
def sumL (l : List Bs) : Nat := (l.map (·.length)).sum
theorem sum_next {l : List Bs} {k : Nat} (h : k < l.length) : sumL (l.take (k + 1)) = sumL (l.take k) + l[k].length := by
  unfold sumL; rw [List.take_succ_eq_append_getElem h, List.map_append, List.sum_append]; simp only [List.map_cons, List.map_nil, List.sum_cons, List.sum_nil, Nat.add_zero]
theorem sum_mem {l : List Bs} : ∀ x ∈ l, x.length ≤ sumL l := by
  induction l with
  | nil => simp
  | cons y r ih =>
    intro x hx
    unfold sumL at *
    rcases List.mem_cons.1 hx with rfl | hx
    · simp
    · have := ih x hx; simp; omega
theorem sum_bound {l : List Bs} {b : Nat} (h : ∀ x ∈ l, x.length ≤ b) (k : Nat) : sumL (l.take k) ≤ k * b := by
  induction k with
  | zero => simp [sumL]
  | succ k ih =>
    by_cases hk : k < l.length
    · rw [sum_next hk, Nat.succ_mul]; have := h _ (List.getElem_mem hk); omega
    · rw [List.take_of_length_le (by omega)] at *
      rw [Nat.succ_mul]; omega
theorem join_sum (l : List Bs) : (joinL l).length ≤ sumL l + l.length := by
  have h : ∀ k, k ≤ l.length → (joinL (l.take k)).length ≤ sumL (l.take k) + k := by
    intro k
    induction k with
    | zero => intro _; simp [joinL_nil]
    | succ k ih =>
      intro hk
      have := ih (by omega)
      rw [join_take_len (by omega), sum_next (by omega)]
      unfold sepN; split <;> omega
  have := h l.length (Nat.le_refl _)
  rwa [List.take_length] at this

set_option maxRecDepth 100000 in
set_option maxHeartbeats 1000000 in
theorem joins_walk (A : Option Addr) (c : Nat) (l : List Bs) (w : World) (he : Env w) (hA : Rd w A l) (hc : l.length ≤ c) (hcm : c ≤ maxLen) (hx : ∀ x ∈ l, x.length ≤ 140737488351232) :
    Calls Tryd.prog 5 #[.slice A l.length c] w (lawPost w) := by
  have HX := Lib.hid hx; clear hx
  have hcm' := hcm; unfold maxLen at hcm'
  go_enter Tryd.func5, Tryd.ntmps5
  go_wp2_with fail
  go_loop [3, 4] (fun n i => ∃ k : Nat, k ≤ l.length ∧ k ≤ 301 ∧ i = .int .i64 k ∧ n = .int .i64 (sumL (l.take k))) (fun _ i => 301 - (intOf i).toNat)
  case atStart => exact ⟨0, Nat.zero_le _, Nat.zero_le _, rfl, rfl⟩
  case round =>
    obtain ⟨k, hk, hk3, rfl, rfl⟩ := hrel
    have hsb := sum_bound HX.out k
    have hsb' : sumL (l.take k) ≤ 301 * 140737488351232 := Nat.le_trans hsb (Nat.mul_le_mul_right _ hk3)
    clear hsb
    by_cases hlt : k < l.length
    · by_cases h301 : k < 301
      · obtain ⟨b1, o1, rfl, hb1, hc1⟩ := hA.at_ hlt
        have HN := Lib.hid (sum_next hlt)
        have hxl := HX.out _ (List.getElem_mem hlt)
        have i1 : (k : Int) < l.length := by omega
        go_wp2_with fail
        go_round
        case rel => exact ⟨k + 1, by omega, by omega, by go_num, by rw [HN.out]; go_num⟩
        case measure => simp [intOf]; omega
      · obtain rfl : k = 301 := by omega
        have i1 : (300 : Int) < l.length := by omega
        have i2 : (301 : Int) < l.length := by omega
        go_wp2_with fail
        refine (known_now w he).mono ?_
        rintro e w3 ⟨rfl, hb3⟩
        go_wp2_with fail
        go_ret
        exact ⟨rfl, hb3⟩
    · obtain rfl : k = l.length := by omega
      have hnn : ¬ (l.length : Int) < l.length := by omega
      rw [List.take_length]
      rw [List.take_length] at hsb'
      by_cases h300 : 300 < l.length
      · have i1 : (300 : Int) < l.length := by omega
        go_wp2_with fail
        refine (known_now w he).mono ?_
        rintro e w3 ⟨rfl, hb3⟩
        go_wp2_with fail
        go_ret
        exact ⟨rfl, hb3⟩
      · have i1 : ¬ (300 : Int) < l.length := by omega
        by_cases h600 : 600 < sumL l
        · have i2 : (600 : Int) < sumL l := by omega
          go_wp2_with fail
          refine (known_now w he).mono ?_
          rintro e w3 ⟨rfl, hb3⟩
          go_wp2_with fail
          go_ret
          exact ⟨rfl, hb3⟩
        · have i2 : ¬ (600 : Int) < sumL l := by omega
          have hx6 : ∀ x ∈ l, x.length ≤ 600 := fun x hx => by have := sum_mem x hx; omega
          have hjl := join_sum l
          have HJ := Lib.hid (join_any A c l w he hA hc (by omega) (fun x hx => by have := hx6 x hx; omega))
          have HR := Lib.hid (fun W hR => rjoin_any A c l W hR (by omega) hx6 (by omega))
          clear hx6
          go_wp2_with fail
          refine HJ.out.mono ?_
          rintro e w1 ⟨rfl, a1⟩
          have A1 := Lib.hid (After.of a1); clear a1
          go_wp2_with fail
          refine (HR.out _ (A1.out.rd _ _ hA)).mono ?_
          rintro e w2 ⟨rfl, a2⟩
          have A2 := Lib.hid (A1.out.trans (After.of a2)); clear a2
          go_wp2_with fail
          refine (one_true ⟨(joinV l).toArray⟩ ⟨(joinV l).toArray⟩ (joinE l) (joinE l) _ rfl rfl).mono ?_
          rintro e w3 ⟨rfl, rfl⟩
          go_wp2_with fail
          refine (known_true w _ he A2.out).mono ?_
          rintro e w3 ⟨rfl, hb3⟩
          go_wp2_with fail
          go_ret
          exact ⟨rfl, hb3⟩
end Go.Proofs.YtjieiakgikhofaaDoor.Ltexts
