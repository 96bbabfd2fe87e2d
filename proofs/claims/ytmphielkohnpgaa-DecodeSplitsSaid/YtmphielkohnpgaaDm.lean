/- Proves plain facts on frames that come out of bytes one after the other: a decoder as a mathematical object. No program. -/
import Derived.Test.YtmphielkohnpgaaFm
namespace Go.Proofs.Ytmphielkohnpgaa.Dm
open Go.RowKit Vm Fm

theorem getAt_ext : ∀ (l r : Bs) (i acc : Nat), (getAt i acc l).2.2 ≠ 4 → getAt i acc (l ++ r) = getAt i acc l
  | [], _, _, _, h => by simp [getAt] at h
  | c :: l, r, i, acc, h => by
    rw [List.cons_append]
    by_cases hbad : (0 < i ∧ c.toNat = 0) ∨ (i = 9 ∧ 1 < c.toNat)
    · rw [getAt_bad hbad, getAt_bad hbad]
    · by_cases hlt : c.toNat < 128
      · rw [getAt_end hbad hlt, getAt_end hbad hlt]
      · rw [getAt_more hbad hlt] at h
        rw [getAt_more hbad hlt, getAt_more hbad hlt]
        exact getAt_ext l r _ _ h
theorem get_ext {l : Bs} (r : Bs) (h : getE l ≠ 4) : getN (l ++ r) = getN l ∧ getS (l ++ r) = getS l ∧ getE (l ++ r) = getE l := by
  have := getAt_ext l r 0 0 h
  unfold getN getS getE
  rw [this]; exact ⟨rfl, rfl, rfl⟩
/-- The maximum is one that is allowed. -/
def okM (m : Int) : Prop := ¬ (m < 0 ∨ 2097152 < m)
/-- More bytes change nothing of what was read. -/
theorem read_ext {l : Bs} (r : Bs) {m : Int} (hm : okM m) (h : (readV l m).2.2.2 ≠ 4) : readV (l ++ r) m = readV l m := by
  by_cases h1 : getE l = 4
  · rw [read_in hm h1] at h; exact absurd rfl h
  · obtain ⟨g1, g2, g3⟩ := get_ext r h1
    by_cases h2 : getE l = 0
    · by_cases h3 : getN l = 0
      · rw [read_zero hm h2 h3, read_zero hm (by rw [g3]; exact h2) (by rw [g1]; exact h3)]
      · by_cases h4 : m + 1 < (getN l : Int)
        · rw [read_long hm h2 h3 h4, read_long hm (by rw [g3]; exact h2) (by rw [g1]; exact h3) (by rw [g1]; exact h4)]
        · by_cases h5 : l.length - getS l < getN l
          · rw [read_short hm h2 h3 h4 h5] at h; exact absurd rfl h
          · have hs := (get_lt l).2.1
            rw [read_ok hm h2 h3 h4 h5, read_ok hm (by rw [g3]; exact h2) (by rw [g1]; exact h3) (by rw [g1]; exact h4) (by rw [g1, g2, List.length_append]; omega), g1, g2]
            simp only [Prod.mk.injEq, and_true]
            refine ⟨?_, ?_⟩
            · rw [List.getD_eq_getElem?_getD, List.getD_eq_getElem?_getD, List.getElem?_append_left (by omega)]
            · rw [List.drop_append_of_le_length (by omega), List.take_append_of_le_length (by rw [List.length_drop]; omega)]
    · rw [read_no hm h1 h2, read_no hm (by rw [g3]; exact h1) (by rw [g3]; exact h2)]
/-- The errors of a reading. -/
theorem read_errs (l : Bs) {m : Int} (hm : okM m) : ((readV l m).2.2.2 = 0 ∧ 0 < (readV l m).2.2.1 ∧ (readV l m).2.2.1 ≤ l.length ∧ (readV l m).2.1.length ≤ l.length) ∨
    ((readV l m).2.2.2 = 4 ∧ readV l m = (0, [], 0, 4)) ∨ ((readV l m).2.2.2 = 5 ∧ readV l m = (0, [], 0, 5)) ∨ ((readV l m).2.2.2 = 6 ∧ readV l m = (0, [], 0, 6) ∧ 0 < l.length) := by
  by_cases h1 : getE l = 4
  · rw [read_in hm h1]; simp
  · by_cases h2 : getE l = 0
    · have hb := get_has l h2
      have hp := enc_pos (getN l)
      by_cases h3 : getN l = 0
      · rw [read_zero hm h2 h3]; simp; omega
      · by_cases h4 : m + 1 < (getN l : Int)
        · rw [read_long hm h2 h3 h4]; simp
        · by_cases h5 : l.length - getS l < getN l
          · rw [read_short hm h2 h3 h4 h5]; simp
          · rw [read_ok hm h2 h3 h4 h5]; simp; omega
    · rw [read_no hm h1 h2]; simp

/-- A decoder: the bytes that are held, and whether it is closed. -/
structure St where
  held : Bs
  shut : Bool
/-- What a call of Next returns: a code, a payload, an error. -/
abbrev Got := UInt8 × Bs × Nat
def nxG (m : Int) (s : St) : Got := if s.shut then (0, [], 14) else ((readV s.held m).1, (readV s.held m).2.1, (readV s.held m).2.2.2)
def nxS (m : Int) (s : St) : St := if s.shut then s else if (readV s.held m).2.2.2 = 0 then ⟨s.held.drop (readV s.held m).2.2.1, false⟩ else if (readV s.held m).2.2.2 = 6 then ⟨s.held.drop 1, false⟩
  else if (readV s.held m).2.2.2 = 5 then ⟨[], true⟩ else s
def feed (s : St) (b : Bs) : St := if s.shut then s else ⟨s.held ++ b, false⟩
def feedE (s : St) : Nat := if s.shut then 14 else 0
def need (m : Int) (s : St) : Nat := if s.shut then 0 else if (readV s.held m).2.2.2 ≠ 4 then 0 else if getE s.held ≠ 0 then 1 else getS s.held + getN s.held - s.held.length
theorem nxS_len (m : Int) (s : St) : (nxS m s).held.length ≤ s.held.length := by
  unfold nxS
  repeat' split
  all_goals simp
theorem nxG_len (m : Int) (s : St) (hm : okM m) : (nxG m s).2.1.length ≤ s.held.length := by
  unfold nxG
  split
  · simp
  · rcases read_errs s.held hm with ⟨_, _, _, h⟩ | ⟨_, h⟩ | ⟨_, h⟩ | ⟨_, h, _⟩
    · exact h
    all_goals rw [h]; simp
/-- All that comes out of bytes: with so much fuel. -/
def allF (m : Int) : Nat → Bs → List Got
  | 0, _ => []
  | n + 1, l => if (readV l m).2.2.2 = 4 then [] else if (readV l m).2.2.2 = 5 then [(0, [], 5)] else if (readV l m).2.2.2 = 6 then (0, [], 6) :: allF m n (l.drop 1)
    else ((readV l m).1, (readV l m).2.1, 0) :: allF m n (l.drop (readV l m).2.2.1)
def allG (m : Int) (l : Bs) : List Got := allF m (l.length + 1) l
theorem allF_fuel {m : Int} (hm : okM m) : ∀ (n k : Nat) (l : Bs), l.length < n → l.length < k → allF m n l = allF m k l
  | 0, _, _, h, _ => by omega
  | _, 0, _, _, h => by omega
  | n + 1, k + 1, l, h1, h2 => by
    rcases read_errs l hm with ⟨e, hs, hl, _⟩ | ⟨_, e⟩ | ⟨_, e⟩ | ⟨_, e, hl⟩
    · rw [allF, allF, e]
      simp only [Nat.reduceEqDiff, if_false]
      rw [allF_fuel hm n k _ (by rw [List.length_drop]; omega) (by rw [List.length_drop]; omega)]
    · rw [allF, allF, e]; simp
    · rw [allF, allF, e]; simp
    · rw [allF, allF, e]
      simp only [Nat.reduceEqDiff, if_false, if_true]
      rw [allF_fuel hm n k _ (by rw [List.length_drop]; omega) (by rw [List.length_drop]; omega)]
theorem all_len {m : Int} : ∀ (n : Nat) (l : Bs), okM m → l.length < n → (allF m n l).length ≤ l.length + 1
  | 0, _, _, _ => by simp [allF]
  | n + 1, l, hm, h1 => by
    rcases read_errs l hm with ⟨e, hs, hl, _⟩ | ⟨_, e⟩ | ⟨_, e⟩ | ⟨_, e, hl⟩
    · rw [allF, e]
      simp only [Nat.reduceEqDiff, if_false]
      have := all_len n (l.drop (readV l m).2.2.1) hm (by rw [List.length_drop]; omega)
      rw [List.length_drop] at this
      rw [List.length_cons]; omega
    · rw [allF, e]; simp
    · rw [allF, e]; simp
    · rw [allF, e]
      simp only [Nat.reduceEqDiff, if_false, if_true]
      have := all_len n (l.drop 1) hm (by rw [List.length_drop]; omega)
      rw [List.length_drop] at this
      rw [List.length_cons]; omega
theorem allG_len {m : Int} (hm : okM m) (l : Bs) : (allG m l).length ≤ l.length + 1 := all_len _ l hm (by omega)
/-- What is still to come of a decoder to which more bytes will be fed. -/
def tailG (m : Int) (s : St) (r : Bs) : List Got := if s.shut then [] else allG m (s.held ++ r)
theorem tail_feed (m : Int) (s : St) (x r : Bs) : tailG m (feed s x) r = tailG m s (x ++ r) := by
  unfold tailG feed
  cases hs : s.shut
  · simp [List.append_assoc]
  · simp [hs]
theorem tail_take {m : Int} (hm : okM m) (s : St) (r : Bs) (h4 : (nxG m s).2.2 ≠ 4) (h14 : (nxG m s).2.2 ≠ 14) : tailG m s r = nxG m s :: tailG m (nxS m s) r := by
  unfold nxG at h4 h14
  cases hs : s.shut
  · rw [hs] at h4 h14
    simp only [Bool.false_eq_true, if_false] at h4 h14
    have hx := read_ext r hm h4
    unfold tailG nxG nxS allG
    rw [hs]
    simp only [Bool.false_eq_true, if_false]
    rw [allF, hx]
    rcases read_errs s.held hm with ⟨e, h0, hl, _⟩ | ⟨e, _⟩ | ⟨_, e⟩ | ⟨_, e, hl⟩
    · rw [e]
      simp only [Nat.reduceEqDiff, if_false, if_true, Bool.false_eq_true, List.cons.injEq, true_and]
      rw [List.drop_append_of_le_length hl]
      exact allF_fuel hm _ _ _ (by simp only [List.length_append, List.length_drop]; omega) (by omega)
    · exact absurd e h4
    · rw [e]; simp
    · rw [e]
      simp only [Nat.reduceEqDiff, if_false, if_true, Bool.false_eq_true, List.cons.injEq, true_and]
      rw [List.drop_append_of_le_length (by omega)]
      exact allF_fuel hm _ _ _ (by simp only [List.length_append, List.length_drop]; omega) (by omega)
  · rw [hs] at h14; simp at h14
theorem tail_end {m : Int} (s : St) (h : (nxG m s).2.2 = 4 ∨ (nxG m s).2.2 = 14) : tailG m s [] = [] := by
  unfold tailG
  cases hs : s.shut
  · unfold nxG at h
    rw [hs] at h
    simp only [Bool.false_eq_true, if_false] at h ⊢
    rcases h with h | h
    · rw [List.append_nil, allG, allF, if_pos h]
    · exfalso
      unfold readV at h
      repeat' split at h
      all_goals simp at h
  · simp
theorem nx_stays {m : Int} (s : St) (h : (nxG m s).2.2 = 4 ∨ (nxG m s).2.2 = 14) : nxS m s = s := by
  unfold nxG at h
  unfold nxS
  cases hs : s.shut
  · rw [hs] at h
    simp only [Bool.false_eq_true, if_false] at h ⊢
    rcases h with h | h
    · rw [h]; simp
    · rw [h]; simp
  · simp
theorem tail_start (m : Int) (r : Bs) : tailG m ⟨[], false⟩ r = allG m r := by simp [tailG]
theorem got_errs (s : St) {m : Int} (hm : okM m) : (nxG m s).2.2 = 0 ∨ (nxG m s).2.2 = 4 ∨ (nxG m s).2.2 = 5 ∨ (nxG m s).2.2 = 6 ∨ (nxG m s).2.2 = 14 := by
  unfold nxG
  split
  · simp
  · rcases read_errs s.held hm with ⟨e, _⟩ | ⟨_, e⟩ | ⟨_, e⟩ | ⟨_, e, _⟩ <;> simp [e]
/-- A measure that falls with each thing that is taken. -/
def size (s : St) : Nat := 2 * s.held.length + (if s.shut then 0 else 1)
theorem size_take {m : Int} (hm : okM m) (s : St) (h4 : (nxG m s).2.2 ≠ 4) (h14 : (nxG m s).2.2 ≠ 14) : size (nxS m s) < size s := by
  unfold nxG at h4 h14
  unfold size nxS
  cases hs : s.shut
  · rw [hs] at h4
    simp only [Bool.false_eq_true, if_false] at h4 ⊢
    rcases read_errs s.held hm with ⟨e, h0, hl, _⟩ | ⟨e, _⟩ | ⟨_, e⟩ | ⟨_, e, hl⟩
    · rw [e]; simp [List.length_drop]; omega
    · exact absurd e h4
    · rw [e]; simp
    · rw [e]; simp; omega
  · rw [hs] at h14; simp at h14
end Go.Proofs.Ytmphielkohnpgaa.Dm
