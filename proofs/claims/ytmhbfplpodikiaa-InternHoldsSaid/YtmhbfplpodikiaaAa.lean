/- Proves plain facts on names with numbers and reference counts: what the document's functions say of a list. Conditions: as each theorem names them. -/
import Derived.Test.YtmhbfplpodikiaaNw
namespace Go.Proofs.Ytmhbfplpodikiaa.Aa
open Go.RowKit Ap Mi Nw

/-- A name with its references. -/
structure Nr where
  k : ByteArray
  r : Int
def zeroN : Nr := ⟨⟨#[]⟩, 0⟩
def okN (k : ByteArray) : Prop := 1 ≤ k.size ∧ k.size ≤ 64
instance (k : ByteArray) : Decidable (okN k) := inferInstanceAs (Decidable (_ ∧ _))
def fnd : List Nr → ByteArray → Option Nat
  | [], _ => none
  | x :: l, k => if 0 < x.r ∧ x.k = k then some 0 else (fnd l k).map (· + 1)
theorem fnd_some {l : List Nr} {k : ByteArray} {i : Nat} (h : fnd l k = some i) : ∃ hi : i < l.length, 0 < l[i].r ∧ l[i].k = k := by
  induction l generalizing i with
  | nil => simp [fnd] at h
  | cons x l ih =>
    unfold fnd at h
    split at h
    · rename_i hx
      injection h with h; subst h
      exact ⟨by simp, hx⟩
    · cases hf : fnd l k with
      | none => rw [hf] at h; simp at h
      | some j =>
        rw [hf] at h; simp at h
        subst h
        obtain ⟨hj, h1⟩ := ih hf
        exact ⟨by simpa using hj, by simpa using h1⟩
theorem fnd_none {l : List Nr} {k : ByteArray} (h : fnd l k = none) : ∀ x ∈ l, 0 < x.r → x.k ≠ k := by
  induction l with
  | nil => simp
  | cons x l ih =>
    unfold fnd at h
    split at h
    · cases h
    · rename_i hx
      have h1 : fnd l k = none := by
        cases hf : fnd l k with
        | none => rfl
        | some j => rw [hf] at h; simp at h
      intro y hy hr
      rcases List.mem_cons.1 hy with rfl | hy
      · exact fun e => hx ⟨hr, e⟩
      · exact ih h1 y hy hr
theorem fnd_at {l : List Nr} {k : ByteArray} {K : Nat} (hK : K < l.length) (h : ∀ i (hi : i < l.length), i < K → ¬ (0 < l[i].r ∧ l[i].k = k)) (he : 0 < l[K].r ∧ l[K].k = k) : fnd l k = some K := by
  induction l generalizing K with
  | nil => simp at hK
  | cons x l ih =>
    unfold fnd
    cases K with
    | zero => rw [if_pos (by simpa using he)]
    | succ K =>
      have h0 := h 0 (by simp) (by omega)
      rw [if_neg (by simpa using h0), ih (K := K) (by simpa using hK) (fun i hi hk => by have := h (i + 1) (by simpa using hi) (by omega); simpa using this) (by simpa using he)]
      rfl
theorem fnd_no {l : List Nr} {k : ByteArray} (h : ∀ i (hi : i < l.length), ¬ (0 < l[i].r ∧ l[i].k = k)) : fnd l k = none := by
  cases hf : fnd l k with
  | none => rfl
  | some i => obtain ⟨hi, h1⟩ := fnd_some hf; exact absurd h1 (h i hi)
def fndI (l : List Nr) (k : ByteArray) : Int := match fnd l k with | some i => (i : Int) | none => -1
/-- Whether a name has a number. -/
def has (l : List Nr) (n : Int) : Prop := 0 ≤ n ∧ n < l.length ∧ 0 < (l.getD n.toNat zeroN).r
instance (l : List Nr) (n : Int) : Decidable (has l n) := inferInstanceAs (Decidable (_ ∧ _ ∧ _))
theorem has_nat {l : List Nr} {i : Nat} (hi : i < l.length) : has l (i : Int) ↔ 0 < l[i].r := by
  unfold has
  rw [Int.toNat_natCast, List.getD_eq_getElem?_getD, List.getElem?_eq_getElem hi]
  constructor
  · exact fun h => h.2.2
  · exact fun h => ⟨by omega, by omega, h⟩
theorem has_lt {l : List Nr} {n : Int} (h : has l n) : 0 ≤ n ∧ n.toNat < l.length := ⟨h.1, by have := h.2.1; have := h.1; omega⟩
/-- How many names there are. -/
def cnt (l : List Nr) : Nat := l.countP fun x => decide (0 < x.r)
theorem cnt_le (l : List Nr) : cnt l ≤ l.length := List.countP_le_length
theorem cnt_take {l : List Nr} {K : Nat} (h : K < l.length) : cnt (l.take (K + 1)) = cnt (l.take K) + (if 0 < l[K].r then 1 else 0) := by
  unfold cnt
  rw [List.take_succ_eq_append_getElem h, List.countP_append]
  simp [List.countP_cons]
/-- The lowest number that no name has. -/
def low : List Nr → Nat
  | [] => 0
  | x :: l => if 0 < x.r then low l + 1 else 0
theorem low_le : ∀ (l : List Nr), low l ≤ l.length
  | [] => Nat.le_refl _
  | x :: l => by
    unfold low
    have := low_le l
    split
    · simp only [List.length_cons]; omega
    · exact Nat.zero_le _
theorem low_has : ∀ (l : List Nr) (i : Nat) (hi : i < l.length), i < low l → 0 < l[i].r
  | [], i, hi, _ => by simp at hi
  | x :: l, i, hi, h => by
    unfold low at h
    split at h
    · rename_i hx
      cases i with
      | zero => exact hx
      | succ i => exact low_has l i (by simpa using hi) (by omega)
    · omega
theorem low_no : ∀ (l : List Nr) (h : low l < l.length), ¬ 0 < l[low l].r
  | [], h => by simp at h
  | x :: l, h => by
    by_cases hx : 0 < x.r
    · have e : low (x :: l) = low l + 1 := by show (if 0 < x.r then low l + 1 else 0) = _; rw [if_pos hx]
      simp only [e] at h ⊢
      exact low_no l (by simpa using h)
    · have e : low (x :: l) = 0 := by show (if 0 < x.r then low l + 1 else 0) = _; rw [if_neg hx]
      simp only [e]
      exact hx
/-- A list with a name put to a number. -/
def putAt (l : List Nr) (n : Nat) (x : Nr) : List Nr := if n < l.length then l.set n x else l ++ [x]
def addE (most : Int) (l : List Nr) (k : ByteArray) : Int := if ¬ okN k then 2 else if fnd l k = none ∧ most ≤ (cnt l : Int) then 7 else 0
def addV (most : Int) (l : List Nr) (k : ByteArray) : Int := if addE most l k = 0 then (match fnd l k with | some i => (i : Int) | none => (low l : Int)) else 0
def addL (most : Int) (l : List Nr) (k : ByteArray) : List Nr := if addE most l k = 0 then (match fnd l k with | some i => l.modify i fun x => { x with r := x.r + 1 } | none => putAt l (low l) ⟨k, 1⟩) else l
theorem modify_set {l : List Nr} {i : Nat} (hi : i < l.length) (f : Nr → Nr) : l.modify i f = l.set i (f l[i]) := by
  refine List.ext_getElem (by simp) (fun j h1 h2 => ?_)
  rw [List.getElem_modify, List.getElem_set]
  split
  · rename_i e; subst e; rfl
  · rfl
theorem add_cases (most : Int) (l : List Nr) (k : ByteArray) : (¬ okN k ∧ addE most l k = 2 ∧ addV most l k = 0 ∧ addL most l k = l) ∨ (okN k ∧ fnd l k = none ∧ most ≤ (cnt l : Int) ∧ addE most l k = 7 ∧ addV most l k = 0 ∧ addL most l k = l) ∨ (okN k ∧ fnd l k = none ∧ (cnt l : Int) < most ∧ addE most l k = 0 ∧ addV most l k = (low l : Int) ∧ addL most l k = putAt l (low l) ⟨k, 1⟩) ∨
    (∃ i, i < l.length ∧ okN k ∧ fnd l k = some i ∧ addE most l k = 0 ∧ addV most l k = (i : Int) ∧ addL most l k = l.modify i fun x => { x with r := x.r + 1 }) := by
  by_cases h1 : okN k
  · cases hf : fnd l k with
    | none =>
      by_cases h2 : most ≤ (cnt l : Int)
      · have e : addE most l k = 7 := by unfold addE; rw [if_neg (by simp [h1]), if_pos ⟨hf, h2⟩]
        exact Or.inr (Or.inl ⟨h1, rfl, h2, e, by unfold addV; rw [if_neg (by rw [e]; decide)], by unfold addL; rw [if_neg (by rw [e]; decide)]⟩)
      · have e : addE most l k = 0 := by unfold addE; rw [if_neg (by simp [h1]), if_neg (fun h => h2 h.2)]
        exact Or.inr (Or.inr (Or.inl ⟨h1, rfl, by omega, e, by unfold addV; rw [if_pos e, hf], by unfold addL; rw [if_pos e, hf]⟩))
    | some i =>
      have e : addE most l k = 0 := by unfold addE; rw [if_neg (by simp [h1]), if_neg (fun h => by rw [hf] at h; cases h.1)]
      exact Or.inr (Or.inr (Or.inr ⟨i, (fnd_some hf).1, h1, rfl, e, by unfold addV; rw [if_pos e, hf], by unfold addL; rw [if_pos e, hf]⟩))
  · have e : addE most l k = 2 := by unfold addE; rw [if_pos h1]
    exact Or.inl ⟨h1, e, by unfold addV; rw [if_neg (by rw [e]; decide)], by unfold addL; rw [if_neg (by rw [e]; decide)]⟩
def relE (l : List Nr) (n : Int) : Int := if has l n then 0 else 9
def relB (l : List Nr) (n : Int) : Bool := decide (has l n ∧ (l.getD n.toNat zeroN).r - 1 ≤ 0)
def relL (l : List Nr) (n : Int) : List Nr := if has l n then (if (l.getD n.toNat zeroN).r - 1 ≤ 0 then l.set n.toNat zeroN else l.modify n.toNat fun x => { x with r := x.r - 1 }) else l
theorem rel_cases (l : List Nr) (n : Int) : (¬ has l n ∧ relE l n = 9 ∧ relB l n = false ∧ relL l n = l) ∨ (∃ i, ∃ hi : i < l.length, n = (i : Int) ∧ 0 < l[i].r ∧ relE l n = 0 ∧ ((l[i].r - 1 ≤ 0 ∧ relB l n = true ∧ relL l n = l.set i zeroN) ∨ (0 < l[i].r - 1 ∧ relB l n = false ∧ relL l n = l.modify i fun x => { x with r := x.r - 1 }))) := by
  by_cases h : has l n
  · obtain ⟨h0, hlt⟩ := has_lt h
    have hg : (l.getD n.toNat zeroN) = l[n.toNat] := by rw [List.getD_eq_getElem?_getD, List.getElem?_eq_getElem hlt]; rfl
    refine Or.inr ⟨n.toNat, hlt, by omega, by have := h.2.2; rw [hg] at this; exact this, by unfold relE; rw [if_pos h], ?_⟩
    by_cases h2 : l[n.toNat].r - 1 ≤ 0
    · exact Or.inl ⟨h2, by unfold relB; rw [hg]; exact decide_eq_true ⟨h, h2⟩, by unfold relL; rw [if_pos h, hg, if_pos h2]⟩
    · exact Or.inr ⟨by omega, by unfold relB; rw [hg]; exact decide_eq_false (fun q => h2 q.2), by unfold relL; rw [if_pos h, hg, if_neg h2]⟩
  · exact Or.inl ⟨h, by unfold relE; rw [if_neg h], by unfold relB; exact decide_eq_false (fun q => h q.1), by unfold relL; rw [if_neg h]⟩
/-- Strings in the order of their bytes. -/
def insB (x : ByteArray) : List ByteArray → List ByteArray
  | [] => [x]
  | y :: l => if Op.bytesLess y.toList x.toList then y :: insB x l else x :: y :: l
def sortB (l : List ByteArray) : List ByteArray := l.foldl (fun a x => insB x a) []
theorem insB_at (x : ByteArray) {l : List ByteArray} {K : Nat} (hK : K ≤ l.length) (h : ∀ i (hi : i < l.length), i < K → Op.bytesLess l[i].toList x.toList = true) (hn : ∀ hk : K < l.length, Op.bytesLess l[K].toList x.toList = false) : insB x l = l.take K ++ x :: l.drop K := by
  induction l generalizing K with
  | nil => simp at hK; subst hK; rfl
  | cons y l ih =>
    unfold insB
    cases K with
    | zero =>
      have h1 := hn (by simp)
      simp only [List.getElem_cons_zero] at h1
      rw [h1]; rfl
    | succ K =>
      have h1 := h 0 (by simp) (by omega)
      simp only [List.getElem_cons_zero] at h1
      rw [h1, ih (K := K) (by simpa using hK) (fun i hi hk => by have := h (i + 1) (by simpa using hi) (by omega); simpa using this) (fun hk => by have := hn (by simpa using hk); simpa using this)]
      rfl
theorem insB_len (x : ByteArray) (l : List ByteArray) : (insB x l).length = l.length + 1 := by
  induction l with
  | nil => rfl
  | cons y l ih => unfold insB; split <;> simp [ih]
theorem sortB_snoc (l : List ByteArray) (x : ByteArray) : sortB (l ++ [x]) = insB x (sortB l) := by unfold sortB; rw [List.foldl_append]; rfl
theorem sortB_len (l : List ByteArray) : (sortB l).length = l.length := by
  have h : ∀ (m : List ByteArray) (a : List ByteArray), (m.foldl (fun a x => insB x a) a).length = m.length + a.length := by
    intro m
    induction m with
    | nil => simp
    | cons x m ih => intro a; simp only [List.foldl_cons, List.length_cons]; rw [ih, insB_len]; omega
  have := h l []
  simpa [sortB] using this
def liveL (l : List Nr) : List ByteArray := (l.filter fun x => decide (0 < x.r)).map (·.k)
def namesL (l : List Nr) : List ByteArray := sortB (liveL l)
theorem liveL_take {l : List Nr} {K : Nat} (h : K < l.length) : liveL (l.take (K + 1)) = liveL (l.take K) ++ (if 0 < l[K].r then [l[K].k] else []) := by
  unfold liveL
  rw [List.take_succ_eq_append_getElem h, List.filter_append, List.map_append]
  congr 1
  by_cases hr : 0 < l[K].r <;> simp [hr]
theorem liveL_len (l : List Nr) : (liveL l).length = cnt l := by unfold liveL cnt; rw [List.length_map, List.countP_eq_length_filter]
theorem namesL_len (l : List Nr) : (namesL l).length = cnt l := by unfold namesL; rw [sortB_len, liveL_len]
theorem putAt_len (l : List Nr) (n : Nat) (x : Nr) : l.length ≤ (putAt l n x).length ∧ (putAt l n x).length ≤ l.length + 1 := by
  unfold putAt; split <;> simp
theorem addL_len (most : Int) (l : List Nr) (k : ByteArray) : l.length ≤ (addL most l k).length ∧ (addL most l k).length ≤ l.length + 1 := by
  rcases add_cases most l k with ⟨_, _, _, e⟩ | ⟨_, _, _, _, _, e⟩ | ⟨_, _, _, _, _, e⟩ | ⟨i, hi, _, _, _, _, e⟩
  · rw [e]; omega
  · rw [e]; omega
  · rw [e]; exact putAt_len ..
  · rw [e]; simp
theorem relL_len (l : List Nr) (n : Int) : (relL l n).length = l.length := by
  rcases rel_cases l n with ⟨_, _, _, e⟩ | ⟨i, hi, _, _, _, ⟨_, _, e⟩ | ⟨_, _, e⟩⟩
  · rw [e]
  · rw [e]; simp
  · rw [e]; simp
/-- The references stay small: none is negative. -/
def Fine (M : Int) (l : List Nr) : Prop := ∀ x ∈ l, 0 ≤ x.r ∧ x.r ≤ M ∧ x.k.size ≤ 64
theorem fine_set {M : Int} {l : List Nr} (h : Fine M l) {i : Nat} {x : Nr} (hx : 0 ≤ x.r ∧ x.r ≤ M ∧ x.k.size ≤ 64) : Fine M (l.set i x) := fun y hy => by
  rcases List.mem_or_eq_of_mem_set hy with h1 | h1
  · exact h y h1
  · rw [h1]; exact hx
theorem fine_mono {M M' : Int} {l : List Nr} (h : Fine M l) (hm : M ≤ M') : Fine M' l := fun x hx => by have := h x hx; exact ⟨this.1, by omega, this.2.2⟩
theorem fine_add {M most : Int} {l : List Nr} (h : Fine M l) (hM : 0 ≤ M) (k : ByteArray) : Fine (M + 1) (addL most l k) := by
  have h' := fine_mono h (show M ≤ M + 1 by omega)
  rcases add_cases most l k with ⟨_, _, _, e⟩ | ⟨_, _, _, _, _, e⟩ | ⟨hk, _, _, _, _, e⟩ | ⟨i, hi, _, _, _, _, e⟩
  · rw [e]; exact h'
  · rw [e]; exact h'
  · rw [e]
    unfold putAt
    split
    · exact fine_set h' ⟨by show (0 : Int) ≤ 1; omega, by show (1 : Int) ≤ M + 1; omega, hk.2⟩
    · intro x hx
      rcases List.mem_append.1 hx with h1 | h1
      · exact h' x h1
      · rw [List.mem_singleton.1 h1]; exact ⟨by show (0 : Int) ≤ 1; omega, by show (1 : Int) ≤ M + 1; omega, hk.2⟩
  · rw [e, modify_set hi]
    have h1 := h l[i] (List.getElem_mem hi)
    exact fine_set h' ⟨by show (0 : Int) ≤ l[i].r + 1; omega, by show l[i].r + 1 ≤ M + 1; omega, h1.2.2⟩
theorem fine_rel {M : Int} {l : List Nr} (h : Fine M l) (hM : 0 ≤ M) (n : Int) : Fine M (relL l n) := by
  rcases rel_cases l n with ⟨_, _, _, e⟩ | ⟨i, hi, _, hr, _, ⟨_, _, e⟩ | ⟨h2, _, e⟩⟩
  · rw [e]; exact h
  · rw [e]; exact fine_set h ⟨Int.le_refl 0, hM, by show (0 : Nat) ≤ 64; omega⟩
  · rw [e, modify_set hi]
    have h1 := h l[i] (List.getElem_mem hi)
    exact fine_set h ⟨by show (0 : Int) ≤ l[i].r - 1; omega, by show l[i].r - 1 ≤ M; omega, h1.2.2⟩
end Go.Proofs.Ytmhbfplpodikiaa.Aa
