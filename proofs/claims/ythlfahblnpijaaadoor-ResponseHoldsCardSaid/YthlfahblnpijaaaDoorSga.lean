/- Proves that what package response's Valid asks of a response, part by part, is that it is valid. No program. -/
import Derived.Test.YthlfahblnpijaaaDoorSb
namespace Go.Proofs.YthlfahblnpijaaaDoor.Sg
open Go.RowKit Vm Qm Sm Se So Sb

def leastN (nm : Nat) : Nat := if hasB nm 4 then 1 else if hasB nm 8 then 1 else 0
def mostN (nm : Nat) : Nat := if hasB nm 4 then 1 else if hasB nm 8 then 16 else 0
def vItems (nm : Nat) (l : List Itm) : Bool := decide (leastN nm ≤ l.length) && (decide (l.length ≤ mostN nm) && l.all okI)
def validN (nm : Nat) (r : Rsp) : Bool := (decide (r.version = 0) || hasB nm 1) && ((decide (r.count = 0) || (hasB nm 2 && (decide (0 < r.count) && decide (r.count ≤ 1099511627776)))) && ((decide (r.numbers.length = 0) || (hasB nm 16 && decide (r.numbers.length ≤ 64))) && vItems nm r.items))
def validGo (r : Rsp) : Bool := okHead r && validN (setN (bodyK r.op r.err)) r
theorem nm_cases {op err : Int} (h1 : 0 ≤ op) (h2 : op ≤ 15) (h3 : ¬ (op = 0 ∧ err = 0)) :
    (err ≠ 0 ∧ setN (bodyK op err) = 0) ∨ (err = 0 ∧ ((need op = 119 ∧ setN (bodyK op err) = 3) ∨ (need op = 105 ∧ setN (bodyK op err) = 4) ∨ (need op = 109 ∧ setN (bodyK op err) = 8) ∨ (need op = 110 ∧ setN (bodyK op err) = 16) ∨ (need op = 99 ∧ setN (bodyK op err) = 2))) := by
  by_cases he : err = 0
  · refine Or.inr ⟨he, ?_⟩
    subst he
    have h : op = 1 ∨ op = 2 ∨ op = 3 ∨ op = 4 ∨ op = 5 ∨ op = 6 ∨ op = 7 ∨ op = 8 ∨ op = 9 ∨ op = 10 ∨ op = 11 ∨ op = 12 ∨ op = 13 ∨ op = 14 ∨ op = 15 := by omega
    rcases h with rfl | rfl | rfl | rfl | rfl | rfl | rfl | rfl | rfl | rfl | rfl | rfl | rfl | rfl | rfl <;> decide
  · refine Or.inl ⟨he, ?_⟩
    unfold bodyK; rw [if_pos he]; rfl
theorem has_0 : hasB 0 1 = false ∧ hasB 0 2 = false ∧ hasB 0 4 = false ∧ hasB 0 8 = false ∧ hasB 0 16 = false := by decide
theorem has_3 : hasB 3 1 = true ∧ hasB 3 2 = true ∧ hasB 3 4 = false ∧ hasB 3 8 = false ∧ hasB 3 16 = false := by decide
theorem has_4 : hasB 4 1 = false ∧ hasB 4 2 = false ∧ hasB 4 4 = true ∧ hasB 4 8 = false ∧ hasB 4 16 = false := by decide
theorem has_8 : hasB 8 1 = false ∧ hasB 8 2 = false ∧ hasB 8 4 = false ∧ hasB 8 8 = true ∧ hasB 8 16 = false := by decide
theorem has_16 : hasB 16 1 = false ∧ hasB 16 2 = false ∧ hasB 16 4 = false ∧ hasB 16 8 = false ∧ hasB 16 16 = true := by decide
theorem has_2 : hasB 2 1 = false ∧ hasB 2 2 = true ∧ hasB 2 4 = false ∧ hasB 2 8 = false ∧ hasB 2 16 = false := by decide
theorem valid_go (r : Rsp) : validGo r = validS r := by
  unfold validGo validS
  cases hh : okHead r with
  | false => rfl
  | true =>
    have hk := hh
    unfold okHead at hk
    simp only [Bool.and_eq_true, Bool.not_eq_true', Bool.and_eq_false_iff, decide_eq_true_eq, decide_eq_false_iff_not] at hk
    obtain ⟨h1, h2, h3, h4, h5⟩ := hk
    have hn := nm_cases h1 h2 (err := r.err) (by omega)
    rw [Bool.true_and, Bool.true_and, Bool.eq_iff_iff]
    obtain ⟨op, err, items, version, count, numbers⟩ := r
    simp only at hn h1 h2 h3 h4 h5 ⊢
    have eI : (items = []) ↔ items.length = 0 := List.length_eq_zero_iff.symm
    have eN : (numbers = []) ↔ numbers.length = 0 := List.length_eq_zero_iff.symm
    rcases hn with ⟨he, hs⟩ | ⟨he, ⟨q, hs⟩ | ⟨q, hs⟩ | ⟨q, hs⟩ | ⟨q, hs⟩ | ⟨q, hs⟩⟩
    · obtain ⟨a, b, c, d, e⟩ := has_0
      rw [hs]
      simp (decide := true) only [validN, vItems, leastN, mostN, a, b, e, onlyR, okLen, bareR, eqR_iff, Bool.and_eq_true, Bool.or_eq_true, decide_eq_true_eq, he, Rsp.mk.injEq, ne_eq, not_false_eq_true, if_true, if_false]
      try rw [eI]
      try rw [eN]
      clear hs he h1 h2 h3 h4 h5 hh a b c d e eI eN
      generalize items.all okI = z
      generalize items.length = li
      generalize numbers.length = ln
      cases z
      · simp
      · simp
        try omega
    · obtain ⟨a, b, c, d, e⟩ := has_3
      rw [hs]
      simp (decide := true) only [validN, vItems, leastN, mostN, a, b, e, onlyR, okLen, bareR, eqR_iff, Bool.and_eq_true, Bool.or_eq_true, decide_eq_true_eq, he, q, Rsp.mk.injEq, ne_eq, if_true, if_false]
      try rw [eI]
      try rw [eN]
      clear hs he h1 h2 h3 h4 h5 hh a b c d e eI eN
      generalize items.all okI = z
      generalize items.length = li
      generalize numbers.length = ln
      cases z
      · simp
      · simp
        try omega
    · obtain ⟨a, b, c, d, e⟩ := has_4
      rw [hs]
      simp (decide := true) only [validN, vItems, leastN, mostN, a, b, e, onlyR, okLen, bareR, eqR_iff, Bool.and_eq_true, Bool.or_eq_true, decide_eq_true_eq, he, q, Rsp.mk.injEq, ne_eq, if_true, if_false]
      try rw [eI]
      try rw [eN]
      clear hs he h1 h2 h3 h4 h5 hh a b c d e eI eN
      generalize items.all okI = z
      generalize items.length = li
      generalize numbers.length = ln
      cases z
      · simp
      · simp
        try omega
    · obtain ⟨a, b, c, d, e⟩ := has_8
      rw [hs]
      simp (decide := true) only [validN, vItems, leastN, mostN, a, b, e, onlyR, okLen, bareR, eqR_iff, Bool.and_eq_true, Bool.or_eq_true, decide_eq_true_eq, he, q, Rsp.mk.injEq, ne_eq, if_true, if_false]
      try rw [eI]
      try rw [eN]
      clear hs he h1 h2 h3 h4 h5 hh a b c d e eI eN
      generalize items.all okI = z
      generalize items.length = li
      generalize numbers.length = ln
      cases z
      · simp
      · simp
        try omega
    · obtain ⟨a, b, c, d, e⟩ := has_16
      rw [hs]
      simp (decide := true) only [validN, vItems, leastN, mostN, a, b, e, onlyR, okLen, bareR, eqR_iff, Bool.and_eq_true, Bool.or_eq_true, decide_eq_true_eq, he, q, Rsp.mk.injEq, ne_eq, if_false]
      try rw [eI]
      try rw [eN]
      clear hs he h1 h2 h3 h4 h5 hh a b c d e eI eN
      generalize items.all okI = z
      generalize items.length = li
      generalize numbers.length = ln
      cases z
      · simp
      · simp
        try omega
    · obtain ⟨a, b, c, d, e⟩ := has_2
      rw [hs]
      simp (decide := true) only [validN, vItems, leastN, mostN, a, b, e, onlyR, okLen, bareR, eqR_iff, Bool.and_eq_true, Bool.or_eq_true, decide_eq_true_eq, he, q, Rsp.mk.injEq, ne_eq, if_true, if_false]
      try rw [eI]
      try rw [eN]
      clear hs he h1 h2 h3 h4 h5 hh a b c d e eI eN
      generalize items.all okI = z
      generalize items.length = li
      generalize numbers.length = ln
      cases z
      · simp
      · simp
        try omega
end Go.Proofs.YthlfahblnpijaaaDoor.Sg
