/- Proves plain facts on tables with open addressing of a size that grows and shrinks: what Put, Set and Del leave. No condition; no program. -/
import Derived.Test.YthabnffmlgppdaaTn
namespace Go.Proofs.Ythabnffmlgppdaa.To
open Tm Tn

section
variable {κ : Type}
/-- A table: H gives the home of a key in so many cells. -/
structure Good (H : Nat → κ → Nat) (c : List (Cell κ)) : Prop where
  hH : ∀ n, 0 < n → ∀ k, H n k < n
  tab : Tab (H c.length) c
  pw : ∃ e, c.length = 8 * 2 ^ e
  hi : 4 * cnt c ≤ 3 * c.length
  few : c.length = 8 ∨ c.length ≤ 8 * cnt c
theorem Good.lo {H : Nat → κ → Nat} {c : List (Cell κ)} (t : Good H c) : 8 ≤ c.length := by
  obtain ⟨e, he⟩ := t.pw
  have := Nat.one_le_two_pow (n := e)
  omega
theorem Good.free {H : Nat → κ → Nat} {c : List (Cell κ)} (t : Good H c) : none ∈ c := free_of_cnt (by have := t.lo; have := t.hi; omega)
theorem good_start {H : Nat → κ → Nat} (hH : ∀ n, 0 < n → ∀ k, H n k < n) : Good H (List.replicate 8 none) := by
  have e : (List.replicate 8 (none : Cell κ)).length = 8 := List.length_replicate
  refine ⟨hH, ?_, ⟨0, by rw [e]⟩, by rw [cnt_none, e]; omega, Or.inl e⟩
  rw [e]; exact tab_empty (hH 8 (by omega))
/-- Room for one more key. -/
def roomT (H : Nat → κ → Nat) (c : List (Cell κ)) : List (Cell κ) := if 3 * c.length < 4 * (cnt c + 1) then sizeC (H (2 * c.length)) (2 * c.length) c else c
def putT (H : Nat → κ → Nat) (c : List (Cell κ)) (k : κ) (x : Nat) : List (Cell κ) := putC (H (roomT H c).length) (roomT H c) k x
def putN (n m : Nat) : Nat := if 3 * n < 4 * (m + 1) then 2 * n else n
theorem room_tab {H : Nat → κ → Nat} {c : List (Cell κ)} (t : Good H c) :
    Tab (H (roomT H c).length) (roomT H c) ∧ (roomT H c).length = putN c.length (cnt c) ∧ cnt (roomT H c) = cnt c ∧ ∀ o, some o ∈ roomT H c ↔ some o ∈ c := by
  unfold roomT putN
  by_cases h : 3 * c.length < 4 * (cnt c + 1)
  · rw [if_pos h, if_pos h]
    have hlo := t.lo
    obtain ⟨a1, a2, a3, a4⟩ := size_tab t.tab (t.hH (2 * c.length) (by omega)) (by have := cnt_le c; omega)
    exact ⟨by rw [a2]; exact a1, a2, a3, a4⟩
  · rw [if_neg h, if_neg h]
    exact ⟨t.tab, rfl, rfl, fun o => Iff.rfl⟩
theorem put_good {H : Nat → κ → Nat} {c : List (Cell κ)} (t : Good H c) {k : κ} (hk : ∀ y, some (k, y) ∉ c) (x : Nat) :
    Good H (putT H c k x) ∧ (putT H c k x).length = putN c.length (cnt c) ∧ cnt (putT H c k x) = cnt c + 1 ∧ ∀ o, some o ∈ putT H c k x ↔ o = (k, x) ∨ some o ∈ c := by
  obtain ⟨r1, r2, r3, r4⟩ := room_tab t
  have hlo := t.lo
  have hh := t.hi
  have hcl := cnt_le c
  have hN : c.length ≤ putN c.length (cnt c) ∧ 4 * (cnt c + 1) ≤ 3 * putN c.length (cnt c) := by unfold putN; split <;> omega
  obtain ⟨p1, p2, p3, p4⟩ := put_tab r1 (free_of_cnt (by omega)) (k := k) (fun y hm => hk y ((r4 _).1 hm)) x
  unfold putT
  have e2 := p2.trans r2
  have e3 : cnt (putC (H (roomT H c).length) (roomT H c) k x) = cnt c + 1 := by rw [p3, r3]
  refine ⟨⟨t.hH, by rw [p2]; exact p1, ?_, by rw [e2, e3]; exact hN.2, ?_⟩, e2, e3, fun o => by rw [p4 o, r4 o]⟩
  · rw [e2]
    obtain ⟨e, he⟩ := t.pw
    unfold putN
    split
    · exact ⟨e + 1, by rw [he, Nat.pow_succ]; omega⟩
    · exact ⟨e, he⟩
  · rw [e2, e3]
    have := t.few
    unfold putN
    split <;> omega
/-- To give a key another number. -/
theorem set_good {H : Nat → κ → Nat} {c : List (Cell κ)} (t : Good H c) {q : Nat} {k : κ} {y : Nat} (hq : c[q]? = some (some (k, y))) (x : Nat) :
    Good H (c.set q (some (k, x))) ∧ (c.set q (some (k, x))).length = c.length ∧ cnt (c.set q (some (k, x))) = cnt c ∧ ∀ (k' : κ) (x' : Nat), some (k', x') ∈ c.set q (some (k, x)) ↔ (k' = k ∧ x' = x) ∨ (k' ≠ k ∧ some (k', x') ∈ c) := by
  have hql := lt_of_some hq
  have hG := get_set c hql (some (k, x))
  have hL : (c.set q (some (k, x))).length = c.length := List.length_set
  have hC := cnt_keep c q (k, x) _ hq
  -- the key of each cell is as it was
  have hK : ∀ (i : Nat) (k' : κ) (x' : Nat), (c.set q (some (k, x)))[i]? = some (some (k', x')) → ∃ y', c[i]? = some (some (k', y')) := fun i k' x' h1 => by
    rw [hG] at h1
    split at h1
    · simp only [Option.some.injEq, Prod.mk.injEq] at h1
      rename_i e
      exact ⟨y, by rw [e, ← h1.1]; exact hq⟩
    · exact ⟨x', h1⟩
  refine ⟨⟨t.hH, ⟨fun k' => by rw [hL]; exact t.tab.home k', fun i j k' x' y' h1 h2 => ?_, fun i k' x' h1 j hj => ?_⟩, by rw [hL]; exact t.pw, by rw [hL, hC]; exact t.hi, by rw [hL, hC]; exact t.few⟩, hL, hC, fun k' x' => ⟨fun hm => ?_, fun hm => ?_⟩⟩
  · obtain ⟨a, ha⟩ := hK i k' x' h1
    obtain ⟨b, hb⟩ := hK j k' y' h2
    exact t.tab.one i j k' a b ha hb
  · rw [hL] at hj ⊢
    obtain ⟨a, ha⟩ := hK i k' x' h1
    rw [hG]
    split
    · exact fun e => by cases e
    · exact t.tab.path i k' a ha j hj
  · obtain ⟨i, hi⟩ := List.mem_iff_getElem?.1 hm
    rw [hG] at hi
    split at hi
    · simp only [Option.some.injEq, Prod.mk.injEq] at hi
      exact Or.inl ⟨hi.1.symm, hi.2.symm⟩
    · rename_i hne
      refine Or.inr ⟨fun e => ?_, List.mem_of_getElem? hi⟩
      subst e
      exact hne (t.tab.one i q k' x' y hi hq)
  · rcases hm with ⟨rfl, rfl⟩ | ⟨hne, hm⟩
    · exact List.mem_of_getElem? (i := q) (by rw [hG, if_pos rfl])
    · obtain ⟨i, hi⟩ := List.mem_iff_getElem?.1 hm
      refine List.mem_of_getElem? (i := i) ?_
      rw [hG, if_neg (fun e => ?_)]
      · exact hi
      · rw [e, hq] at hi
        simp only [Option.some.injEq, Prod.mk.injEq] at hi
        exact hne hi.1.symm
/-- To take out the key in the cell q. -/
def delT (H : Nat → κ → Nat) (c : List (Cell κ)) (q : Nat) : List (Cell κ) :=
  if 8 < c.length ∧ 8 * cnt (delC (H c.length) c q) < c.length then sizeC (H (c.length / 2)) (c.length / 2) (delC (H c.length) c q) else delC (H c.length) c q
/-- The size behind it, with m keys left. -/
def delN (n m : Nat) : Nat := if 8 < n ∧ 8 * m < n then n / 2 else n
theorem del_good {H : Nat → κ → Nat} {c : List (Cell κ)} (t : Good H c) {q : Nat} {k : κ} {x : Nat} (hq : c[q]? = some (some (k, x))) :
    Good H (delT H c q) ∧ (delT H c q).length = delN c.length (cnt c - 1) ∧ cnt (delT H c q) + 1 = cnt c ∧ ∀ (k' : κ) (x' : Nat), some (k', x') ∈ delT H c q ↔ k' ≠ k ∧ some (k', x') ∈ c := by
  obtain ⟨d1, d2, d3, d4⟩ := del_tab t.tab hq t.free
  have hlo := t.lo
  have hh := t.hi
  have hfew := t.few
  obtain ⟨e, he⟩ := t.pw
  obtain ⟨m, hm⟩ : ∃ m, m = cnt (delC (H c.length) c q) := ⟨_, rfl⟩
  have hm1 : cnt c - 1 = m := by omega
  unfold delT delN
  rw [hm1, ← hm]
  by_cases h : 8 < c.length ∧ 8 * m < c.length
  · rw [if_pos h, if_pos h]
    obtain ⟨e', rfl⟩ : ∃ e', e = e' + 1 := ⟨e - 1, by
      rcases Nat.eq_zero_or_pos e with h0 | h0
      · subst h0; simp at he; omega
      · omega⟩
    have hh2 : c.length / 2 = 8 * 2 ^ e' := by rw [he, Nat.pow_succ]; omega
    have h1 := Nat.one_le_two_pow (n := e')
    have he2 : c.length = 2 * (c.length / 2) := by rw [hh2, he, Nat.pow_succ]; omega
    obtain ⟨a1, a2, a3, a4⟩ := size_tab d1 (t.hH (c.length / 2) (by omega)) (by omega)
    exact ⟨⟨t.hH, by rw [a2]; exact a1, ⟨e', by rw [a2, hh2]⟩, by rw [a2, a3]; omega, by rw [a2, a3]; omega⟩, a2, by rw [a3]; omega, fun k' x' => by rw [a4, d4]⟩
  · rw [if_neg h, if_neg h]
    exact ⟨⟨t.hH, by rw [d2]; exact d1, ⟨e, by rw [d2, he]⟩, by rw [d2]; omega, by rw [d2]; omega⟩, d2, d3, d4⟩
/-- The number of a key. -/
theorem num_one {H : Nat → κ → Nat} {c : List (Cell κ)} (t : Good H c) {k : κ} {x y : Nat} (h1 : some (k, x) ∈ c) (h2 : some (k, y) ∈ c) : x = y := by
  obtain ⟨i, hi⟩ := List.mem_iff_getElem?.1 h1
  obtain ⟨j, hj⟩ := List.mem_iff_getElem?.1 h2
  have := t.tab.one i j k x y hi hj
  rw [this, hj] at hi
  simp only [Option.some.injEq, Prod.mk.injEq] at hi
  exact hi.2.symm
end
section
variable {κ : Type} [DecidableEq κ]
/-- A search through all cells from the first on. -/
theorem find_there {H : Nat → κ → Nat} {c : List (Cell κ)} (t : Good H c) {i : Nat} {k : κ} {x : Nat} (hi : c[i]? = some (some (k, x))) : ∀ j, j < i → isK k (c.getD j none) = false := fun j hj => by
  have hil := lt_of_some hi
  rw [List.getD_eq_getElem?_getD, List.getElem?_eq_getElem (by omega)]
  simp only [Option.getD_some]
  cases e : c[j]'(by omega) with
  | none => rfl
  | some ky =>
    obtain ⟨k', y⟩ := ky
    simp only [isK, decide_eq_false_iff_not]
    rintro rfl
    have := t.tab.one j i k' y x (by rw [List.getElem?_eq_getElem (by omega), e]) hi
    omega
theorem find_gone {c : List (Cell κ)} {k : κ} (hk : ∀ y, some (k, y) ∉ c) (j : Nat) : isK k (c.getD j none) = false := by
  rw [List.getD_eq_getElem?_getD]
  cases e : c[j]? with
  | none => rfl
  | some o =>
    cases o with
    | none => rfl
    | some ky =>
      obtain ⟨k', y⟩ := ky
      simp only [Option.getD_some, isK, decide_eq_false_iff_not]
      rintro rfl
      exact hk y (List.mem_of_getElem? e)
end
end Go.Proofs.Ythabnffmlgppdaa.To
