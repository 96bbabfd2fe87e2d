/- Proves plain facts for the law InternHolds: a name keeps its number, and numbers are below the greatest number of names. Conditions: as each theorem names them. -/
import Derived.Test.YtmhbfplpodikiaaAi
namespace Go.Proofs.Ytmhbfplpodikiaa.As
open Aa Ai

/-- A list before and behind a call. -/
structure Nxt (l l' : List Nr) : Prop where
  keep : ∀ i (hi : i < l.length), 0 < l[i].r → ∃ hi' : i < l'.length, (l'[i].k = l[i].k ∧ 0 < l'[i].r) ∨ (l'[i].r = 0 ∧ ∀ j (hj : j < l'.length), j ≠ i → 0 < l'[j].r → l'[j].k ≠ l[i].k)
theorem nxt_refl {l : List Nr} : Nxt l l := ⟨fun _ hi hr => ⟨hi, Or.inl ⟨rfl, hr⟩⟩⟩
theorem nxt_add {l : List Nr} (most : Int) (k : ByteArray) : Nxt l (addL most l k) := by
  rcases add_cases most l k with ⟨_, _, _, e⟩ | ⟨_, _, _, _, _, e⟩ | ⟨_, _, _, _, _, e⟩ | ⟨i, hi, _, _, _, _, e⟩
  · rw [e]; exact nxt_refl
  · rw [e]; exact nxt_refl
  · rw [e]
    unfold putAt
    split
    · rename_i hlo
      refine ⟨fun i hi hr => ⟨by rw [List.length_set]; exact hi, Or.inl ?_⟩⟩
      have hne : low l ≠ i := fun q => by subst q; exact low_no l hlo hr
      rw [List.getElem_set_ne hne]
      exact ⟨rfl, hr⟩
    · refine ⟨fun i hi hr => ⟨by rw [List.length_append]; omega, Or.inl ?_⟩⟩
      rw [List.getElem_append_left hi]
      exact ⟨rfl, hr⟩
  · rw [e, modify_set hi]
    refine ⟨fun j hj hr => ⟨by rw [List.length_set]; exact hj, Or.inl ?_⟩⟩
    rw [List.getElem_set]
    split
    · rename_i q; subst q; exact ⟨rfl, by show 0 < l[i].r + 1; omega⟩
    · exact ⟨rfl, hr⟩
theorem nxt_rel {l : List Nr} (h : Iv l) (n : Int) : Nxt l (relL l n) := by
  rcases rel_cases l n with ⟨_, _, _, e⟩ | ⟨i, hi, _, hr, _, ⟨_, _, e⟩ | ⟨h2, _, e⟩⟩
  · rw [e]; exact nxt_refl
  · rw [e]
    refine ⟨fun j hj hrj => ⟨by rw [List.length_set]; exact hj, ?_⟩⟩
    by_cases q : i = j
    · subst q
      refine Or.inr ⟨by rw [List.getElem_set_self]; rfl, fun m hm hmj hrm e2 => ?_⟩
      rw [List.length_set] at hm
      rw [List.getElem_set_ne (fun q => hmj q.symm)] at hrm e2
      exact hmj (h.un m i hm hi hrm hr e2)
    · exact Or.inl ⟨by rw [List.getElem_set_ne q], by rw [List.getElem_set_ne q]; exact hrj⟩
  · rw [e, modify_set hi]
    refine ⟨fun j hj hrj => ⟨by rw [List.length_set]; exact hj, Or.inl ?_⟩⟩
    rw [List.getElem_set]
    split
    · rename_i q; subst q; exact ⟨rfl, h2⟩
    · exact ⟨rfl, hrj⟩
/-- A name that is there before and behind has the same number. -/
theorem nxt_same {l l' : List Nr} (h : Nxt l l') (h' : Iv l') {x : ByteArray} {i j : Nat} (hi : fnd l x = some i) (hj : fnd l' x = some j) : i = j := by
  obtain ⟨h1, h2, h3⟩ := fnd_some hi
  obtain ⟨h4, h5, h6⟩ := fnd_some hj
  obtain ⟨h7, h8⟩ := h.keep i h1 h2
  rcases h8 with ⟨h9, h10⟩ | ⟨h9, h10⟩
  · exact h'.un i j h7 h4 h10 h5 (by rw [h9, h3, h6])
  · by_cases q : j = i
    · exact q.symm
    · exact absurd (by rw [h6, h3]) (h10 j h4 q h5)
theorem bool_mem {x : ByteArray} {l : List Nr} (h : x ∈ liveL l) : ∃ i, ∃ hi : i < l.length, 0 < l[i].r ∧ l[i].k = x := by
  unfold liveL at h
  obtain ⟨y, hy, rfl⟩ := List.mem_map.1 h
  obtain ⟨h1, h2⟩ := List.mem_filter.1 hy
  obtain ⟨i, hi, rfl⟩ := List.getElem_of_mem h1
  exact ⟨i, hi, by simpa using h2, rfl⟩
theorem insB_mem {x z : ByteArray} {l : List ByteArray} (h : z ∈ insB x l) : z = x ∨ z ∈ l := by
  induction l with
  | nil => simpa [insB] using h
  | cons y l ih =>
    unfold insB at h
    split at h
    · rcases List.mem_cons.1 h with h | h
      · exact Or.inr (by rw [h]; simp)
      · rcases ih h with h | h
        · exact Or.inl h
        · exact Or.inr (List.mem_cons_of_mem _ h)
    · rcases List.mem_cons.1 h with h | h
      · exact Or.inl h
      · exact Or.inr h
theorem sortB_mem {z : ByteArray} {l : List ByteArray} (h : z ∈ sortB l) : z ∈ l := by
  have H : ∀ (m a : List ByteArray), z ∈ m.foldl (fun a x => insB x a) a → z ∈ m ∨ z ∈ a := by
    intro m
    induction m with
    | nil => intro a h; exact Or.inr h
    | cons x m ih =>
      intro a h
      rcases ih _ h with h | h
      · exact Or.inl (List.mem_cons_of_mem _ h)
      · rcases insB_mem h with h | h
        · exact Or.inl (by rw [h]; simp)
        · exact Or.inr h
  rcases H l [] h with h | h
  · exact h
  · cases h
theorem name_fnd {l : List Nr} (h : Iv l) {x : ByteArray} (hx : x ∈ namesL l) : ∃ i, ∃ hi : i < l.length, 0 < l[i].r ∧ l[i].k = x ∧ fnd l x = some i ∧ okN x := by
  obtain ⟨i, hi, hr, rfl⟩ := bool_mem (sortB_mem hx)
  exact ⟨i, hi, hr, rfl, fnd_own h hi hr, h.ok _ (List.getElem_mem hi) hr⟩
theorem low_full {l : List Nr} (h : ¬ low l < l.length) : ∀ x ∈ l, 0 < x.r := fun x hx => by
  obtain ⟨i, hi, rfl⟩ := List.getElem_of_mem hx
  exact low_has l i hi (by omega)
theorem cnt_pos {l : List Nr} (h : ∀ x ∈ l, 0 < x.r) : cnt l = l.length := by
  unfold cnt
  rw [List.countP_eq_length]
  intro x hx; simpa using h x hx
/-- All numbers are below the greatest number of names. -/
theorem len_add {l : List Nr} {b : Nat} (h : l.length ≤ b) (most : Int) (k : ByteArray) : (addL most l k).length ≤ max b (cnt (addL most l k)) := by
  rcases add_cases most l k with ⟨_, _, _, e⟩ | ⟨_, _, _, _, _, e⟩ | ⟨_, _, _, _, _, e⟩ | ⟨i, hi, _, _, _, _, e⟩
  · rw [e]; omega
  · rw [e]; omega
  · rw [e]
    unfold putAt
    split
    · rw [List.length_set]; omega
    · rename_i hlo
      have hc : cnt (l ++ [(⟨k, 1⟩ : Nr)]) = (l ++ [(⟨k, 1⟩ : Nr)]).length := cnt_pos fun x hx => by
        rcases List.mem_append.1 hx with h1 | h1
        · exact low_full hlo x h1
        · rw [List.mem_singleton.1 h1]; show (0 : Int) < 1; omega
      rw [hc]; omega
  · rw [e]; simp; omega
theorem len_rel {l : List Nr} {b : Nat} (h : l.length ≤ b) (n : Int) : (relL l n).length ≤ max b (cnt (relL l n)) := by rw [relL_len]; omega
end Go.Proofs.Ytmhbfplpodikiaa.As
