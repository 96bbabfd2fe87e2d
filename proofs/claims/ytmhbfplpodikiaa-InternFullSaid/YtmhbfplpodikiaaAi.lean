/- Proves plain facts: names in a list are different, and what this says of their numbers. Conditions: as each theorem names them. -/
import Derived.Test.YtmhbfplpodikiaaAa
namespace Go.Proofs.Ytmhbfplpodikiaa.Ai
open Aa

/-- Names are names, and different. -/
structure Iv (l : List Nr) : Prop where
  ok : ∀ x ∈ l, 0 < x.r → okN x.k
  un : ∀ i j (hi : i < l.length) (hj : j < l.length), 0 < l[i].r → 0 < l[j].r → l[i].k = l[j].k → i = j
theorem iv_nil : Iv [] := ⟨(fun x hx => by cases hx), (fun i _ hi => by simp at hi)⟩
theorem iv_set {l : List Nr} (h : Iv l) {n : Nat} {x : Nr} (hx : 0 < x.r → okN x.k) (hu : 0 < x.r → ∀ j (hj : j < l.length), j ≠ n → 0 < l[j].r → l[j].k ≠ x.k) : Iv (l.set n x) := by
  refine ⟨fun y hy hr => ?_, fun i j hi hj h1 h2 e => ?_⟩
  · rcases List.mem_or_eq_of_mem_set hy with h1 | h1
    · exact h.ok y h1 hr
    · rw [h1] at hr ⊢; exact hx hr
  · rw [List.length_set] at hi hj
    rw [List.getElem_set] at h1 e
    rw [List.getElem_set] at h2 e
    by_cases hni : n = i
    · by_cases hnj : n = j
      · omega
      · rw [if_pos hni] at h1 e
        rw [if_neg hnj] at h2 e
        exact absurd e.symm (hu h1 j hj (fun q => hnj q.symm) h2)
    · by_cases hnj : n = j
      · rw [if_neg hni] at h1 e
        rw [if_pos hnj] at h2 e
        exact absurd e (hu h2 i hi (fun q => hni q.symm) h1)
      · rw [if_neg hni] at h1 e
        rw [if_neg hnj] at h2 e
        exact h.un i j hi hj h1 h2 e
theorem iv_snoc {l : List Nr} (h : Iv l) {x : Nr} (hx : 0 < x.r → okN x.k) (hu : 0 < x.r → ∀ y ∈ l, 0 < y.r → y.k ≠ x.k) : Iv (l ++ [x]) := by
  refine ⟨fun y hy hr => ?_, fun i j hi hj h1 h2 e => ?_⟩
  · rcases List.mem_append.1 hy with h1 | h1
    · exact h.ok y h1 hr
    · rw [List.mem_singleton.1 h1] at hr ⊢; exact hx hr
  · rw [List.length_append, List.length_singleton] at hi hj
    by_cases hil : i < l.length
    · by_cases hjl : j < l.length
      · rw [List.getElem_append_left hil] at h1 e
        rw [List.getElem_append_left hjl] at h2 e
        exact h.un i j hil hjl h1 h2 e
      · obtain rfl : j = l.length := by omega
        rw [List.getElem_append_left hil] at h1 e
        rw [List.getElem_append_right (Nat.le_refl _)] at h2 e
        simp at h2 e
        exact absurd e (hu h2 _ (List.getElem_mem hil) h1)
    · obtain rfl : i = l.length := by omega
      by_cases hjl : j < l.length
      · rw [List.getElem_append_left hjl] at h2 e
        rw [List.getElem_append_right (Nat.le_refl _)] at h1 e
        simp at h1 e
        exact absurd e.symm (hu h1 _ (List.getElem_mem hjl) h2)
      · omega
theorem iv_add {l : List Nr} (h : Iv l) (most : Int) (k : ByteArray) : Iv (addL most l k) := by
  rcases add_cases most l k with ⟨_, _, _, e⟩ | ⟨_, _, _, _, _, e⟩ | ⟨hk, hf, _, _, _, e⟩ | ⟨i, hi, hk, hf, _, _, e⟩
  · rw [e]; exact h
  · rw [e]; exact h
  · rw [e]
    unfold putAt
    split
    · exact iv_set h (fun _ => hk) (fun _ j hj _ hr => fnd_none hf _ (List.getElem_mem hj) hr)
    · exact iv_snoc h (fun _ => hk) (fun _ y hy hr => fnd_none hf y hy hr)
  · rw [e, modify_set hi]
    obtain ⟨_, h1, h2⟩ := fnd_some hf
    exact iv_set h (fun _ => by show okN l[i].k; rw [h2]; exact hk) (fun _ j hj hn hr q => hn (h.un j i hj hi hr h1 q))
theorem iv_rel {l : List Nr} (h : Iv l) (n : Int) : Iv (relL l n) := by
  rcases rel_cases l n with ⟨_, _, _, e⟩ | ⟨i, hi, _, hr, _, ⟨_, _, e⟩ | ⟨_, _, e⟩⟩
  · rw [e]; exact h
  · rw [e]; exact iv_set h (fun q => by simp [zeroN] at q) (fun q => by simp [zeroN] at q)
  · rw [e, modify_set hi]
    exact iv_set h (fun _ => by show okN l[i].k; exact h.ok _ (List.getElem_mem hi) hr) (fun _ j hj hn hr' q => hn (h.un j i hj hi hr' hr q))
/-- A name is found at its number. -/
theorem fnd_own {l : List Nr} (h : Iv l) {i : Nat} (hi : i < l.length) (hr : 0 < l[i].r) : fnd l l[i].k = some i :=
  fnd_at hi (fun j hj hlt q => by have := h.un j i hj hi q.1 hr q.2; omega) ⟨hr, rfl⟩
end Go.Proofs.Ytmhbfplpodikiaa.Ai
