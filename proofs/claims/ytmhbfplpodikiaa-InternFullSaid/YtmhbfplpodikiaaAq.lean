/- Proves plain facts on a table that holds as many names as it may. Conditions: as each theorem names them. -/
import Derived.Test.YtmhbfplpodikiaaAi
namespace Go.Proofs.Ytmhbfplpodikiaa.Aq
open Aa Ai

def n2 (j : Nat) : ByteArray := ⟨[UInt8.ofNat (j / 256), UInt8.ofNat (j % 256)].toArray⟩
theorem n2_size (j : Nat) : (n2 j).size = 2 := rfl
theorem n2_inj {i j : Nat} (hi : i < 65536) (hj : j < 65536) (h : n2 i = n2 j) : i = j := by
  unfold n2 at h
  have h1 := congrArg ByteArray.data h
  have h2 := congrArg Array.toList h1
  simp only [List.cons.injEq, and_true] at h2
  obtain ⟨h3, h4⟩ := h2
  have e3 := congrArg UInt8.toNat h3
  have e4 := congrArg UInt8.toNat h4
  rw [UInt8.toNat_ofNat', UInt8.toNat_ofNat'] at e3 e4
  omega
abbrev fullL (n : Nat) : List Nr := (List.range n).map fun j => ⟨n2 j, 1⟩
theorem full_len (n : Nat) : (fullL n).length = n := by unfold fullL; simp
theorem full_get {n i : Nat} (h : i < (fullL n).length) : (fullL n)[i] = ⟨n2 i, 1⟩ := by unfold fullL; simp
theorem full_succ (n : Nat) : fullL (n + 1) = fullL n ++ [⟨n2 n, 1⟩] := by unfold fullL; rw [List.range_succ, List.map_append]; rfl
theorem cnt_all {l : List Nr} (h : ∀ x ∈ l, 0 < x.r) : cnt l = l.length := by
  unfold cnt
  rw [List.countP_eq_length]
  intro x hx; simpa using h x hx
theorem low_all : ∀ {l : List Nr} (_ : ∀ x ∈ l, 0 < x.r), low l = l.length
  | [], _ => rfl
  | x :: l, h => by
    show (if 0 < x.r then low l + 1 else 0) = _
    rw [if_pos (h x (by simp)), low_all fun y hy => h y (List.mem_cons_of_mem _ hy)]; rfl
theorem full_pos {n : Nat} : ∀ x ∈ fullL n, 0 < x.r := fun x hx => by
  unfold fullL at hx
  obtain ⟨j, _, rfl⟩ := List.mem_map.1 hx
  show (0 : Int) < 1; omega
theorem full_fine (n : Nat) : Fine 1 (fullL n) := fun x hx => by
  unfold fullL at hx
  obtain ⟨j, _, rfl⟩ := List.mem_map.1 hx
  exact ⟨by show (0 : Int) ≤ 1; omega, Int.le_refl 1, by show (n2 j).size ≤ 64; rw [n2_size]; omega⟩
theorem full_none {n i : Nat} (hn : n ≤ i) (hi : i < 65536) : fnd (fullL n) (n2 i) = none := fnd_no fun j hj q => by
  rw [full_len] at hj
  have h1 := q.2
  rw [full_get] at h1
  have := n2_inj (by omega) hi h1
  omega
theorem full_no4 {n : Nat} {k : ByteArray} (hk : k.size ≠ 2) : fnd (fullL n) k = none := fnd_no fun j hj q => by
  have h1 := q.2
  rw [full_get] at h1
  rw [← h1] at hk
  exact hk (n2_size j)
theorem full_some {n i : Nat} (hn : n ≤ 65536) (hi : i < n) : fnd (fullL n) (n2 i) = some i :=
  fnd_at (by rw [full_len]; exact hi) (fun j hj hlt q => by
    have h1 := q.2
    rw [full_get] at h1
    have := n2_inj (by omega) (by omega) h1
    omega) ⟨full_pos _ (List.getElem_mem _), by rw [full_get]⟩
/-- The next name. -/
theorem full_add {n : Nat} {most : Int} (hn : (n : Int) < most) (hm : most ≤ 65536) : addV most (fullL n) (n2 n) = (n : Int) ∧ addE most (fullL n) (n2 n) = 0 ∧ addL most (fullL n) (n2 n) = fullL (n + 1) := by
  have hc : cnt (fullL n) = n := by rw [cnt_all full_pos, full_len]
  have hlo : low (fullL n) = n := by rw [low_all full_pos, full_len]
  have hf := full_none (n := n) (i := n) (Nat.le_refl _) (by omega)
  rcases add_cases most (fullL n) (n2 n) with ⟨hk, _⟩ | ⟨_, _, h, _⟩ | ⟨_, _, _, e1, e2, e3⟩ | ⟨i, _, _, h, _⟩
  · exact absurd ⟨by rw [n2_size]; omega, by rw [n2_size]; omega⟩ hk
  · rw [hc] at h; omega
  · refine ⟨by rw [e2, hlo], e1, ?_⟩
    rw [e3, hlo]
    unfold putAt
    rw [full_len, if_neg (by omega), full_succ]
  · rw [hf] at h; cases h
def more : ByteArray := ⟨#[109, 111, 114, 101]⟩
theorem more_full {n : Nat} : addV (n : Int) (fullL n) more = 0 ∧ addE (n : Int) (fullL n) more = 7 ∧ addL (n : Int) (fullL n) more = fullL n := by
  have hc : cnt (fullL n) = n := by rw [cnt_all full_pos, full_len]
  rcases add_cases (n : Int) (fullL n) more with ⟨hk, _⟩ | ⟨_, _, _, e1, e2, e3⟩ | ⟨_, _, h, _⟩ | ⟨i, _, _, h, _⟩
  · exact absurd (by decide) hk
  · exact ⟨e2, e1, e3⟩
  · rw [hc] at h; omega
  · rw [full_no4 (by decide)] at h; cases h
abbrev l7 (n : Nat) : List Nr := (fullL n).set 7 ⟨n2 7, 2⟩
theorem add_seven {n : Nat} (hn : 65534 ≤ n) (hm : n ≤ 65536) : addV (n : Int) (fullL n) (n2 7) = 7 ∧ addE (n : Int) (fullL n) (n2 7) = 0 ∧ addL (n : Int) (fullL n) (n2 7) = l7 n := by
  have hf := full_some (n := n) (i := 7) hm (by omega)
  rcases add_cases (n : Int) (fullL n) (n2 7) with ⟨hk, _⟩ | ⟨_, h, _⟩ | ⟨_, h, _⟩ | ⟨i, hi, _, h, e1, e2, e3⟩
  · exact absurd ⟨by rw [n2_size]; omega, by rw [n2_size]; omega⟩ hk
  · rw [hf] at h; cases h
  · rw [hf] at h; cases h
  · rw [hf] at h; injection h with h; subst h
    refine ⟨e2, e1, ?_⟩
    rw [e3, modify_set hi, full_get]; rfl
theorem l7_len (n : Nat) : (l7 n).length = n := by unfold l7; rw [List.length_set, full_len]
theorem l7_pos {n : Nat} : ∀ x ∈ l7 n, 0 < x.r := fun x hx => by
  unfold l7 at hx
  rcases List.mem_or_eq_of_mem_set hx with h | h
  · exact full_pos x h
  · rw [h]; show (0 : Int) < 2; omega
abbrev l9 (n : Nat) : List Nr := (l7 n).set 9 zeroN
theorem rel_nine {n : Nat} (hn : 65534 ≤ n) : relB (l7 n) 9 = true ∧ relE (l7 n) 9 = 0 ∧ relL (l7 n) 9 = l9 n := by
  have h9 : 9 < (l7 n).length := by rw [l7_len]; omega
  have hg : (l7 n)[9] = ⟨n2 9, 1⟩ := by
    unfold l7
    rw [List.getElem_set_ne (by omega), full_get]
  rcases rel_cases (l7 n) 9 with ⟨h, _⟩ | ⟨i, hi, e, _, e1, ⟨h2, e2, e3⟩ | ⟨h2, _⟩⟩
  · exact absurd ((has_nat h9).2 (l7_pos _ (List.getElem_mem h9))) h
  · obtain rfl : i = 9 := by omega
    exact ⟨e2, e1, e3⟩
  · obtain rfl : i = 9 := by omega
    rw [hg] at h2; simp at h2
theorem l9_len (n : Nat) : (l9 n).length = n := by unfold l9; rw [List.length_set, l7_len]
theorem l9_at {n j : Nat} (hj : j < (l9 n).length) (h : j ≠ 9) : 0 < (l9 n)[j].r := by
  unfold l9 at hj ⊢
  rw [List.getElem_set_ne (by omega)]
  exact l7_pos _ (List.getElem_mem _)
theorem l9_nine {n : Nat} (h : 9 < (l9 n).length) : (l9 n)[9].r = 0 := by
  unfold l9
  rw [List.getElem_set_self]; rfl
theorem l9_low {n : Nat} (hn : 65534 ≤ n) : low (l9 n) = 9 := by
  have h9 : 9 < (l9 n).length := by rw [l9_len]; omega
  rcases Nat.lt_trichotomy (low (l9 n)) 9 with h | h | h
  · exact absurd (l9_at (by omega) (by omega)) (low_no (l9 n) (by omega))
  · exact h
  · have := low_has (l9 n) 9 h9 h
    rw [l9_nine h9] at this; omega
theorem cnt_set {l : List Nr} {i : Nat} (hi : i < l.length) (hp : 0 < l[i].r) : cnt (l.set i zeroN) + 1 = cnt l := by
  induction l generalizing i with
  | nil => simp at hi
  | cons x l ih =>
    cases i with
    | zero =>
      have hx : 0 < x.r := hp
      unfold cnt
      rw [List.set_cons_zero, List.countP_cons, List.countP_cons]
      simp [hx, zeroN]
    | succ i =>
      have := ih (i := i) (by simpa using hi) (by simpa using hp)
      unfold cnt at this ⊢
      rw [List.set_cons_succ, List.countP_cons, List.countP_cons]
      omega
theorem l9_cnt {n : Nat} (hn : 65534 ≤ n) : cnt (l9 n) + 1 = n := by
  have h := cnt_set (l := l7 n) (i := 9) (by rw [l7_len]; omega) (l7_pos _ (List.getElem_mem _))
  rw [cnt_all l7_pos, l7_len] at h
  exact h
theorem l9_none {n : Nat} : fnd (l9 n) more = none := fnd_no fun j hj q => by
  have hj9 : j ≠ 9 := fun e => by subst e; have := l9_nine hj; omega
  have h1 := q.2
  unfold l9 at h1 hj
  rw [List.getElem_set_ne (by omega)] at h1
  unfold l7 at h1
  rw [List.length_set, l7_len] at hj
  by_cases h7 : j = 7
  · subst h7
    rw [List.getElem_set_self] at h1
    have := congrArg ByteArray.size h1
    rw [n2_size] at this; exact absurd this (by decide)
  · rw [List.getElem_set_ne (by omega), full_get] at h1
    have := congrArg ByteArray.size h1
    rw [n2_size] at this; exact absurd this (by decide)
abbrev lm (n : Nat) : List Nr := (l9 n).set 9 ⟨more, 1⟩
theorem more_nine {n : Nat} (hn : 65534 ≤ n) : addV (n : Int) (l9 n) more = 9 ∧ addE (n : Int) (l9 n) more = 0 ∧ addL (n : Int) (l9 n) more = lm n := by
  have hc := l9_cnt hn
  rcases add_cases (n : Int) (l9 n) more with ⟨hk, _⟩ | ⟨_, _, h, _⟩ | ⟨_, _, _, e1, e2, e3⟩ | ⟨i, _, _, h, _⟩
  · exact absurd (by decide) hk
  · omega
  · refine ⟨by rw [e2, l9_low hn]; rfl, e1, ?_⟩
    rw [e3, l9_low hn]
    unfold putAt
    rw [if_pos (by rw [l9_len]; omega)]
  · rw [l9_none] at h; cases h
theorem lm_cnt {n : Nat} : cnt (lm n) = n := by
  have hlen : (lm n).length = n := by unfold lm; rw [List.length_set, l9_len]
  rw [cnt_all, hlen]
  intro x hx
  obtain ⟨j, hj, rfl⟩ := List.getElem_of_mem hx
  by_cases h9 : j = 9
  · subst h9
    unfold lm; rw [List.getElem_set_self]; show (0 : Int) < 1; omega
  · unfold lm at hj ⊢
    rw [List.getElem_set_ne (by omega)]
    exact l9_at _ h9
theorem l7_fine (n : Nat) : Fine 2 (l7 n) := fine_set (fine_mono (full_fine n) (by omega)) ⟨by show (0 : Int) ≤ 2; omega, Int.le_refl 2, by rw [n2_size]; omega⟩
theorem l9_fine (n : Nat) : Fine 2 (l9 n) := fine_set (l7_fine n) ⟨Int.le_refl 0, by show (0 : Int) ≤ 2; omega, by decide⟩
end Go.Proofs.Ytmhbfplpodikiaa.Aq
