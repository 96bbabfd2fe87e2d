/- Proves plain facts about lists of slots in the order of a binary heap: what stands at its first place, what becomes of it when two change places, when one is put in, moved or taken out, and that a slot that is moved up or down comes to where it belongs. No condition. -/
import Derived.Test.YtpalbccoiejmoaaYc
namespace Go.Proofs.Ytpalbccoiejmoaa.Zm
open Ya Yb Yc

/-- What stands at a place. -/
def A (Q : List Td) (k : Nat) : Td := Q.getD k (0, 0)
theorem A_get {Q : List Td} {k : Nat} (h : k < Q.length) : A Q k = Q[k] := by unfold A; simp [h]
theorem A_mem {Q : List Td} {k : Nat} (h : k < Q.length) : A Q k ∈ Q := by rw [A_get h]; exact List.getElem_mem h
theorem A_set {Q : List Td} {i k : Nat} {y : Td} (hi : i < Q.length) : A (Q.set i y) k = if k = i then y else A Q k := by
  unfold A
  simp only [List.getD_eq_getElem?_getD, List.getElem?_set]
  by_cases h : k = i
  · subst h; simp [hi]
  · rw [if_neg (fun e => h e.symm), if_neg h]
theorem A_take {Q : List Td} {n k : Nat} (hk : k < n) : A (Q.take n) k = A Q k := by
  unfold A
  simp only [List.getD_eq_getElem?_getD, List.getElem?_take, if_pos hk]
theorem A_app {Q : List Td} {k : Nat} {x : Td} (h : k < Q.length) : A (Q ++ [x]) k = A Q k := by
  unfold A
  simp only [List.getD_eq_getElem?_getD, List.getElem?_append_left h]
theorem A_last {Q : List Td} {x : Td} : A (Q ++ [x]) Q.length = x := by
  unfold A
  simp
/-- Above. -/
def par (k : Nat) : Nat := (k - 1) / 2
theorem par_lt {k : Nat} (h : 0 < k) : par k < k := by unfold par; omega
/-- No one comes before the one above it. -/
def HeapQ (Q : List Td) : Prop := ∀ j, 0 < j → j < Q.length → ¬ bf (A Q j) (A Q (par j))
/-- The same but at place i. -/
structure Hole (Q : List Td) (i : Nat) : Prop where
  rest : ∀ j, 0 < j → j < Q.length → j ≠ i → par j ≠ i → ¬ bf (A Q j) (A Q (par j))
  over : 0 < i → ∀ j, 0 < j → j < Q.length → par j = i → ¬ bf (A Q j) (A Q (par i))
theorem le_trans {x y z : Td} (h : ¬ bf y x) (k : ¬ bf z y) : ¬ bf z x := by unfold bf at *; omega
theorem le_lt {x y z : Td} (h : ¬ bf y x) (k : bf y z) : ¬ bf z x := by unfold bf at *; omega
theorem lt_not {x y : Td} (h : bf x y) : ¬ bf y x := by unfold bf at *; omega
theorem HeapQ.nil : HeapQ [] := fun j _ h => by simp at h
theorem HeapQ.min {Q : List Td} (h : HeapQ Q) : ∀ k, k < Q.length → ¬ bf (A Q k) (A Q 0)
  | 0, _ => bf_irr _
  | k + 1, hk => by
    have hp := par_lt (show 0 < k + 1 by omega)
    exact le_trans (HeapQ.min h (par (k + 1)) (by omega)) (h (k + 1) (by omega) hk)
termination_by k => k
theorem HeapQ.take {Q : List Td} (h : HeapQ Q) (n : Nat) : HeapQ (Q.take n) := fun j h0 hj => by
  rw [List.length_take] at hj
  have := par_lt h0
  rw [A_take (by omega), A_take (by omega)]
  exact h j h0 (by omega)
theorem HeapQ.hole {Q : List Td} (h : HeapQ Q) {i : Nat} (hi : i < Q.length) (y : Td) : Hole (Q.set i y) i where
  rest j h0 hj h1 h2 := by
    rw [List.length_set] at hj
    rw [A_set hi, A_set hi, if_neg h1, if_neg h2]
    exact h j h0 hj
  over hi0 j h0 hj h1 := by
    rw [List.length_set] at hj
    have h2 := par_lt h0
    have h3 := par_lt hi0
    rw [A_set hi, A_set hi, if_neg (by omega), if_neg (by omega)]
    have k1 := h j h0 hj
    rw [h1] at k1
    exact le_trans (h i hi0 hi) k1
theorem Hole.take {Q : List Td} {i n : Nat} (h : Hole Q i) (hi : i < n) : Hole (Q.take n) i where
  rest j h0 hj h1 h2 := by
    rw [List.length_take] at hj
    have := par_lt h0
    rw [A_take (by omega), A_take (by omega)]
    exact h.rest j h0 (by omega) h1 h2
  over hi0 j h0 hj h1 := by
    rw [List.length_take] at hj
    have := par_lt h0
    have := par_lt hi0
    rw [A_take (by omega), A_take (by omega)]
    exact h.over hi0 j h0 (by omega) h1
theorem HeapQ.push {Q : List Td} (h : HeapQ Q) (x : Td) : Hole (Q ++ [x]) Q.length where
  rest j h0 hj h1 h2 := by
    rw [List.length_append, List.length_singleton] at hj
    have := par_lt h0
    rw [A_app (by omega), A_app (by omega)]
    exact h j h0 (by omega)
  over hi0 j h0 hj h1 := by
    rw [List.length_append, List.length_singleton] at hj
    have := par_lt h0
    omega
/-- Two change places. -/
def swp (Q : List Td) (i j : Nat) : List Td := (Q.set i (A Q j)).set j (A Q i)
theorem swp_len (Q : List Td) (i j : Nat) : (swp Q i j).length = Q.length := by unfold swp; simp
theorem swp_at {Q : List Td} {i j k : Nat} (hi : i < Q.length) (hj : j < Q.length) : A (swp Q i j) k = if k = j then A Q i else if k = i then A Q j else A Q k := by
  unfold swp
  rw [A_set (by rw [List.length_set]; exact hj), A_set hi]
theorem swp_perm {Q : List Td} {i j : Nat} (hi : i < Q.length) (hj : j < Q.length) : (swp Q i j).Perm Q := by
  unfold swp
  rw [A_get hi, A_get hj]
  exact List.set_set_perm hi hj
theorem Hole.up {Q : List Td} {i : Nat} (h : Hole Q i) (hi : i < Q.length) (h0 : 0 < i) : Hole (swp Q i (par i)) (par i) := by
  have hp := par_lt h0
  have hpl : par i < Q.length := by omega
  refine ⟨fun j j0 hj j1 j2 => ?_, fun p0 j j0 hj j1 => ?_⟩
  · rw [swp_len] at hj
    rw [swp_at hi hpl, swp_at hi hpl, if_neg j1, if_neg j2]
    have e : j ≠ i := fun e => j2 (by rw [e])
    rw [if_neg e]
    by_cases e2 : par j = i
    · rw [if_pos e2]
      exact h.over h0 j j0 hj e2
    · rw [if_neg e2]; exact h.rest j j0 hj e e2
  · rw [swp_len] at hj
    have hpp := par_lt p0
    have jp := par_lt j0
    rw [swp_at hi hpl, swp_at hi hpl, if_neg (show ¬ j = par i by omega), if_neg (show ¬ par (par i) = par i by omega), if_neg (show ¬ par (par i) = i by omega)]
    have k1 := h.rest (par i) p0 hpl (by omega) (by omega)
    by_cases e : j = i
    · rw [if_pos e]; exact k1
    · rw [if_neg e]
      have k2 := h.rest j j0 hj e (by omega)
      rw [j1] at k2
      exact le_trans k1 k2
theorem Hole.down {Q : List Td} {i c : Nat} (h : Hole Q i) (hi : i < Q.length) (c0 : 0 < c) (hc : c < Q.length) (hpc : par c = i) (hb : bf (A Q c) (A Q i)) (hm : ∀ d, 0 < d → d < Q.length → par d = i → ¬ bf (A Q d) (A Q c)) : Hole (swp Q i c) c := by
  have hlt := par_lt c0
  refine ⟨fun j j0 hj j1 j2 => ?_, fun _ j j0 hj j1 => ?_⟩
  · rw [swp_len] at hj
    have jp := par_lt j0
    rw [swp_at hi hc, swp_at hi hc, if_neg j1, if_neg j2]
    by_cases e2 : par j = i
    · rw [if_pos e2, if_neg (show ¬ j = i by omega)]
      exact hm j j0 hj e2
    · rw [if_neg e2]
      by_cases e : j = i
      · subst e
        rw [if_pos rfl]
        exact h.over j0 c c0 hc hpc
      · rw [if_neg e]; exact h.rest j j0 hj e e2
  · rw [swp_len] at hj
    have jp := par_lt j0
    rw [swp_at hi hc, swp_at hi hc, if_neg (show ¬ j = c by omega), if_neg (show ¬ j = i by omega), if_neg (show ¬ par c = c by omega), if_pos hpc]
    have := h.rest j j0 hj (by omega) (by omega)
    rw [j1] at this
    exact this
theorem Hole.done {Q : List Td} {i : Nat} (h : Hole Q i) (hu : 0 < i → ¬ bf (A Q i) (A Q (par i))) (hd : ∀ d, 0 < d → d < Q.length → par d = i → ¬ bf (A Q d) (A Q i)) : HeapQ Q := fun j j0 hj => by
  by_cases e : j = i
  · subst e; exact hu j0
  · by_cases e2 : par j = i
    · rw [e2]; exact hd j j0 hj e2
    · exact h.rest j j0 hj e e2
/-- How far one still goes: up, then down. -/
def mu (Q : List Td) (i : Nat) : Nat := if bf (A Q i) (A Q (par i)) then Q.length + 1 + i else Q.length - i
theorem mu_up {Q : List Td} {i : Nat} (h0 : 0 < i) (hb : bf (A Q i) (A Q (par i))) : mu (swp Q i (par i)) (par i) < mu Q i := by
  have hp := par_lt h0
  unfold mu
  rw [if_pos hb, swp_len]
  split <;> omega
theorem mu_down {Q : List Td} {i c : Nat} (hi : i < Q.length) (c0 : 0 < c) (hc : c < Q.length) (hpc : par c = i) (hn : ¬ bf (A Q i) (A Q (par i))) (hb : bf (A Q c) (A Q i)) : mu (swp Q i c) c < mu Q i := by
  have hlt := par_lt c0
  unfold mu
  rw [if_neg hn, swp_len, if_neg, hpc.symm]
  · omega
  · rw [swp_at hi hc, swp_at hi hc, if_pos rfl, if_neg (show ¬ par c = c by omega), if_pos hpc]
    exact lt_not hb
/-- Where each one stands. -/
def Plc (f : Int → Int) (Q : List Td) : Prop := ∀ k, k < Q.length → f (A Q k).1 = (k : Int)
def PlcX (f : Int → Int) (Q : List Td) (i : Nat) : Prop := ∀ k, k < Q.length → k ≠ i → f (A Q k).1 = (k : Int)
theorem nd_at {Q : List Td} (hd : (ns Q).Nodup) {j k : Nat} (hj : j < Q.length) (hk : k < Q.length) (e : (A Q j).1 = (A Q k).1) : j = k := by
  rw [A_get hj, A_get hk] at e
  have hj' : j < (ns Q).length := by rw [ns_len]; exact hj
  have hk' : k < (ns Q).length := by rw [ns_len]; exact hk
  have h1 : (ns Q)[j] = (ns Q)[k] := by rw [ns_get hj', ns_get hk']; exact e
  exact (List.getElem_inj hd).1 h1
theorem ns_perm {Q R : List Td} (h : Q.Perm R) : (ns Q).Perm (ns R) := h.map _
theorem ns_nd {Q R : List Td} (h : Q.Perm R) (hd : (ns R).Nodup) : (ns Q).Nodup := (ns_perm h).nodup_iff.2 hd
theorem ns_mem {Q R : List Td} (h : Q.Perm R) (n : Int) : n ∈ ns Q ↔ n ∈ ns R := (ns_perm h).mem_iff
theorem A_ns {Q : List Td} {k : Nat} (h : k < Q.length) : (A Q k).1 ∈ ns Q := mem_ns.2 ⟨_, A_mem h, rfl⟩
theorem ns_A {Q : List Td} {n : Int} (h : n ∈ ns Q) : ∃ k, k < Q.length ∧ (A Q k).1 = n := by
  obtain ⟨x, hx, e⟩ := mem_ns.1 h
  obtain ⟨k, hk, ek⟩ := List.getElem_of_mem hx
  exact ⟨k, hk, by rw [A_get hk, ek]; exact e⟩
/-- One that has been moved, beside the others. -/
theorem set_perm {Q : List Td} {i : Nat} {n : Int} (hd : (ns Q).Nodup) (hi : i < Q.length) (e : (A Q i).1 = n) (y : Td) : (Q.set i y).Perm (y :: wo Q n) := by
  rw [A_get hi] at e
  rw [List.set_eq_take_append_cons_drop, if_pos hi, ← erase_wo hd hi e]
  exact List.perm_middle
theorem wo_perm {Q R : List Td} (h : Q.Perm R) (n : Int) : (wo Q n).Perm (wo R n) := h.filter _
/-- The last one comes to the place of one that is taken out. -/
def cutQ (Q : List Td) (i : Nat) : List Td := (Q.set i (A Q (Q.length - 1))).take (Q.length - 1)
theorem cutQ_len {Q : List Td} (i : Nat) : (cutQ Q i).length = Q.length - 1 := by unfold cutQ; rw [List.length_take, List.length_set]; omega
theorem cutQ_at {Q : List Td} {i k : Nat} (hi : i < Q.length) (hk : k < Q.length - 1) : A (cutQ Q i) k = if k = i then A Q (Q.length - 1) else A Q k := by
  unfold cutQ; rw [A_take hk, A_set hi]
theorem cutQ_perm {Q : List Td} {i : Nat} {n : Int} (hd : (ns Q).Nodup) (hi : i < Q.length) (e : (A Q i).1 = n) : (cutQ Q i).Perm (wo Q n) := by
  obtain ⟨R, z, rfl⟩ : ∃ R z, Q = R ++ [z] := by
    refine ⟨Q.dropLast, Q.getLast (fun h => by subst h; simp at hi), (List.dropLast_concat_getLast _).symm⟩
  have hl : (R ++ [z]).length - 1 = R.length := by simp
  rw [A_get hi] at e
  unfold cutQ
  rw [hl, A_last, ← erase_wo hd hi e]
  rw [List.length_append, List.length_singleton] at hi
  rcases Nat.lt_or_ge i R.length with h1 | h1
  · rw [List.set_append_left _ _ h1, List.take_left' (by simp), List.set_eq_take_append_cons_drop, if_pos h1, List.take_append_of_le_length (by omega), List.drop_append_of_le_length (by omega), ← List.append_assoc]
    exact List.perm_middle.trans (List.perm_append_singleton z _).symm
  · obtain rfl : i = R.length := by omega
    rw [List.set_append_right _ _ (Nat.le_refl _), List.take_left' rfl, List.take_left' rfl, List.drop_of_length_le (by simp), List.append_nil]
theorem HeapQ.cut {Q : List Td} (h : HeapQ Q) {i : Nat} (hi : i < Q.length - 1) : Hole (cutQ Q i) i := (h.hole (by omega) _).take hi
theorem cut_last {Q : List Td} {i : Nat} (hi : i = Q.length - 1) : cutQ Q i = Q.take i := by
  unfold cutQ
  subst hi
  rw [List.take_set_of_le (Nat.le_refl _)]
/-- A heap's first one is the first one in order. -/
theorem heap_head {Q L : List Td} (h : HeapQ Q) (hp : Q.Perm L) (hs : L.Pairwise bf) (h0 : 0 < Q.length) : ∃ x r, L = x :: r ∧ A Q 0 = x := by
  cases L with
  | nil => have := hp.length_eq; rw [List.length_nil] at this; omega
  | cons x r =>
    refine ⟨x, r, rfl, ?_⟩
    obtain ⟨p1, p2⟩ := List.pairwise_cons.1 hs
    have hm := hp.mem_iff.1 (A_mem h0)
    rcases List.mem_cons.1 hm with e | e
    · exact e
    · have h1 := p1 _ e
      obtain ⟨k, hk, ek⟩ := List.getElem_of_mem (hp.mem_iff.2 (List.mem_cons_self (a := x) (l := r)))
      have := h.min k hk
      rw [A_get hk, ek] at this
      exact absurd h1 this
/-- In order there is one list only. -/
theorem order_one {L M : List Td} (hp : L.Perm M) (h1 : L.Pairwise bf) (h2 : M.Pairwise bf) : L = M := sorted_unique h1 h2 fun _ => hp.mem_iff
end Go.Proofs.Ytpalbccoiejmoaa.Zm
