/- Proves plain facts on taking all slots of an arena and freeing them in some order, round after round. No condition; no program. -/
import Derived.Test.YtighehonkookhaaNm
namespace Go.Proofs.Ytighehonkookhaa.Ny
open Go.RowKit Nm

/-- Taking as often as the list is long returns its numbers, each with the generation that the counts say next, and then all M slots are taken, with these generations. -/
def Ready (M : Nat) : St → List Nat → List Nat → Prop
  | s, L, [] => s.fr = [] ∧ s.gens = L ∧ L.length = M ∧ s.tk = List.replicate M true
  | s, L, n :: r => (n < L.length ∧ L.length = M) ∧ tkN M s = (n : Int) ∧ tkG M s = ((L.getD n 0 + 1 : Nat) : Int) ∧ tkE M s = 0 ∧ Ready M (tkS M s) (L.set n (L.getD n 0 + 1)) r
theorem tkG_le {M G : Nat} {s : St} (h : Inv M G s) (hG : 1 ≤ G) : tkG M s ≤ (G : Int) := by
  rcases tk_ways M s with ⟨h1, h2⟩ | ⟨h1, h2⟩ | ⟨r, n, h1⟩
  · rw [(tk_full h1 h2).2.2.1]; omega
  · rw [(tk_new h1 h2).2.2.1]; omega
  · rw [(tk_old h1).2.2.1]; have := genAt_le h (n : Int); omega
/-- The first round. -/
theorem ready_first (M : Nat) : ∀ (k j : Nat), j + k = M → Ready M ⟨List.replicate j 1, List.replicate j true, []⟩ (List.replicate j 1 ++ List.replicate k 0) (List.range' j k)
  | 0, j, h => by
    obtain rfl : j = M := by omega
    exact ⟨rfl, by simp, by simp, rfl⟩
  | k + 1, j, h => by
    have hne : (⟨List.replicate j 1, List.replicate j true, []⟩ : St).gens.length ≠ M := by simp; omega
    obtain ⟨t1, t2, t3, t4⟩ := tk_new (M := M) (s := ⟨List.replicate j 1, List.replicate j true, []⟩) rfl hne
    have ih := ready_first M k (j + 1) (by omega)
    have hd : (List.replicate j 1 ++ List.replicate (k + 1) 0).getD j 0 = 0 := by
      rw [List.getD_eq_getElem?_getD, List.getElem?_append_right (by simp)]; simp
    have hs : (List.replicate j 1 ++ List.replicate (k + 1) 0).set j 1 = List.replicate (j + 1) 1 ++ List.replicate k 0 := by
      rw [List.set_append_right _ _ (by simp), List.length_replicate, Nat.sub_self, List.replicate_succ, List.set_cons_zero, List.replicate_succ' (n := j), List.append_assoc]
      rfl
    rw [List.range'_succ]
    refine ⟨⟨by simp, by simp; omega⟩, by rw [t2]; simp, by rw [t3, hd]; rfl, t4, ?_⟩
    rw [t1, hd, hs]
    have e : (⟨List.replicate j 1 ++ [1], List.replicate j true ++ [true], []⟩ : St) = ⟨List.replicate (j + 1) 1, List.replicate (j + 1) true, []⟩ := by
      rw [List.replicate_succ', List.replicate_succ']
    rw [show (⟨(⟨List.replicate j 1, List.replicate j true, []⟩ : St).gens ++ [1], (⟨List.replicate j 1, List.replicate j true, []⟩ : St).tk ++ [true], []⟩ : St) = ⟨List.replicate (j + 1) 1, List.replicate (j + 1) true, []⟩ from e]
    exact ih
/-- The later rounds. -/
theorem ready_next (M : Nat) : ∀ (R : List Nat) (s : St) (L : List Nat), L.length = M → s.gens.length = M → s.tk.length = M → s.fr = R.reverse → R.Nodup → (∀ n ∈ R, n < M) →
    (∀ n, n < M → s.tk[n]? = some (!decide (n ∈ R))) → (∀ n, n < M → s.gens[n]? = some (L.getD n 0 + if n ∈ R then 1 else 0)) → Ready M s L R
  | [], s, L, hL, hg, ht, hf, _, _, hT, hG => by
    refine ⟨hf, List.ext_getElem? fun n => ?_, hL, List.ext_getElem? fun n => ?_⟩
    · by_cases hn : n < M
      · rw [hG n hn, List.getD_eq_getElem?_getD, List.getElem?_eq_getElem (by omega)]; simp
      · rw [List.getElem?_eq_none (by omega), List.getElem?_eq_none (by omega)]
    · by_cases hn : n < M
      · rw [hT n hn, List.getElem?_replicate]; simp [hn]
      · rw [List.getElem?_eq_none (by omega), List.getElem?_eq_none (by simp; omega)]
  | n :: r, s, L, hL, hg, ht, hf, hnd, hlt, hT, hG => by
    have hn := hlt n (by simp)
    have hnr : n ∉ r := (List.nodup_cons.1 hnd).1
    rw [List.reverse_cons] at hf
    obtain ⟨t1, t2, t3, t4⟩ := tk_old (M := M) hf
    have hgn := hG n hn
    refine ⟨⟨by omega, hL⟩, t2, ?_, t4, ?_⟩
    · rw [t3]
      unfold genAt
      rw [Int.toNat_natCast, hgn]
      simp
    · rw [t1]
      refine ready_next M r _ _ (by simpa using hL) hg (by simpa using ht) rfl (List.nodup_cons.1 hnd).2 (fun m hm => hlt m (by simp [hm])) (fun m hm => ?_) (fun m hm => ?_)
      · show (s.tk.set n true)[m]? = _
        by_cases e : n = m
        · subst e
          rw [List.getElem?_set_self (by omega)]; simp [hnr]
        · have e' : ¬ m = n := fun h => e h.symm
          rw [List.getElem?_set_ne e, hT m hm]; simp [e']
      · show s.gens[m]? = _
        rw [hG m hm]
        by_cases e : n = m
        · subst e
          rw [if_pos (by simp), if_neg hnr, List.getD_eq_getElem?_getD, List.getD_eq_getElem?_getD, List.getElem?_set_self (by omega)]
          simp
        · rw [List.getD_eq_getElem?_getD, List.getD_eq_getElem?_getD, List.getElem?_set_ne e]
          simp [show ¬ m = n from fun h => e h.symm]
/-- All slots were taken, with these generations; then those of Q were freed, in this order. -/
structure Part (M : Nat) (L Q : List Nat) (s : St) : Prop where
  ll : L.length = M
  gl : s.gens.length = M
  tl : s.tk.length = M
  fr : s.fr = Q
  nd : Q.Nodup
  lt : ∀ n ∈ Q, n < M
  tk : ∀ n, n < M → s.tk[n]? = some (!decide (n ∈ Q))
  gn : ∀ n, n < M → s.gens[n]? = some (L.getD n 0 + if n ∈ Q then 1 else 0)
theorem part_start {M : Nat} {L : List Nat} {s : St} (h : Ready M s L []) : Part M L [] s := by
  obtain ⟨h1, h2, h3, h4⟩ := h
  refine ⟨h3, by rw [h2]; exact h3, by rw [h4]; simp, h1, List.nodup_nil, by simp, fun n hn => ?_, fun n hn => ?_⟩
  · rw [h4, List.getElem?_replicate]; simp [hn]
  · rw [h2, List.getD_eq_getElem?_getD, List.getElem?_eq_getElem (by omega)]; simp
theorem part_again {M : Nat} {L Q : List Nat} {s : St} (h : Part M L Q s) {n : Nat} (hn : n < M) (hq : n ∈ Q) : hasB s (n : Int) ((L.getD n 0 : Nat) : Int) = false := by
  refine has_no ?_
  rw [ist_nat, h.tk n hn]; simp [hq]
theorem part_step {M : Nat} {L Q : List Nat} {s : St} (h : Part M L Q s) {n : Nat} (hn : n < M) (hq : n ∉ Q) :
    hasB s (n : Int) ((L.getD n 0 : Nat) : Int) = true ∧ Part M L (Q ++ [n]) (frS s (n : Int) ((L.getD n 0 : Nat) : Int)) := by
  have hb : hasB s (n : Int) ((L.getD n 0 : Nat) : Int) = true := by
    refine has_mk (by rw [ist_nat, h.tk n hn]; simp [hq]) ?_
    unfold genAt; rw [Int.toNat_natCast, h.gn n hn]; simp [hq]
  refine ⟨hb, ?_⟩
  rw [(fr_yes hb).1]
  have hg := h.gl; have ht := h.tl
  refine ⟨h.ll, by simpa using hg, by simpa using ht, by rw [h.fr]; rfl, ?_, fun m hm => ?_, fun m hm => ?_, fun m hm => ?_⟩
  · refine List.nodup_append.2 ⟨h.nd, by simp, fun a ha b hb e => ?_⟩
    rw [List.mem_singleton.1 hb] at e
    exact hq (by rw [← e]; exact ha)
  · rcases List.mem_append.1 hm with hm | hm
    · exact h.lt m hm
    · rw [List.mem_singleton.1 hm]; exact hn
  · show (s.tk.set (n : Int).toNat false)[m]? = _
    rw [Int.toNat_natCast]
    by_cases e : n = m
    · subst e; rw [List.getElem?_set_self (by omega)]; simp
    · have e' : ¬ m = n := fun h => e h.symm
      rw [List.getElem?_set_ne e, h.tk m hm]; simp [e']
  · show (s.gens.set (n : Int).toNat _)[m]? = _
    rw [Int.toNat_natCast]
    by_cases e : n = m
    · subst e; rw [List.getElem?_set_self (by omega), if_pos (by simp)]; congr 1
    · have e' : ¬ m = n := fun h => e h.symm
      rw [List.getElem?_set_ne e, h.gn m hm]; simp [e']
theorem nd_le : ∀ (A B : List Nat), A.Nodup → (∀ x ∈ A, x ∈ B) → A.length ≤ B.length
  | [], _, _, _ => Nat.zero_le _
  | a :: r, B, h, hs => by
    have ha := hs a (by simp)
    obtain ⟨h1, h2⟩ := List.nodup_cons.1 h
    have ih := nd_le r (B.erase a) h2 (fun x hx => (List.mem_erase_of_ne (fun e => h1 (by rw [← e]; exact hx))).2 (hs x (by simp [hx])))
    rw [List.length_erase_of_mem ha] at ih
    have := List.length_pos_of_mem ha
    simp only [List.length_cons]
    omega
/-- A list that has all numbers below M has at least M. -/
theorem all_len {M : Nat} {Q : List Nat} (hall : ∀ q, q < M → q ∈ Q) : M ≤ Q.length := by
  have h := nd_le (List.range M) Q List.nodup_range (fun q hq => hall q (List.mem_range.1 hq))
  simpa using h
theorem part_full {M : Nat} {L Q : List Nat} {s : St} (h : Part M L Q s) : Q.length ≤ M := by
  have h1 := nd_le Q (List.range M) h.nd (fun q hq => List.mem_range.2 (h.lt q hq))
  simpa using h1
theorem part_ready {M : Nat} {L Q : List Nat} {s : St} (h : Part M L Q s) : Ready M s L Q.reverse := by
  refine ready_next M Q.reverse s L h.ll h.gl h.tl (by rw [List.reverse_reverse]; exact h.fr) (List.pairwise_reverse.2 (h.nd.imp fun e => Ne.symm e)) (fun n hn => h.lt n (List.mem_reverse.1 hn)) (fun n hn => ?_) (fun n hn => ?_)
  · rw [h.tk n hn]; simp
  · rw [h.gn n hn]; simp
/-- The slot that is freed next. -/
def nxt (M st i : Nat) : Nat := (i * st + i / M) % M
theorem nxt_lt {M st i : Nat} (h : 1 ≤ M) : nxt M st i < M := Nat.mod_lt _ (by omega)
theorem nxt_row {M st q : Nat} (hM : 1 ≤ M) (h : q < M) : nxt M st (q * M) = q := by
  unfold nxt
  rw [Nat.mul_div_cancel _ (by omega), Nat.mul_assoc, Nat.mul_comm M st, ← Nat.mul_assoc, Nat.add_comm, Nat.add_mul_mod_self_right]
  exact Nat.mod_eq_of_lt h
theorem nxt_cast (M st i : Nat) : ((i : Int) * (st : Int) + (i : Int) / (M : Int)) % (M : Int) = (nxt M st i : Int) := by
  unfold nxt; push_cast; rfl
/-- As long as fewer than M were freed, not all rows were gone through. -/
theorem not_through {M i : Nat} {Q : List Nat} (hcov : ∀ q, q < M → q * M < i → q ∈ Q) (hl : Q.length < M) : i < M * M := by
  rcases Nat.lt_or_ge i (M * M) with h | h
  · exact h
  · have := all_len (M := M) (Q := Q) (fun q hq => hcov q hq (by
      have : q * M < M * M := Nat.mul_lt_mul_of_pos_right hq (by omega)
      omega))
    omega
end Go.Proofs.Ytighehonkookhaa.Ny
