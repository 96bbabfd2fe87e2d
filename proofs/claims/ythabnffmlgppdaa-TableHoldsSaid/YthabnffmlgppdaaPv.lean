/- Proves plain facts on two tables with the same keys, and on a map that says which keys are there, with their numbers. No condition; no program. -/
import Derived.Test.YthabnffmlgppdaaPq
import Derived.Test.YthabnffmlgppdaaPu
namespace Go.Proofs.Ythabnffmlgppdaa.Pv
open Go.RowKit Go.Maps Hm Tm Tn Ta Pm Pq Pu Px
open Tf (okK okK_spec Gets Puts)
open Tg (Sets)
open Th (Dels)
open To (putT delT putN delN put_good set_good del_good)

/-- Two tables with the same keys, each with its own seed. -/
structure Two (s1 s2 : Int) (c d : List (Cell Key)) : Prop where
  g1 : To.Good (hom s1) c
  g2 : To.Good (hom s2) d
  len : c.length = d.length
  cnt : cnt c = cnt d
  mem : ∀ k x, some (k, x) ∈ c ↔ some (k, x) ∈ d
theorem len_none (n : Nat) : (List.replicate n (none : Cell Key)).length = n := List.length_replicate
theorem two_start (s1 s2 : Int) : Two s1 s2 (List.replicate 8 none) (List.replicate 8 none) := ⟨To.good_start (hom_lt s1), To.good_start (hom_lt s2), rfl, rfl, fun _ _ => Iff.rfl⟩
section
variable {s1 s2 : Int} {c d : List (Cell Key)}
theorem puts_two (T : Two s1 s2 c d) (k : Key) (n : Int) : ∃ c' d' e, Puts s1 c k n c' e ∧ Puts s2 d k n d' e ∧ Two s1 s2 c' d' ∧ cnt c' ≤ cnt c + 1 ∧
    ((e = 0 ∧ okK k = true ∧ (∀ y, some (k, y) ∉ c) ∧ ∀ k' (x' : Nat), some (k', x') ∈ c' ↔ (k' = k ∧ (x' : Int) = n) ∨ (k' ≠ k ∧ some (k', x') ∈ c)) ∨ (e = 11 ∧ (∃ y, some (k, y) ∈ c) ∧ c' = c ∧ d' = d) ∨ (e = 2 ∧ c' = c ∧ d' = d)) := by
  by_cases h1 : okK k = true
  · by_cases h2 : 0 ≤ n
    · by_cases h3 : ∃ y, some (k, y) ∈ c
      · obtain ⟨y, hy⟩ := h3
        obtain ⟨i, hi⟩ := List.mem_iff_getElem?.1 hy
        obtain ⟨j, hj⟩ := List.mem_iff_getElem?.1 ((T.mem _ _).1 hy)
        exact ⟨c, d, 11, Or.inr (Or.inl ⟨h1, h2, ⟨i, y, hi⟩, rfl, rfl⟩), Or.inr (Or.inl ⟨h1, h2, ⟨j, y, hj⟩, rfl, rfl⟩), T, by omega, Or.inr (Or.inl ⟨rfl, ⟨y, hy⟩, rfl, rfl⟩)⟩
      · have hno := not_in h3
        have hno2 : ∀ y, some (k, y) ∉ d := fun y hy => hno y ((T.mem _ _).2 hy)
        obtain ⟨a1, a2, a3, a4⟩ := put_good T.g1 hno n.toNat
        obtain ⟨b1, b2, b3, b4⟩ := put_good T.g2 hno2 n.toNat
        refine ⟨_, _, 0, Or.inr (Or.inr ⟨h1, ⟨n.toNat, by omega, rfl⟩, hno, rfl⟩), Or.inr (Or.inr ⟨h1, ⟨n.toNat, by omega, rfl⟩, hno2, rfl⟩), ⟨a1, b1, by rw [a2, b2, T.len, T.cnt], by rw [a3, b3, T.cnt], fun k' x' => by rw [a4, b4, T.mem]⟩, by rw [a3]; exact Nat.le_refl _, Or.inl ⟨rfl, h1, hno, fun k' x' => ?_⟩⟩
        rw [a4]
        constructor
        · rintro (e | e)
          · simp only [Prod.mk.injEq] at e; exact Or.inl ⟨e.1, by omega⟩
          · exact Or.inr ⟨fun hk => hno x' (by rw [← hk]; exact e), e⟩
        · rintro (⟨e1, e2⟩ | ⟨_, e⟩)
          · exact Or.inl (by rw [e1]; simp; omega)
          · exact Or.inr e
    · exact ⟨c, d, 2, Or.inl ⟨Or.inr (by omega), rfl, rfl⟩, Or.inl ⟨Or.inr (by omega), rfl, rfl⟩, T, by omega, Or.inr (Or.inr ⟨rfl, rfl, rfl⟩)⟩
  · have h1' : okK k = false := by simpa using h1
    exact ⟨c, d, 2, Or.inl ⟨Or.inl h1', rfl, rfl⟩, Or.inl ⟨Or.inl h1', rfl, rfl⟩, T, by omega, Or.inr (Or.inr ⟨rfl, rfl, rfl⟩)⟩
theorem sets_two (T : Two s1 s2 c d) (k : Key) (n : Int) : ∃ c' d' m e, Sets c k n c' m e ∧ Sets d k n d' m e ∧ Two s1 s2 c' d' ∧ cnt c' = cnt c ∧
    ((e = 0 ∧ okK k = true ∧ (∃ y : Nat, some (k, y) ∈ c ∧ m = (y : Int)) ∧ ∀ k' (x' : Nat), some (k', x') ∈ c' ↔ (k' = k ∧ (x' : Int) = n) ∨ (k' ≠ k ∧ some (k', x') ∈ c)) ∨ ((e = 2 ∨ e = 9) ∧ m = 0 ∧ c' = c ∧ d' = d)) := by
  by_cases h1 : okK k = true
  · by_cases h2 : 0 ≤ n
    · by_cases h3 : ∃ y, some (k, y) ∈ c
      · obtain ⟨y, hy⟩ := h3
        obtain ⟨i, hi⟩ := List.mem_iff_getElem?.1 hy
        obtain ⟨j, hj⟩ := List.mem_iff_getElem?.1 ((T.mem _ _).1 hy)
        obtain ⟨a1, a2, a3, a4⟩ := set_good T.g1 hi n.toNat
        obtain ⟨b1, b2, b3, b4⟩ := set_good T.g2 hj n.toNat
        refine ⟨_, _, y, 0, Or.inr (Or.inr ⟨h1, ⟨i, n.toNat, y, hi, by omega, rfl, rfl⟩, rfl⟩), Or.inr (Or.inr ⟨h1, ⟨j, n.toNat, y, hj, by omega, rfl, rfl⟩, rfl⟩), ⟨a1, b1, by rw [a2, b2, T.len], by rw [a3, b3, T.cnt], fun k' x' => by rw [a4, b4, T.mem]⟩, a3, Or.inl ⟨rfl, h1, ⟨y, hy, rfl⟩, fun k' x' => ?_⟩⟩
        rw [a4]
        constructor
        · rintro (⟨e1, e2⟩ | e)
          · exact Or.inl ⟨e1, by omega⟩
          · exact Or.inr e
        · rintro (⟨e1, e2⟩ | e)
          · exact Or.inl ⟨e1, by omega⟩
          · exact Or.inr e
      · have hno := not_in h3
        have hno2 : ∀ y, some (k, y) ∉ d := fun y hy => hno y ((T.mem _ _).2 hy)
        exact ⟨c, d, 0, 9, Or.inr (Or.inl ⟨h1, h2, hno, rfl, rfl, rfl⟩), Or.inr (Or.inl ⟨h1, h2, hno2, rfl, rfl, rfl⟩), T, rfl, Or.inr ⟨Or.inr rfl, rfl, rfl, rfl⟩⟩
    · exact ⟨c, d, 0, 2, Or.inl ⟨Or.inr (by omega), rfl, rfl, rfl⟩, Or.inl ⟨Or.inr (by omega), rfl, rfl, rfl⟩, T, rfl, Or.inr ⟨Or.inl rfl, rfl, rfl, rfl⟩⟩
  · have h1' : okK k = false := by simpa using h1
    exact ⟨c, d, 0, 2, Or.inl ⟨Or.inl h1', rfl, rfl, rfl⟩, Or.inl ⟨Or.inl h1', rfl, rfl, rfl⟩, T, rfl, Or.inr ⟨Or.inl rfl, rfl, rfl, rfl⟩⟩
theorem dels_two (T : Two s1 s2 c d) (hy : Kys c) (k : Key) : ∃ c' d' m e, Dels s1 c k c' m e ∧ Dels s2 d k d' m e ∧ Two s1 s2 c' d' ∧ cnt c' ≤ cnt c ∧
    ((e = 0 ∧ okK k = true ∧ (∃ y : Nat, some (k, y) ∈ c ∧ m = (y : Int)) ∧ ∀ k' (x' : Nat), some (k', x') ∈ c' ↔ (k' = k ∧ (x' : Int) = -1) ∨ (k' ≠ k ∧ some (k', x') ∈ c)) ∨ ((e = 2 ∨ e = 9) ∧ (∀ y, some (k, y) ∉ c) ∧ m = 0 ∧ c' = c ∧ d' = d)) := by
  by_cases h1 : okK k = true
  · by_cases h3 : ∃ y, some (k, y) ∈ c
    · obtain ⟨y, hy⟩ := h3
      obtain ⟨i, hi⟩ := List.mem_iff_getElem?.1 hy
      obtain ⟨j, hj⟩ := List.mem_iff_getElem?.1 ((T.mem _ _).1 hy)
      obtain ⟨a1, a2, a3, a4⟩ := del_good T.g1 hi
      obtain ⟨b1, b2, b3, b4⟩ := del_good T.g2 hj
      refine ⟨_, _, y, 0, Or.inr ⟨h1, ⟨i, y, hi, rfl, rfl⟩, rfl⟩, Or.inr ⟨h1, ⟨j, y, hj, rfl, rfl⟩, rfl⟩, ⟨a1, b1, by rw [a2, b2, T.len, T.cnt], by have := T.cnt; omega, fun k' x' => by rw [a4, b4, T.mem]⟩, by omega, Or.inl ⟨rfl, h1, ⟨y, hy, rfl⟩, fun k' x' => ?_⟩⟩
      rw [a4]
      constructor
      · exact fun e => Or.inr e
      · rintro (⟨_, e2⟩ | e)
        · omega
        · exact e
    · have hno := not_in h3
      have hno2 : ∀ y, some (k, y) ∉ d := fun y hy => hno y ((T.mem _ _).2 hy)
      exact ⟨c, d, 0, 9, Or.inl ⟨rfl, rfl, Or.inr (Or.inr ⟨h1, hno, rfl, rfl⟩), by omega⟩, Or.inl ⟨rfl, rfl, Or.inr (Or.inr ⟨h1, hno2, rfl, rfl⟩), by omega⟩, T, Nat.le_refl _, Or.inr ⟨Or.inr rfl, hno, rfl, rfl, rfl⟩⟩
  · have h1' : okK k = false := by simpa using h1
    have hno : ∀ y, some (k, y) ∉ c := fun y hm => by
      obtain ⟨e1, e2, _⟩ := hy k y hm
      unfold okK at h1'
      simp [e1, e2] at h1'
    exact ⟨c, d, 0, 2, Or.inl ⟨rfl, rfl, Or.inl ⟨h1', rfl, rfl⟩, by omega⟩, Or.inl ⟨rfl, rfl, Or.inl ⟨h1', rfl, rfl⟩, by omega⟩, T, Nat.le_refl _, Or.inr ⟨Or.inl rfl, hno, rfl, rfl, rfl⟩⟩
end
/-- The map says of each key that was put in its number, or -1 if it was taken out. -/
structure Trk (D : DataW Unit) (mv : Key → Option Int) (c : List (Cell Key)) : Prop where
  isMap : IsMap D
  at_ : ∀ k, has D (kl k) = (mv k).isSome ∧ D.atKey (kl k) (.lit (.int .i64 0)) = .lit (.int .i64 ((mv k).getD 0))
  mem : ∀ k (x : Nat), some (k, x) ∈ c ↔ mv k = some (x : Int)
  ok : ∀ k v, mv k = some v → okK k = true
def upd (mv : Key → Option Int) (k : Key) (v : Int) : Key → Option Int := fun k' => if k' = k then some v else mv k'
theorem trk_start : Trk (.map []) (fun _ => none) (List.replicate 8 none) :=
  ⟨isMap_empty, fun k => ⟨rfl, rfl⟩, fun k x => ⟨(fun h => by have := List.eq_of_mem_replicate h; cases this), (fun h => by cases h)⟩, (fun k v h => by cases h)⟩
theorem trk_put {D : DataW Unit} {mv : Key → Option Int} {c c' : List (Cell Key)} (h : Trk D mv c) {k : Key} (hk : okK k = true) {v : Int} (hm : ∀ k' (x' : Nat), some (k', x') ∈ c' ↔ (k' = k ∧ (x' : Int) = v) ∨ (k' ≠ k ∧ some (k', x') ∈ c)) :
    Trk (D.put (kl k) (.lit (.int .i64 v))) (upd mv k v) c' := by
  refine ⟨h.isMap.put _ _, fun k' => ?_, fun k' x => ?_, fun k' v' e => ?_⟩
  · by_cases e : k' = k
    · subst e
      unfold upd
      rw [has_put_same h.isMap (kl_key _), atKey_put_same h.isMap (kl_key _), if_pos rfl]
      exact ⟨rfl, rfl⟩
    · have hne : kl k' ≠ kl k := fun e' => e (kl_inj e')
      unfold upd
      rw [has_put_other hne, atKey_put_other hne, if_neg e]
      exact h.at_ k'
  · rw [hm]
    unfold upd
    by_cases e : k' = k
    · rw [if_pos e]
      simp only [Option.some.injEq]
      constructor
      · rintro (⟨_, e2⟩ | ⟨e2, _⟩)
        · exact e2.symm
        · exact absurd e e2
      · intro e2; exact Or.inl ⟨e, e2.symm⟩
    · rw [if_neg e, ← h.mem]
      exact ⟨fun h => h.elim (fun h => absurd h.1 e) (fun h => h.2), fun h => Or.inr ⟨e, h⟩⟩
  · unfold upd at e
    by_cases e1 : k' = k
    · rw [e1]; exact hk
    · rw [if_neg e1] at e; exact h.ok k' v' e
theorem trk_same {D : DataW Unit} {mv : Key → Option Int} {c : List (Cell Key)} (h : Trk D mv c) {k : Key} {v : Int} (e : mv k = some v) : (0 ≤ v → Gets c k v 0) ∧ (v < 0 → Gets c k 0 9) := by
  refine ⟨fun h0 => ?_, fun h0 => ?_⟩
  · obtain ⟨i, hi⟩ := List.mem_iff_getElem?.1 ((h.mem k v.toNat).2 (by rw [e]; congr 1; omega))
    exact Or.inr (Or.inl ⟨h.ok k v e, ⟨i, v.toNat, hi, by omega⟩, rfl⟩)
  · refine Or.inr (Or.inr ⟨h.ok k v e, fun y hy => ?_, rfl, rfl⟩)
    have := (h.mem k y).1 hy
    rw [e] at this
    simp only [Option.some.injEq] at this
    omega
theorem gets_two {s1 s2 : Int} {c d : List (Cell Key)} (T : Two s1 s2 c d) {k : Key} {n e : Int} (h : Gets c k n e) : Gets d k n e := by
  rcases h with h | ⟨h1, ⟨i, x, hi, hx⟩, h2⟩ | ⟨h1, h2, h3⟩
  · exact Or.inl h
  · obtain ⟨j, hj⟩ := List.mem_iff_getElem?.1 ((T.mem _ _).1 (List.mem_of_getElem? hi))
    exact Or.inr (Or.inl ⟨h1, ⟨j, x, hj, hx⟩, h2⟩)
  · exact Or.inr (Or.inr ⟨h1, fun y hy => h2 y ((T.mem _ _).2 hy), h3⟩)
/-- Is it there? -/
def live (mv : Key → Option Int) (k : Key) : Bool := decide (0 ≤ (mv k).getD (-1))
theorem live_iff {D : DataW Unit} {mv : Key → Option Int} {c : List (Cell Key)} (h : Trk D mv c) (k : Key) : live mv k = true ↔ ∃ x, some (k, x) ∈ c := by
  unfold live
  constructor
  · intro e
    cases hm : mv k with
    | none => rw [hm] at e; simp at e
    | some v =>
      rw [hm] at e
      simp only [Option.getD_some, decide_eq_true_eq] at e
      exact ⟨v.toNat, (h.mem k _).2 (by rw [hm]; congr 1; omega)⟩
  · rintro ⟨x, hx⟩
    rw [(h.mem k x).1 hx]; simp
def keysC (c : List (Cell Key)) : List Key := c.filterMap fun o => o.map Prod.fst
theorem keys_len (c : List (Cell Key)) : (keysC c).length = cnt c := by
  unfold keysC cnt
  induction c with
  | nil => rfl
  | cons o r ih => cases o <;> simp [ih]
theorem keys_mem (c : List (Cell Key)) (k : Key) : k ∈ keysC c ↔ ∃ x, some (k, x) ∈ c := by
  unfold keysC
  rw [List.mem_filterMap]
  constructor
  · rintro ⟨o, ho, e⟩
    cases o with
    | none => cases e
    | some p => obtain ⟨k', x⟩ := p; simp at e; subst e; exact ⟨x, ho⟩
  · rintro ⟨x, hx⟩; exact ⟨_, hx, rfl⟩
theorem apart_nodup : ∀ {c : List (Cell Key)}, Apart c → (keysC c).Nodup
  | [], _ => List.Pairwise.nil
  | none :: r, h => by
    have := apart_nodup (List.pairwise_cons.1 h).2
    simpa [keysC] using this
  | some (k, x) :: r, h => by
    obtain ⟨h1, h2⟩ := List.pairwise_cons.1 h
    have ih := apart_nodup h2
    show (k :: keysC r).Nodup
    refine List.nodup_cons.2 ⟨fun hm => ?_, ih⟩
    obtain ⟨y, hy⟩ := (keys_mem r k).1 hm
    exact h1 _ hy k x y rfl rfl
theorem nd_le : ∀ {l m : List Key}, l.Nodup → (∀ x ∈ l, x ∈ m) → l.length ≤ m.length
  | [], _, _, _ => Nat.zero_le _
  | a :: l, m, h, hs => by
    obtain ⟨h1, h2⟩ := List.nodup_cons.1 h
    have hm := hs a (by simp)
    have hl := List.length_erase_of_mem hm
    have := nd_le (m := m.erase a) h2 (fun x hx => (List.mem_erase_of_ne (fun e => h1 (by rw [← e]; exact hx))).2 (hs x (by simp [hx])))
    have := List.length_pos_of_mem hm
    simp only [List.length_cons]; omega
theorem live_le {D : DataW Unit} {mv : Key → Option Int} {c : List (Cell Key)} (h : Trk D mv c) {V : List Key} (hV : V.Nodup) : V.countP (live mv) ≤ cnt c := by
  rw [List.countP_eq_length_filter, ← keys_len]
  exact nd_le (hV.sublist List.filter_sublist) fun k hk => (keys_mem c k).2 ((live_iff h k).1 (List.mem_filter.1 hk).2)
theorem live_all {D : DataW Unit} {mv : Key → Option Int} {c : List (Cell Key)} (h : Trk D mv c) {h0 : Key → Nat} (t : Tab h0 c) {V : List Key} (hV : V.Nodup) (hall : ∀ k, has D (kl k) = true → k ∈ V) : V.countP (live mv) = cnt c := by
  refine Nat.le_antisymm (live_le h hV) ?_
  rw [List.countP_eq_length_filter, ← keys_len]
  refine nd_le (apart_nodup (tab_apart t)) fun k hk => ?_
  have hx := (keys_mem c k).1 hk
  refine List.mem_filter.2 ⟨hall k ?_, (live_iff h k).2 hx⟩
  obtain ⟨x, hx⟩ := hx
  rw [(h.at_ k).1, (h.mem k x).1 hx]; rfl
end Go.Proofs.Ythabnffmlgppdaa.Pv
