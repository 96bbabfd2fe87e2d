/- Proves plain facts on cells with open addressing: looking, putting in, taking out, another size. No condition; no program. -/
import Derived.Test.YthabnffmlgppdaaMi
namespace Go.Proofs.Ythabnffmlgppdaa.Tm

/-- From a cell j cells on; how many cells it is from one to another. -/
def pos (n a j : Nat) : Nat := if a + j < n then a + j else a + j - n
def way (n a b : Nat) : Nat := if a ≤ b then b - a else b + n - a
theorem pos_lt {n a j : Nat} (ha : a < n) (hj : j < n) : pos n a j < n := by unfold pos; split <;> omega
theorem way_lt {n a b : Nat} (ha : a < n) (hb : b < n) : way n a b < n := by unfold way; split <;> omega
theorem pos_way {n a b : Nat} (ha : a < n) (hb : b < n) : pos n a (way n a b) = b := by unfold pos way; split <;> split <;> omega
theorem way_pos {n a j : Nat} (ha : a < n) (hj : j < n) : way n a (pos n a j) = j := by unfold pos way; split <;> split <;> omega
theorem pos_inj {n a i j : Nat} (ha : a < n) (hi : i < n) (hj : j < n) (h : pos n a i = pos n a j) : i = j := by
  rw [← way_pos ha hi, h, way_pos ha hj]
theorem pos_zero {n a : Nat} (ha : a < n) : pos n a 0 = a := by unfold pos; split <;> omega
theorem pos_succ {n a j : Nat} (ha : a < n) (hj : j + 1 < n) : pos n (pos n a j) 1 = pos n a (j + 1) := by unfold pos; split <;> split <;> split <;> omega
theorem pos_one_mod {n i : Nat} (hi : i < n) : (i + 1) % n = pos n i 1 := by
  unfold pos
  split
  · exact Nat.mod_eq_of_lt (by omega)
  · have : i + 1 = n := by omega
    rw [this, Nat.mod_self]; omega
theorem way_mod {n a b : Nat} (ha : a < n) (hb : b < n) : (b + n - a) % n = way n a b := by
  unfold way
  split
  · rw [show b + n - a = b - a + n by omega, Nat.add_mod_right]; exact Nat.mod_eq_of_lt (by omega)
  · exact Nat.mod_eq_of_lt (by omega)

section
variable {κ : Type}
/-- A cell: free, or a key and a number. -/
abbrev Cell (κ : Type) := Option (κ × Nat)
/-- The J-th cell from a on is the first one with p. -/
structure First (c : List (Cell κ)) (p : Cell κ → Bool) (a J : Nat) : Prop where
  lt : J < c.length
  hit : p (c.getD (pos c.length a J) none) = true
  miss : ∀ j, j < J → p (c.getD (pos c.length a j) none) = false
theorem First.uniq {c : List (Cell κ)} {p : Cell κ → Bool} {a J K : Nat} (h : First c p a J) (k : First c p a K) : J = K := by
  rcases Nat.lt_trichotomy J K with h1 | h1 | h1
  · have := k.miss J h1; rw [h.hit] at this; cases this
  · exact h1
  · have := h.miss K h1; rw [k.hit] at this; cases this
def fst (c : List (Cell κ)) (p : Cell κ → Bool) (a : Nat) : Nat := ((List.range c.length).find? fun j => p (c.getD (pos c.length a j) none)).getD 0
theorem First.fst_eq {c : List (Cell κ)} {p : Cell κ → Bool} {a J : Nat} (h : First c p a J) : fst c p a = J := by
  unfold fst
  have e : (List.range c.length).find? (fun j => p (c.getD (pos c.length a j) none)) = some J := by
    rw [List.find?_range_eq_some]
    exact ⟨h.hit, List.mem_range.2 h.lt, fun j hj => by rw [h.miss j hj]; rfl⟩
  rw [e]; rfl
theorem least {p : Nat → Bool} : ∀ n, (∃ j, j < n ∧ p j = true) → ∃ J, J < n ∧ p J = true ∧ ∀ j, j < J → p j = false
  | 0, ⟨j, hj, _⟩ => by omega
  | n + 1, ⟨j, hj, hp⟩ => by
    by_cases h : ∃ j, j < n ∧ p j = true
    · obtain ⟨J, h1, h2⟩ := least n h
      exact ⟨J, by omega, h2⟩
    · have hall : ∀ j, j < n → p j = false := fun j hj => by
        cases e : p j
        · rfl
        · exact absurd ⟨j, hj, e⟩ h
      have : j = n := by
        rcases Nat.lt_or_ge j n with h1 | h1
        · rw [hall j h1] at hp; cases hp
        · omega
      subst this
      exact ⟨j, by omega, hp, hall⟩
theorem first_any {c : List (Cell κ)} {p : Cell κ → Bool} {a : Nat} (ha : a < c.length) (h : ∃ o ∈ c, p o = true) : First c p a (fst c p a) := by
  obtain ⟨o, ho, hp⟩ := h
  obtain ⟨i, hi, rfl⟩ := List.mem_iff_getElem.1 ho
  obtain ⟨J, h1, h2, h3⟩ := least (p := fun j => p (c.getD (pos c.length a j) none)) c.length ⟨way c.length a i, way_lt ha hi, by rw [pos_way ha hi, List.getD_eq_getElem?_getD, List.getElem?_eq_getElem hi]; exact hp⟩
  have hF : First c p a J := ⟨h1, h2, h3⟩
  rw [hF.fst_eq]; exact hF
/-- The first free cell from a on. -/
def gap (c : List (Cell κ)) (a : Nat) : Nat := pos c.length a (fst c Option.isNone a)
theorem gap_spec {c : List (Cell κ)} {a : Nat} (ha : a < c.length) (hf : none ∈ c) : gap c a < c.length ∧ c[gap c a]? = some none ∧ ∀ j, j < way c.length a (gap c a) → c[pos c.length a j]? ≠ some none := by
  have h := first_any (p := Option.isNone) ha ⟨none, hf, rfl⟩
  have hlt : gap c a < c.length := pos_lt ha h.lt
  refine ⟨hlt, ?_, fun j hj e => ?_⟩
  · have := h.hit
    rw [List.getD_eq_getElem?_getD] at this
    unfold gap at hlt ⊢
    rw [List.getElem?_eq_getElem hlt] at this ⊢
    simp at this
    rw [this]
  · unfold gap at hj
    rw [way_pos ha h.lt] at hj
    have := h.miss j hj
    rw [List.getD_eq_getElem?_getD, e] at this
    cases this
/-- The cells of a table: each key once, and from its home to its cell no cell is free. -/
structure Tab (h : κ → Nat) (c : List (Cell κ)) : Prop where
  home : ∀ k, h k < c.length
  one : ∀ (i j : Nat) (k : κ) (x y : Nat), c[i]? = some (some (k, x)) → c[j]? = some (some (k, y)) → i = j
  path : ∀ (i : Nat) (k : κ) (x : Nat), c[i]? = some (some (k, x)) → ∀ j, j < way c.length (h k) i → c[pos c.length (h k) j]? ≠ some none
theorem tab_empty {h : κ → Nat} {n : Nat} (hh : ∀ k, h k < n) : Tab h (List.replicate n none) := by
  have e : ∀ (i : Nat) (o : κ × Nat), (List.replicate n (none : Cell κ))[i]? ≠ some (some o) := fun i o e => by
    rw [List.getElem?_replicate] at e
    split at e <;> cases e
  exact ⟨fun k => by rw [List.length_replicate]; exact hh k, fun i j k x y h1 => absurd h1 (e _ _), fun i k x h1 => absurd h1 (e _ _)⟩
theorem lt_of_some {c : List (Cell κ)} {i : Nat} {o : Cell κ} (h : c[i]? = some o) : i < c.length := (List.getElem?_eq_some_iff.1 h).1
/-- How many cells are not free. -/
def cnt (c : List (Cell κ)) : Nat := c.countP Option.isSome
theorem cnt_le (c : List (Cell κ)) : cnt c ≤ c.length := List.countP_le_length
theorem free_of_cnt {c : List (Cell κ)} (h : cnt c < c.length) : none ∈ c := by
  refine Classical.byContradiction fun hn => ?_
  have e : cnt c = c.length := List.countP_eq_length.2 fun o ho => by
    cases o with
    | none => exact absurd ho hn
    | some _ => rfl
  omega
theorem cnt_fill : ∀ (c : List (Cell κ)) (i : Nat) (o : κ × Nat), c[i]? = some none → cnt (c.set i (some o)) = cnt c + 1
  | [], i, o, h => by simp at h
  | d :: r, 0, o, h => by
    simp at h; subst h
    unfold cnt; rw [List.set_cons_zero, List.countP_cons, List.countP_cons]; simp
  | d :: r, i + 1, o, h => by
    have ih := cnt_fill r i o (by simpa using h)
    unfold cnt at ih ⊢
    rw [List.set_cons_succ, List.countP_cons, List.countP_cons, ih]; omega
theorem cnt_keep : ∀ (c : List (Cell κ)) (i : Nat) (o o' : κ × Nat), c[i]? = some (some o') → cnt (c.set i (some o)) = cnt c
  | [], i, o, o', h => by simp at h
  | d :: r, 0, o, o', h => by
    simp at h; subst h
    unfold cnt; rw [List.set_cons_zero, List.countP_cons, List.countP_cons]; simp
  | d :: r, i + 1, o, o', h => by
    have ih := cnt_keep r i o o' (by simpa using h)
    unfold cnt at ih ⊢
    rw [List.set_cons_succ, List.countP_cons, List.countP_cons, ih]
theorem cnt_free : ∀ (c : List (Cell κ)) (i : Nat) (o : κ × Nat), c[i]? = some (some o) → cnt (c.set i none) + 1 = cnt c
  | [], i, o, h => by simp at h
  | d :: r, 0, o, h => by
    simp at h; subst h
    unfold cnt; rw [List.set_cons_zero, List.countP_cons, List.countP_cons]; simp
  | d :: r, i + 1, o, h => by
    have ih := cnt_free r i o (by simpa using h)
    unfold cnt at ih ⊢
    rw [List.set_cons_succ, List.countP_cons, List.countP_cons]; omega
theorem get_set (c : List (Cell κ)) {q : Nat} (hq : q < c.length) (o : Cell κ) (i : Nat) : (c.set q o)[i]? = if i = q then some o else c[i]? := by
  by_cases e : i = q
  · subst e; rw [if_pos rfl, List.getElem?_set_self hq]
  · rw [if_neg e, List.getElem?_set_ne (fun h => e h.symm)]
/-- To put in a key that is not there. -/
def putC (h : κ → Nat) (c : List (Cell κ)) (k : κ) (x : Nat) : List (Cell κ) := c.set (gap c (h k)) (some (k, x))
theorem put_tab {h : κ → Nat} {c : List (Cell κ)} (t : Tab h c) (hf : none ∈ c) {k : κ} (hk : ∀ y, some (k, y) ∉ c) (x : Nat) :
    Tab h (putC h c k x) ∧ (putC h c k x).length = c.length ∧ cnt (putC h c k x) = cnt c + 1 ∧ ∀ o, some o ∈ putC h c k x ↔ o = (k, x) ∨ some o ∈ c := by
  obtain ⟨g1, g2, g3⟩ := gap_spec (t.home k) hf
  unfold putC
  obtain ⟨q, hq⟩ : ∃ q, q = gap c (h k) := ⟨_, rfl⟩
  rw [← hq] at g1 g2 g3 ⊢
  have hk' : ∀ i y, c[i]? ≠ some (some (k, y)) := fun i y e => hk y (List.mem_of_getElem? e)
  refine ⟨⟨fun k' => by rw [List.length_set]; exact t.home k', fun i j k' x' y' h1 h2 => ?_, fun i k' x' h1 j hj => ?_⟩, List.length_set, cnt_fill c q _ g2, fun o => ⟨fun ho => ?_, fun ho => ?_⟩⟩
  · rw [get_set c g1] at h1 h2
    split at h1 <;> split at h2
    · omega
    · simp only [Option.some.injEq, Prod.mk.injEq] at h1
      rw [← h1.1] at h2; exact absurd h2 (hk' _ _)
    · simp only [Option.some.injEq, Prod.mk.injEq] at h2
      rw [← h2.1] at h1; exact absurd h1 (hk' _ _)
    · exact t.one i j k' x' y' h1 h2
  · rw [List.length_set] at hj ⊢
    rw [get_set c g1] at h1 ⊢
    split
    · exact fun e => by cases e
    · split at h1
      · simp only [Option.some.injEq, Prod.mk.injEq] at h1
        obtain ⟨rfl, rfl⟩ := h1
        rename_i ei en; subst ei
        exact g3 j hj
      · exact t.path i k' x' h1 j hj
  · obtain ⟨i, hi⟩ := List.mem_iff_getElem?.1 ho
    rw [get_set c g1] at hi
    split at hi
    · simp only [Option.some.injEq] at hi; exact Or.inl hi.symm
    · exact Or.inr (List.mem_of_getElem? hi)
  · rcases ho with rfl | ho
    · exact List.mem_of_getElem? (i := q) (by rw [get_set c g1, if_pos rfl])
    · obtain ⟨i, hi⟩ := List.mem_iff_getElem?.1 ho
      exact List.mem_of_getElem? (i := i) (by rw [get_set c g1, if_neg (fun e => by rw [e, g2] at hi; cases hi)]; exact hi)
/-- Another size. -/
def fillC (h : κ → Nat) : List (Cell κ) → List (Cell κ) → List (Cell κ)
  | [], out => out
  | none :: r, out => fillC h r out
  | some (k, x) :: r, out => fillC h r (putC h out k x)
def Apart (l : List (Cell κ)) : Prop := l.Pairwise fun a b => ∀ (k : κ) (x y : Nat), a = some (k, x) → b ≠ some (k, y)
theorem tab_apart {h : κ → Nat} {c : List (Cell κ)} (t : Tab h c) : Apart c := by
  unfold Apart
  rw [List.pairwise_iff_getElem]
  intro i j hi hj hij k x y h1 h2
  have := t.one i j k x y (by rw [List.getElem?_eq_getElem hi, h1]) (by rw [List.getElem?_eq_getElem hj, h2])
  omega
theorem fill_tab {h : κ → Nat} : ∀ (l out : List (Cell κ)), Tab h out → Apart l → (∀ k x y, some (k, x) ∈ l → some (k, y) ∉ out) → cnt out + cnt l ≤ out.length →
    Tab h (fillC h l out) ∧ (fillC h l out).length = out.length ∧ cnt (fillC h l out) = cnt out + cnt l ∧ ∀ o, some o ∈ fillC h l out ↔ some o ∈ l ∨ some o ∈ out
  | [], out, t, _, _, _ => ⟨t, rfl, rfl, fun o => by simp [fillC]⟩
  | none :: r, out, t, ha, hd, hc => by
    have hc' : cnt (none :: r) = cnt r := by unfold cnt; rw [List.countP_cons]; simp
    obtain ⟨f1, f2, f3, f4⟩ := fill_tab r out t (List.pairwise_cons.1 ha).2 (fun k x y hm => hd k x y (by simp [hm])) (by omega)
    exact ⟨f1, f2, by rw [hc']; exact f3, fun o => by rw [show fillC h (none :: r) out = fillC h r out from rfl, f4 o]; simp⟩
  | some (k, x) :: r, out, t, ha, hd, hc => by
    have hc' : cnt (some (k, x) :: r) = cnt r + 1 := by unfold cnt; rw [List.countP_cons]; simp
    obtain ⟨a1, a2⟩ := List.pairwise_cons.1 ha
    obtain ⟨p1, p2, p3, p4⟩ := put_tab t (free_of_cnt (by omega)) (k := k) (fun y => hd k x y (by simp)) x
    obtain ⟨f1, f2, f3, f4⟩ := fill_tab r (putC h out k x) p1 a2 (fun k' x' y' hm hn => by
      rcases (p4 _).1 hn with e | hn
      · simp only [Prod.mk.injEq] at e
        obtain ⟨rfl, _⟩ := e
        exact a1 _ hm k' x x' rfl rfl
      · exact hd k' x' y' (by simp [hm]) hn) (by omega)
    refine ⟨f1, by rw [show fillC h (some (k, x) :: r) out = fillC h r (putC h out k x) from rfl, f2, p2], by rw [show fillC h (some (k, x) :: r) out = fillC h r (putC h out k x) from rfl, f3, p3, hc']; omega, fun o => ?_⟩
    rw [show fillC h (some (k, x) :: r) out = fillC h r (putC h out k x) from rfl, f4 o, p4 o]
    simp only [List.mem_cons, Option.some.injEq]
    constructor
    · rintro (h1 | h1 | h1)
      · exact Or.inl (Or.inr h1)
      · exact Or.inl (Or.inl h1)
      · exact Or.inr h1
    · rintro ((h1 | h1) | h1)
      · exact Or.inr (Or.inl h1)
      · exact Or.inl h1
      · exact Or.inr (Or.inr h1)
def sizeC (h : κ → Nat) (n : Nat) (c : List (Cell κ)) : List (Cell κ) := fillC h c (List.replicate n none)
theorem cnt_none (n : Nat) : cnt (List.replicate n (none : Cell κ)) = 0 := by unfold cnt; rw [List.countP_replicate]; simp
theorem size_tab {h h' : κ → Nat} {c : List (Cell κ)} (t : Tab h c) {n : Nat} (hh : ∀ k, h' k < n) (hn : cnt c ≤ n) :
    Tab h' (sizeC h' n c) ∧ (sizeC h' n c).length = n ∧ cnt (sizeC h' n c) = cnt c ∧ ∀ o, some o ∈ sizeC h' n c ↔ some o ∈ c := by
  obtain ⟨f1, f2, f3, f4⟩ := fill_tab c _ (tab_empty hh) (tab_apart t) (fun k x y _ hm => by have := List.eq_of_mem_replicate hm; cases this) (by rw [cnt_none, List.length_replicate]; omega)
  refine ⟨f1, by unfold sizeC; rw [f2, List.length_replicate], by unfold sizeC; rw [f3, cnt_none]; omega, fun o => by
    unfold sizeC
    rw [f4 o]
    refine ⟨fun h => h.elim id (fun hm => ?_), Or.inl⟩
    have := List.eq_of_mem_replicate hm; cases this⟩
end
end Go.Proofs.Ythabnffmlgppdaa.Tm
