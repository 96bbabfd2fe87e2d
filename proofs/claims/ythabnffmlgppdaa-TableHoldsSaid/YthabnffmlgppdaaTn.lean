/- Proves plain facts on cells with open addressing: what looking finds, and what taking a key out leaves. No condition; no program. -/
import Derived.Test.YthabnffmlgppdaaTm
namespace Go.Proofs.Ythabnffmlgppdaa.Tn
open Tm

section
variable {κ : Type} [DecidableEq κ]
/-- Where looking for a key ends: at the key, or at a free cell. -/
def stop (k : κ) : Cell κ → Bool
  | none => true
  | some (k', _) => decide (k' = k)
def isK (k : κ) : Cell κ → Bool
  | none => false
  | some (k', _) => decide (k' = k)
theorem look_there {h : κ → Nat} {c : List (Cell κ)} (t : Tab h c) {i : Nat} {k : κ} {x : Nat} (hi : c[i]? = some (some (k, x))) : First c (stop k) (h k) (way c.length (h k) i) := by
  have hlt := lt_of_some hi
  refine ⟨way_lt (t.home k) hlt, ?_, fun j hj => ?_⟩
  · rw [pos_way (t.home k) hlt, List.getD_eq_getElem?_getD, hi]; simp [stop]
  · have hp := t.path i k x hi j hj
    have hjn : j < c.length := Nat.lt_trans hj (way_lt (t.home k) hlt)
    have hpl := pos_lt (t.home k) hjn
    rw [List.getD_eq_getElem?_getD]
    cases e : c[pos c.length (h k) j]? with
    | none => rw [List.getElem?_eq_none_iff] at e; omega
    | some o =>
      cases o with
      | none => exact absurd e hp
      | some ky =>
        obtain ⟨k', y⟩ := ky
        simp only [Option.getD_some, stop, decide_eq_false_iff_not]
        rintro rfl
        have e2 := t.one _ _ k' y x e hi
        have e3 : way c.length (h k') i = j := by rw [← e2]; exact way_pos (t.home k') hjn
        omega
theorem look_gone {c : List (Cell κ)} {a : Nat} (ha : a < c.length) {k : κ} (hk : ∀ y, some (k, y) ∉ c) {J : Nat} : First c (stop k) a J ↔ First c Option.isNone a J := by
  have e : ∀ j, j < c.length → stop k (c.getD (pos c.length a j) none) = (c.getD (pos c.length a j) none).isNone := fun j hj => by
    have hpl := pos_lt ha hj
    rw [List.getD_eq_getElem?_getD, List.getElem?_eq_getElem hpl]
    simp only [Option.getD_some]
    cases e : c[pos c.length a j] with
    | none => rfl
    | some ky =>
      obtain ⟨k', y⟩ := ky
      simp only [stop, Option.isNone_some, decide_eq_false_iff_not]
      rintro rfl
      exact hk y (by rw [← e]; exact List.getElem_mem hpl)
  constructor
  · intro h; exact ⟨h.lt, by rw [← e _ h.lt]; exact h.hit, fun j hj => by rw [← e j (by have := h.lt; omega)]; exact h.miss j hj⟩
  · intro h; exact ⟨h.lt, by rw [e _ h.lt]; exact h.hit, fun j hj => by rw [e j (by have := h.lt; omega)]; exact h.miss j hj⟩

end
section
variable {κ : Type}
/-- To take out: the hole at q, the cell i looked at next. -/
def holeC (h : κ → Nat) : Nat → List (Cell κ) → Nat → Nat → List (Cell κ)
  | 0, c, q, _ => c.set q none
  | f + 1, c, q, i =>
    match c.getD i none with
    | none => c.set q none
    | some (k, x) => if way c.length (h k) q < way c.length (h k) i then holeC h f (c.set q (some (k, x))) i (pos c.length i 1) else holeC h f c q (pos c.length i 1)
/-- The hole is at q, whatever its cell holds; the cells from q to before i are done. -/
structure Hole (h : κ → Nat) (c : List (Cell κ)) (q i z : Nat) : Prop where
  home : ∀ k, h k < c.length
  q_lt : q < c.length
  i_lt : i < c.length
  ne : i ≠ q
  full : ∃ o, c[q]? = some (some o)
  free : c[z]? = some none
  one : ∀ (a b : Nat) (k : κ) (x y : Nat), a ≠ q → b ≠ q → c[a]? = some (some (k, x)) → c[b]? = some (some (k, y)) → a = b
  path : ∀ (a : Nat) (k : κ) (x : Nat), a ≠ q → c[a]? = some (some (k, x)) → ∀ j, j < way c.length (h k) a → c[pos c.length (h k) j]? ≠ some none ∧ (pos c.length (h k) j = q → way c.length q i ≤ way c.length q a)
  fill : ∀ j, j < way c.length q i → c[pos c.length q j]? ≠ some none
/-- What is there besides the hole. -/
def Rest (c : List (Cell κ)) (q : Nat) (o : κ × Nat) : Prop := ∃ a, a ≠ q ∧ c[a]? = some (some o)
theorem way_zero {n a b : Nat} (ha : a < n) (h : way n a b = 0) : a = b := by unfold way at h; split at h <;> omega
theorem way_self {n a : Nat} : way n a a = 0 := by unfold way; split <;> omega
theorem way_one {n a b : Nat} (ha : a < n) (hn : a ≠ b) : 1 ≤ way n a b := by
  rcases Nat.eq_zero_or_pos (way n a b) with h | h
  · exact absurd (way_zero ha h) hn
  · exact h
theorem way_next {n i : Nat} (hi : i < n) (hn : 2 ≤ n) : way n i (pos n i 1) = 1 := way_pos hi (by omega)
theorem way_step {n q i : Nat} (hq : q < n) (hi : i < n) (hw : way n q i + 1 < n) : way n q (pos n i 1) = way n q i + 1 := by
  unfold way pos at *
  split at hw <;> split <;> split <;> omega
theorem way_less {n i z : Nat} (hi : i < n) (hz : z < n) (hne : i ≠ z) : way n (pos n i 1) z + 1 = way n i z := by
  unfold way pos; split <;> split <;> split <;> omega
/-- Of three cells in a row from a on. -/
theorem way_mid {n a q b j : Nat} (hq : q < n) (hb : b < n) (hj : j < way n a b) (e : pos n a j = q) : way n a b = j + way n q b := by
  subst e
  unfold way pos at *
  split at hj <;> split <;> split <;> (try split) <;> omega
theorem pos_add {n a q j m : Nat} (ha : a < n) (hj : j + m < n) (e : pos n a j = q) : pos n q m = pos n a (j + m) := by
  subst e; unfold pos; split <;> split <;> split <;> omega
theorem hole_start {h : κ → Nat} {c : List (Cell κ)} (t : Tab h c) {q z : Nat} {o : κ × Nat} (hq : c[q]? = some (some o)) (hz : c[z]? = some none) (hn : 2 ≤ c.length) : Hole h c q (pos c.length q 1) z := by
  have hlt := lt_of_some hq
  have hw := way_next hlt hn
  have hi := pos_lt hlt (show 1 < c.length by omega)
  refine ⟨t.home, hlt, hi, fun e => ?_, ⟨o, hq⟩, hz, fun a b k x y _ _ => t.one a b k x y, fun a k x ha h1 j hj => ⟨t.path a k x h1 j hj, fun _ => ?_⟩, fun j hj => ?_⟩
  · rw [e, way_self] at hw; omega
  · rw [hw]; exact way_one hlt (fun e => ha e.symm)
  · rw [hw] at hj
    have : j = 0 := by omega
    subst this
    rw [pos_zero hlt, hq]; exact fun e => by cases e
theorem hole_skip {h : κ → Nat} {c : List (Cell κ)} {q i z : Nat} (t : Hole h c q i z) {k : κ} {x : Nat} (hi : c[i]? = some (some (k, x))) (hw : ¬ way c.length (h k) q < way c.length (h k) i) : Hole h c q (pos c.length i 1) z := by
  have hzl := lt_of_some t.free
  have hqz : q ≠ z := fun e => by obtain ⟨o, ho⟩ := t.full; rw [e, t.free] at ho; cases ho
  have hiz : i ≠ z := fun e => by rw [e, t.free] at hi; cases hi
  have hlt : way c.length q i + 1 < c.length := by
    rcases Nat.lt_or_ge (way c.length q i + 1) c.length with h1 | h1
    · exact h1
    · have h2 := way_lt t.q_lt hzl
      have h3 : way c.length q z ≠ way c.length q i := fun e => hiz (by rw [← pos_way t.q_lt t.i_lt, ← e, pos_way t.q_lt hzl])
      have := t.fill (way c.length q z) (by omega)
      rw [pos_way t.q_lt hzl] at this
      exact absurd t.free this
  have hs := way_step t.q_lt t.i_lt hlt
  have hpl := pos_lt t.i_lt (show 1 < c.length by have := way_one t.q_lt (fun e => t.ne e.symm); omega)
  refine ⟨t.home, t.q_lt, hpl, fun e => by rw [e, way_self] at hs; omega, t.full, t.free, t.one, fun a k' x' ha h1 j hj => ⟨(t.path a k' x' ha h1 j hj).1, fun e => ?_⟩, fun j hj => ?_⟩
  · have h2 := (t.path a k' x' ha h1 j hj).2 e
    rw [hs]
    rcases Nat.lt_or_ge (way c.length q i) (way c.length q a) with h3 | h3
    · omega
    · have hal := lt_of_some h1
      have e2 : a = i := by rw [← pos_way t.q_lt hal, show way c.length q a = way c.length q i by omega, pos_way t.q_lt t.i_lt]
      subst e2
      rw [hi] at h1
      simp only [Option.some.injEq, Prod.mk.injEq] at h1
      obtain ⟨rfl, rfl⟩ := h1
      have e3 : way c.length (h k) q = j := by rw [← e]; exact way_pos (t.home k) (Nat.lt_trans hj (way_lt (t.home k) hal))
      omega
  · rw [hs] at hj
    rcases Nat.lt_or_ge j (way c.length q i) with h3 | h3
    · exact t.fill j h3
    · have : j = way c.length q i := by omega
      subst this
      rw [pos_way t.q_lt t.i_lt, hi]; exact fun e => by cases e
theorem hole_move {h : κ → Nat} {c : List (Cell κ)} {q i z : Nat} (t : Hole h c q i z) {k : κ} {x : Nat} (hi : c[i]? = some (some (k, x))) (hw : way c.length (h k) q < way c.length (h k) i) :
    Hole h (c.set q (some (k, x))) i (pos c.length i 1) z ∧ cnt (c.set q (some (k, x))) = cnt c ∧ ∀ o, Rest (c.set q (some (k, x))) i o ↔ Rest c q o := by
  obtain ⟨o0, ho0⟩ := t.full
  have hqz : z ≠ q := fun e => by rw [← e, t.free] at ho0; cases ho0
  have hn : 2 ≤ c.length := by have := t.i_lt; have := t.q_lt; have := t.ne; omega
  have hpl := pos_lt t.i_lt (show 1 < c.length by omega)
  have hwi := way_next t.i_lt hn
  have hG := get_set c t.q_lt (some (k, x))
  refine ⟨⟨fun k' => by rw [List.length_set]; exact t.home k', by rw [List.length_set]; exact t.i_lt, by rw [List.length_set]; exact hpl, fun e => by rw [e, way_self] at hwi; omega,
    ⟨(k, x), by rw [hG, if_neg t.ne]; exact hi⟩, by rw [hG, if_neg hqz]; exact t.free, fun a b k' x' y' ha hb h1 h2 => ?_, fun a k' x' ha h1 j hj => ?_, fun j hj => ?_⟩, cnt_keep c q _ _ ho0, fun o => ⟨fun ⟨a, ha, h1⟩ => ?_, fun ⟨a, ha, h1⟩ => ?_⟩⟩
  · rw [hG] at h1 h2
    split at h1 <;> split at h2
    · omega
    · simp only [Option.some.injEq, Prod.mk.injEq] at h1
      rename_i hbq
      obtain ⟨rfl, rfl⟩ := h1
      exact absurd (t.one b i k y' x hbq t.ne h2 hi) hb
    · simp only [Option.some.injEq, Prod.mk.injEq] at h2
      rename_i haq _
      obtain ⟨rfl, rfl⟩ := h2
      exact absurd (t.one a i k x' x haq t.ne h1 hi) ha
    · rename_i haq hbq
      exact t.one a b k' x' y' haq hbq h1 h2
  · rw [List.length_set] at hj ⊢
    rw [hG] at h1 ⊢
    by_cases haq : a = q
    · rw [if_pos haq] at h1
      simp only [Option.some.injEq, Prod.mk.injEq] at h1
      obtain ⟨rfl, rfl⟩ := h1
      rw [haq] at hj ⊢
      have hjn : j < c.length := Nat.lt_trans hj (way_lt (t.home k) t.q_lt)
      have h3 := t.path i k x t.ne hi j (by omega)
      refine ⟨?_, fun e => ?_⟩
      · split
        · exact fun e => by cases e
        · exact h3.1
      · have := way_pos (t.home k) hjn
        rw [e] at this
        omega
    · rw [if_neg haq] at h1
      have h3 := t.path a k' x' haq h1 j hj
      refine ⟨?_, fun _ => ?_⟩
      · split
        · exact fun e => by cases e
        · exact h3.1
      · rw [hwi]
        exact way_one t.i_lt (fun e => ha e.symm)
  · rw [List.length_set] at hj ⊢
    rw [hwi] at hj
    have : j = 0 := by omega
    subst this
    rw [pos_zero t.i_lt, hG, if_neg t.ne, hi]; exact fun e => by cases e
  · rw [hG] at h1
    split at h1
    · simp only [Option.some.injEq] at h1
      subst h1
      exact ⟨i, t.ne, hi⟩
    · rename_i haq
      exact ⟨a, haq, h1⟩
  · by_cases e : a = i
    · subst e
      rw [hi] at h1
      simp only [Option.some.injEq] at h1
      subst h1
      exact ⟨q, fun e => t.ne e.symm, by rw [hG, if_pos rfl]⟩
    · exact ⟨a, e, by rw [hG, if_neg ha]; exact h1⟩
theorem hole_end {h : κ → Nat} {c : List (Cell κ)} {q i z : Nat} (t : Hole h c q i z) (hi : c[i]? = some none) :
    Tab h (c.set q none) ∧ (c.set q none).length = c.length ∧ cnt (c.set q none) + 1 = cnt c ∧ ∀ o, some o ∈ c.set q none ↔ Rest c q o := by
  obtain ⟨o0, ho0⟩ := t.full
  have hG := get_set c t.q_lt none
  refine ⟨⟨fun k' => by rw [List.length_set]; exact t.home k', fun a b k x y h1 h2 => ?_, fun a k x h1 j hj => ?_⟩, List.length_set, cnt_free c q _ ho0, fun o => ⟨fun hm => ?_, fun ⟨a, ha, h1⟩ => ?_⟩⟩
  · rw [hG] at h1 h2
    split at h1
    · cases h1
    · split at h2
      · cases h2
      · rename_i haq hbq
        exact t.one a b k x y haq hbq h1 h2
  · rw [List.length_set] at hj ⊢
    rw [hG] at h1 ⊢
    split at h1
    · cases h1
    · rename_i haq
      have hal := lt_of_some h1
      obtain ⟨h3, h4⟩ := t.path a k x haq h1 j hj
      split
      · rename_i e
        have h5 := h4 e
        have h6 := way_mid t.q_lt hal hj e
        have h7 := way_lt (t.home k) hal
        exfalso
        have e2 : pos c.length (h k) (j + way c.length q i) = i := by
          rw [← pos_add (t.home k) (by omega) e, pos_way t.q_lt t.i_lt]
        rcases Nat.lt_or_ge (j + way c.length q i) (way c.length (h k) a) with h8 | h8
        · have := (t.path a k x haq h1 _ h8).1
          rw [e2] at this
          exact this hi
        · have e3 : j + way c.length q i = way c.length (h k) a := by omega
          rw [e3, pos_way (t.home k) hal] at e2
          rw [e2, hi] at h1
          cases h1
      · exact h3
  · obtain ⟨a, ha⟩ := List.mem_iff_getElem?.1 hm
    rw [hG] at ha
    split at ha
    · cases ha
    · rename_i haq
      exact ⟨a, haq, ha⟩
  · exact List.mem_of_getElem? (i := a) (by rw [hG, if_neg ha]; exact h1)
theorem hole_all {h : κ → Nat} : ∀ (f : Nat) (c : List (Cell κ)) (q i z : Nat), Hole h c q i z → way c.length i z < f →
    Tab h (holeC h f c q i) ∧ (holeC h f c q i).length = c.length ∧ cnt (holeC h f c q i) + 1 = cnt c ∧ ∀ o, some o ∈ holeC h f c q i ↔ Rest c q o
  | 0, c, q, i, z, _, hf => by omega
  | f + 1, c, q, i, z, t, hf => by
    have hg : c.getD i none = c[i]'t.i_lt := by rw [List.getD_eq_getElem?_getD, List.getElem?_eq_getElem t.i_lt]; rfl
    have hi := List.getElem?_eq_getElem t.i_lt
    unfold holeC
    rw [hg]
    cases e : c[i]'t.i_lt with
    | none => exact hole_end t (by rw [hi, e])
    | some o =>
      obtain ⟨k, x⟩ := o
      rw [e] at hi
      have hiz : i ≠ z := fun e => by rw [e, t.free] at hi; cases hi
      have hl := way_less t.i_lt (lt_of_some t.free) hiz
      simp only
      split
      · rename_i hw
        obtain ⟨m1, m2, m3⟩ := hole_move t hi hw
        obtain ⟨a1, a2, a3, a4⟩ := hole_all f _ i (pos c.length i 1) z m1 (by rw [List.length_set]; omega)
        exact ⟨a1, by rw [a2, List.length_set], by rw [a3, m2], fun o => by rw [a4 o, m3 o]⟩
      · rename_i hw
        exact hole_all f c q (pos c.length i 1) z (hole_skip t hi hw) (by omega)
def delC (h : κ → Nat) (c : List (Cell κ)) (q : Nat) : List (Cell κ) := holeC h c.length c q (pos c.length q 1)
theorem del_tab {h : κ → Nat} {c : List (Cell κ)} (t : Tab h c) {q : Nat} {k : κ} {x : Nat} (hq : c[q]? = some (some (k, x))) (hf : none ∈ c) :
    Tab h (delC h c q) ∧ (delC h c q).length = c.length ∧ cnt (delC h c q) + 1 = cnt c ∧ ∀ (k' : κ) (x' : Nat), some (k', x') ∈ delC h c q ↔ k' ≠ k ∧ some (k', x') ∈ c := by
  obtain ⟨z, hz⟩ := List.mem_iff_getElem?.1 hf
  have hql := lt_of_some hq
  have hzl := lt_of_some hz
  have hne : q ≠ z := fun e => by rw [e, hz] at hq; cases hq
  have hn : 2 ≤ c.length := by omega
  have t0 := hole_start t hq hz hn
  obtain ⟨a1, a2, a3, a4⟩ := hole_all c.length c q _ z t0 (way_lt t0.i_lt hzl)
  refine ⟨a1, a2, a3, fun k' x' => ?_⟩
  unfold delC
  rw [a4]
  constructor
  · rintro ⟨a, ha, h1⟩
    exact ⟨fun e => by subst e; exact ha (t.one a q _ x' x h1 hq), List.mem_of_getElem? h1⟩
  · rintro ⟨hk, hm⟩
    obtain ⟨a, ha⟩ := List.mem_iff_getElem?.1 hm
    refine ⟨a, fun e => ?_, ha⟩
    rw [e, hq] at ha
    simp only [Option.some.injEq, Prod.mk.injEq] at ha
    exact hk ha.1.symm
end
end Go.Proofs.Ythabnffmlgppdaa.Tn
