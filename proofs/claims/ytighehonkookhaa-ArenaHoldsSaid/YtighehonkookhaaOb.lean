/- Proves plain facts on references that were returned, and on a map that holds whether each is there. No condition; no program. -/
import Derived.Test.YtighehonkookhaaNm
import Derived.Test.YtighehonkookhaaOa
namespace Go.Proofs.Ytighehonkookhaa.Ob
open Go.RowKit Go.Maps Nm Oa

/-- Was the reference ever returned? -/
def retB (s : St) (n g : Int) : Bool := decide (0 ≤ n) && decide (1 ≤ g) && (decide (g < (genAt s n : Int)) || hasB s n g)
/-- But for the number N the slots are as they were. -/
def Same (s s1 : St) (N : Int) : Prop := ∀ n : Int, 0 ≤ n → n ≠ N → ist s1 n = ist s n ∧ genAt s1 n = genAt s n
theorem same_other {s s1 : St} {N : Int} (h : Same s s1 N) {n : Int} (hn : n ≠ N) (g : Int) : retB s1 n g = retB s n g ∧ hasB s1 n g = hasB s n g := by
  by_cases h0 : 0 ≤ n
  · obtain ⟨e1, e2⟩ := h n h0 hn
    unfold retB hasB
    rw [e1, e2]
    exact ⟨rfl, rfl⟩
  · have e : ∀ s, ist s n = false := fun s => ist_neg (by omega)
    unfold retB hasB
    rw [e, e, decide_eq_false h0]
    exact ⟨rfl, rfl⟩
theorem take_turn {s s1 : St} {N Gn : Int} (h : Same s s1 N) (h0 : 0 ≤ N) (h1 : 1 ≤ Gn) (i0 : ist s N = false) (i1 : ist s1 N = true) (g1 : (genAt s1 N : Int) = Gn) (g0 : (genAt s N : Int) = Gn ∨ genAt s N = 0 ∧ Gn = 1) :
    retB s N Gn = false ∧ retB s1 N Gn = true ∧ hasB s1 N Gn = true ∧ ∀ n g : Int, ¬ (n = N ∧ g = Gn) → retB s1 n g = retB s n g ∧ hasB s1 n g = hasB s n g := by
  refine ⟨?_, ?_, ?_, fun n g hn => ?_⟩
  · unfold retB hasB
    rw [i0]
    have : ¬ Gn < (genAt s N : Int) := by omega
    simp [this]
  · unfold retB hasB
    rw [i1, g1]; simp [h0, h1]
  · unfold hasB
    rw [i1, g1]; simp
  · by_cases e : n = N
    · subst e
      have hg : g ≠ Gn := fun e => hn ⟨rfl, e⟩
      unfold retB hasB
      rw [i0, i1, g1]
      have e1 : decide (Gn = g) = false := decide_eq_false (fun e => hg e.symm)
      rw [e1]
      refine ⟨?_, rfl⟩
      simp only [Bool.and_false, Bool.false_and, Bool.or_false]
      rcases g0 with g0 | ⟨g0, rfl⟩
      · rw [g0]
      · rw [g0]
        by_cases hg1 : 1 ≤ g
        · rw [decide_eq_false (show ¬ g < 1 by omega), decide_eq_false (show ¬ g < ((0 : Nat) : Int) by omega)]
        · rw [decide_eq_false hg1]; simp
    · exact same_other h e g
theorem free_turn {s s1 : St} {N Gn : Int} (h : Same s s1 N) (h1 : 1 ≤ Gn) (hb : hasB s N Gn = true) (i1 : ist s1 N = false) (g1 : (genAt s1 N : Int) = Gn + 1) :
    hasB s1 N Gn = false ∧ retB s N Gn = true ∧ (∀ n g : Int, retB s1 n g = retB s n g) ∧ ∀ n g : Int, ¬ (n = N ∧ g = Gn) → hasB s1 n g = hasB s n g := by
  obtain ⟨i0, g0⟩ := has_spec hb
  obtain ⟨h0, _⟩ := ist_spec i0
  refine ⟨?_, ?_, fun n g => ?_, fun n g hn => ?_⟩
  · unfold hasB; rw [i1]; rfl
  · unfold retB; rw [hb]; simp [h0, h1]
  · by_cases e : n = N
    · subst e
      unfold retB hasB
      rw [i0, i1, g1, g0]
      simp only [Bool.true_and, Bool.false_and, Bool.or_false]
      congr 1
      by_cases hl : g < Gn
      · rw [decide_eq_true (show g < Gn + 1 by omega), decide_eq_true hl]; simp
      · by_cases he : Gn = g
        · rw [decide_eq_true (show g < Gn + 1 by omega), decide_eq_true he]; simp
        · rw [decide_eq_false (show ¬ g < Gn + 1 by omega), decide_eq_false he, decide_eq_false hl]; simp
    · exact (same_other h e g).1
  · by_cases e : n = N
    · subst e
      have hg : Gn ≠ g := fun e => hn ⟨rfl, e.symm⟩
      unfold hasB
      rw [i0, i1, g0, decide_eq_false hg]; rfl
    · exact (same_other h e g).2
/-- The map D holds of each reference that was returned whether it is there. -/
structure Tracks (D : DataW Unit) (s : St) : Prop where
  isMap : IsMap D
  at_ : ∀ n g : Int, In n → In g → has D (kl n g) = retB s n g ∧ D.atKey (kl n g) (.lit (.bool false)) = .lit (.bool (hasB s n g))
  ones : ∀ x ∈ s.gens, 1 ≤ x
/-- How many slots are taken. -/
def cntS (s : St) : Nat := s.gens.length - s.fr.length
theorem tracks_start : Tracks (.map []) ⟨[], [], []⟩ := by
  refine ⟨isMap_empty, fun n g _ _ => ?_, by simp⟩
  have e1 : ist ⟨[], [], []⟩ n = false := by unfold ist; simp
  have e2 : genAt ⟨[], [], []⟩ n = 0 := by unfold genAt; simp
  have e3 : hasB ⟨[], [], []⟩ n g = false := has_no e1
  unfold retB
  rw [e3, e2]
  refine ⟨?_, rfl⟩
  show false = _
  by_cases hg : 1 ≤ g
  · rw [decide_eq_false (show ¬ g < ((0 : Nat) : Int) by omega)]; simp
  · rw [decide_eq_false hg]; simp
theorem tracks_put {D : DataW Unit} {s s1 : St} {N Gn : Int} {c : Bool} (h : Tracks D s) (hN : In N) (hG : In Gn) (r1 : retB s1 N Gn = true) (r2 : hasB s1 N Gn = c) (r3 : ∀ n g : Int, ¬ (n = N ∧ g = Gn) → retB s1 n g = retB s n g ∧ hasB s1 n g = hasB s n g) (ho : ∀ x ∈ s1.gens, 1 ≤ x) :
    Tracks (D.put (kl N Gn) (.lit (.bool c))) s1 := by
  refine ⟨h.isMap.put _ _, fun n g hn hg => ?_, ho⟩
  by_cases e : n = N ∧ g = Gn
  · obtain ⟨rfl, rfl⟩ := e
    rw [has_put_same h.isMap (kl_key _ _), atKey_put_same h.isMap (kl_key _ _), r1, r2]
    exact ⟨rfl, rfl⟩
  · have hne : kl n g ≠ kl N Gn := fun e' => e (kl_inj hn hg hN hG e')
    obtain ⟨e1, e2⟩ := r3 n g e
    rw [has_put_other hne, atKey_put_other hne, e1, e2]
    exact h.at_ n g hn hg
theorem in_small {x : Int} (h0 : 0 ≤ x) (h1 : x ≤ 1000000000) : In x := ⟨by omega, by omega⟩
theorem take_step {M G : Nat} {s : St} {D : DataW Unit} (h : Tracks D s) (hi : Inv M G s) (hG : G ≤ 1000000000) (hM : M ≤ 1048576) :
    (tkE M s = 7 ∧ tkS M s = s ∧ tkN M s = 0 ∧ tkG M s = 0 ∧ cntS s = M) ∨
    (tkE M s = 0 ∧ cntS s < M ∧ cntS (tkS M s) = cntS s + 1 ∧ ((tkS M s).gens.length ≤ s.gens.length ∨ cntS s = s.gens.length) ∧ In (tkN M s) ∧ In (tkG M s) ∧ has D (kl (tkN M s) (tkG M s)) = false ∧ Tracks (D.put (kl (tkN M s) (tkG M s)) (.lit (.bool true))) (tkS M s)) := by
  rcases tk_ways M s with ⟨h1, h2⟩ | ⟨h1, h2⟩ | ⟨r, n, h1⟩
  · obtain ⟨e1, e2, e3, e4⟩ := tk_full h1 h2
    exact Or.inl ⟨e4, e1, e2, e3, by unfold cntS; rw [h1, h2]; rfl⟩
  · obtain ⟨e1, e2, e3, e4⟩ := tk_new h1 h2
    right
    have hle := hi.le
    have htl := hi.tl
    rw [e1, e2, e3, e4]
    have hs : Same s ⟨s.gens ++ [1], s.tk ++ [true], []⟩ (s.gens.length : Int) := fun m h0 hm => by
      unfold ist genAt
      rcases Nat.lt_or_ge m.toNat s.gens.length with hl | hl
      · rw [List.getElem?_append_left (by omega), List.getElem?_append_left hl]; exact ⟨rfl, rfl⟩
      · rw [List.getElem?_eq_none (l := s.tk ++ [true]) (by simp; omega), List.getElem?_eq_none (l := s.tk) (by omega), List.getElem?_eq_none (l := s.gens ++ [1]) (by simp; omega), List.getElem?_eq_none (l := s.gens) (by omega)]
        exact ⟨rfl, rfl⟩
    have hN : In (s.gens.length : Int) := in_small (by omega) (by omega)
    have h1' : In 1 := in_small (by omega) (by omega)
    obtain ⟨t1, t2, t3, t4⟩ := take_turn hs (by omega) (Int.le_refl 1) (ist_far (by omega)) (by rw [ist_nat]; simp [← htl]) (by unfold genAt; simp) (Or.inr ⟨by unfold genAt; simp, rfl⟩)
    refine ⟨rfl, by unfold cntS; rw [h1]; simp; omega, by unfold cntS; rw [h1]; simp, Or.inr (by unfold cntS; rw [h1]; rfl), hN, h1', by rw [(h.at_ _ _ hN h1').1]; exact t1, tracks_put h hN h1' t2 t3 t4 (fun x hx => ?_)⟩
    rcases List.mem_append.1 hx with hx | hx
    · exact h.ones x hx
    · rw [List.mem_singleton.1 hx]; exact Nat.le_refl _
  · obtain ⟨e1, e2, e3, e4⟩ := tk_old (M := M) h1
    right
    have hmem : n ∈ s.fr := by rw [h1]; simp
    have hlt := hi.lt hmem
    have hfr := hi.fre n hmem
    have htl := hi.tl
    have hle := hi.le
    have hfl := hi.frl
    have hgg := genAt_le hi (n : Int)
    have h1g : 1 ≤ genAt s (n : Int) := by rw [genAt_nat hlt]; exact h.ones _ (List.getElem_mem hlt)
    rw [e1, e2, e3, e4]
    have hs : Same s ⟨s.gens, s.tk.set n true, r⟩ (n : Int) := fun m h0 hm => by
      unfold ist genAt
      rw [List.getElem?_set_ne (by omega)]
      exact ⟨rfl, rfl⟩
    have hN : In (n : Int) := in_small (by omega) (by omega)
    have hGn : In (genAt s (n : Int) : Int) := in_small (by omega) (by omega)
    obtain ⟨t1, t2, t3, t4⟩ := take_turn hs (Gn := (genAt s (n : Int) : Int)) (by omega) (by omega) (by rw [ist_nat, hfr]; rfl) (by rw [ist_nat, List.getElem?_set_self (by omega)]; rfl) rfl (Or.inl rfl)
    rw [h1, List.length_append, List.length_singleton] at hfl
    exact ⟨rfl, by unfold cntS; rw [h1]; simp; omega, by unfold cntS; rw [h1]; simp; omega, Or.inl (Nat.le_refl _), hN, hGn, by rw [(h.at_ _ _ hN hGn).1]; exact t1, tracks_put h hN hGn t2 t3 t4 h.ones⟩
theorem free_step {M G : Nat} {s : St} {D : DataW Unit} (h : Tracks D s) (hi : Inv M G s) {n g : Int} (hn : In n) (hg : In g) (hb : hasB s n g = true) :
    Tracks (D.put (kl n g) (.lit (.bool false))) (frS s n g) ∧ cntS (frS s n g) + 1 = cntS s := by
  obtain ⟨i0, g0⟩ := has_spec hb
  obtain ⟨h0, ht⟩ := ist_spec i0
  have htl := hi.tl
  have hlt : n.toNat < s.gens.length := by rw [← htl]; exact (List.getElem?_eq_some_iff.1 ht).1
  have h1 : 1 ≤ g := by
    rw [← g0]
    have : 1 ≤ genAt s n := by unfold genAt; rw [List.getElem?_eq_getElem hlt]; exact h.ones _ (List.getElem_mem hlt)
    omega
  rw [(fr_yes hb).1]
  have hs : Same s ⟨s.gens.set n.toNat (g + 1).toNat, s.tk.set n.toNat false, s.fr ++ [n.toNat]⟩ n := fun m h0' hm => by
    unfold ist genAt
    rw [List.getElem?_set_ne (by omega), List.getElem?_set_ne (by omega)]
    exact ⟨rfl, rfl⟩
  obtain ⟨t1, t2, t3, t4⟩ := free_turn hs h1 hb (by unfold ist; rw [List.getElem?_set_self (by omega)]; simp) (by unfold genAt; rw [List.getElem?_set_self (by omega)]; simp; omega)
  have hc := hi.cnt
  have hpos : 0 < s.tk.count true := List.count_pos_iff.2 (List.mem_of_getElem? ht)
  refine ⟨tracks_put h hn hg (by rw [t3]; exact t2) t1 (fun a b hab => ⟨t3 a b, t4 a b hab⟩) (fun x hx => ?_), by unfold cntS; simp; omega⟩
  rcases List.mem_or_eq_of_mem_set hx with hx | rfl
  · exact h.ones x hx
  · omega
end Go.Proofs.Ytighehonkookhaa.Ob
