/- Proves plain facts on slots with generations: what is at a number, what taking and freeing leave, and the cells of a list of slots. No condition; no program. -/
import Derived.Test.YtighehonkookhaaMi
namespace Go.Proofs.Ytighehonkookhaa.Nm
open Go.RowKit

/-- Slots: the generation of each, whether it is taken, and the free ones, the one that was freed last at the end. -/
structure St where
  gens : List Nat
  tk : List Bool
  fr : List Nat
theorem st_eq {a b : St} (h1 : a.gens = b.gens) (h2 : a.tk = b.tk) (h3 : a.fr = b.fr) : a = b := by cases a; cases b; simp at h1 h2 h3; rw [h1, h2, h3]
/-- What holds of the slots of an arena with the maximum M, of which no generation is above G. -/
structure Inv (M G : Nat) (s : St) : Prop where
  tl : s.tk.length = s.gens.length
  le : s.gens.length ≤ M
  nd : s.fr.Nodup
  fre : ∀ n ∈ s.fr, s.tk[n]? = some false
  cnt : s.fr.length + s.tk.count true = s.tk.length
  gen : ∀ x ∈ s.gens, x ≤ G
theorem Inv.frl {M G : Nat} {s : St} (h : Inv M G s) : s.fr.length ≤ s.gens.length := by have := h.cnt; have := h.tl; omega
theorem Inv.lt {M G : Nat} {s : St} (h : Inv M G s) {n : Nat} (hn : n ∈ s.fr) : n < s.gens.length := by
  rw [← h.tl]; exact (List.getElem?_eq_some_iff.1 (h.fre n hn)).1
theorem Inv.mono {M G G' : Nat} {s : St} (h : Inv M G s) (hG : G ≤ G') : Inv M G' s := ⟨h.tl, h.le, h.nd, h.fre, h.cnt, fun x hx => Nat.le_trans (h.gen x hx) hG⟩
theorem Inv.start (M G : Nat) : Inv M G ⟨[], [], []⟩ := ⟨rfl, Nat.zero_le _, List.nodup_nil, by simp, rfl, by simp⟩

/-- Is the slot with this number taken? -/
def ist (s : St) (n : Int) : Bool := decide (0 ≤ n) && (s.tk[n.toNat]? == some true)
def genAt (s : St) (n : Int) : Nat := (s.gens[n.toNat]?).getD 0
def aN (s : St) (n : Int) : Int := if ist s n = true then n else 0
def aG (s : St) (n : Int) : Int := if ist s n = true then (genAt s n : Int) else 0
def aE (s : St) (n : Int) : Int := if ist s n = true then 0 else 9
/-- Is there a slot with this number that is taken with this generation? -/
def hasB (s : St) (n g : Int) : Bool := ist s n && decide ((genAt s n : Int) = g)
theorem ist_spec {s : St} {n : Int} (h : ist s n = true) : 0 ≤ n ∧ s.tk[n.toNat]? = some true := by
  unfold ist at h
  simp only [Bool.and_eq_true, decide_eq_true_eq, beq_iff_eq] at h
  exact h
theorem ist_nat {s : St} {k : Nat} : ist s (k : Int) = (s.tk[k]? == some true) := by unfold ist; simp
theorem ist_neg {s : St} {n : Int} (h : n < 0) : ist s n = false := by unfold ist; rw [decide_eq_false (by omega)]; rfl
theorem ist_far {s : St} {n : Int} (h : (s.tk.length : Int) ≤ n) : ist s n = false := by
  unfold ist
  rw [List.getElem?_eq_none (by omega)]
  simp
theorem genAt_nat {s : St} {k : Nat} (h : k < s.gens.length) : genAt s (k : Int) = s.gens[k] := by unfold genAt; rw [Int.toNat_natCast, List.getElem?_eq_getElem h]; rfl
theorem ans_yes {s : St} {n : Int} (h : ist s n = true) : aN s n = n ∧ aG s n = (genAt s n : Int) ∧ aE s n = 0 := by unfold aN aG aE; rw [if_pos h, if_pos h, if_pos h]; exact ⟨rfl, rfl, rfl⟩
theorem ans_no {s : St} {n : Int} (h : ist s n = false) : aN s n = 0 ∧ aG s n = 0 ∧ aE s n = 9 := by unfold aN aG aE; rw [h]; exact ⟨rfl, rfl, rfl⟩
theorem genAt_le {M G : Nat} {s : St} (h : Inv M G s) (n : Int) : genAt s n ≤ G := by
  unfold genAt
  cases e : s.gens[n.toNat]? with
  | none => exact Nat.zero_le _
  | some x => exact h.gen x (List.mem_of_getElem? e)

/-- What taking a slot leaves, and the reference and the error. -/
def tkS (M : Nat) (s : St) : St :=
  match s.fr.getLast? with
  | some n => ⟨s.gens, s.tk.set n true, s.fr.dropLast⟩
  | none => if s.gens.length = M then s else ⟨s.gens ++ [1], s.tk ++ [true], []⟩
def tkN (M : Nat) (s : St) : Int :=
  match s.fr.getLast? with
  | some n => (n : Int)
  | none => if s.gens.length = M then 0 else (s.gens.length : Int)
def tkG (M : Nat) (s : St) : Int :=
  match s.fr.getLast? with
  | some n => (genAt s (n : Int) : Int)
  | none => if s.gens.length = M then 0 else 1
def tkE (M : Nat) (s : St) : Int :=
  match s.fr.getLast? with
  | some _ => 0
  | none => if s.gens.length = M then 7 else 0
theorem tk_full {M : Nat} {s : St} (h : s.fr = []) (hM : s.gens.length = M) : tkS M s = s ∧ tkN M s = 0 ∧ tkG M s = 0 ∧ tkE M s = 7 := by
  unfold tkS tkN tkG tkE; rw [h]; simp [hM]
theorem tk_new {M : Nat} {s : St} (h : s.fr = []) (hM : s.gens.length ≠ M) : tkS M s = ⟨s.gens ++ [1], s.tk ++ [true], []⟩ ∧ tkN M s = (s.gens.length : Int) ∧ tkG M s = 1 ∧ tkE M s = 0 := by
  unfold tkS tkN tkG tkE; rw [h]; simp [hM]
theorem tk_old {M : Nat} {s : St} {r : List Nat} {n : Nat} (h : s.fr = r ++ [n]) : tkS M s = ⟨s.gens, s.tk.set n true, r⟩ ∧ tkN M s = (n : Int) ∧ tkG M s = (genAt s (n : Int) : Int) ∧ tkE M s = 0 := by
  unfold tkS tkN tkG tkE; rw [h]; simp
/-- The three ways of taking. -/
theorem tk_ways (M : Nat) (s : St) : (s.fr = [] ∧ s.gens.length = M) ∨ (s.fr = [] ∧ s.gens.length ≠ M) ∨ ∃ r n, s.fr = r ++ [n] := by
  rcases List.eq_nil_or_concat s.fr with h | ⟨r, n, h⟩
  · by_cases hM : s.gens.length = M
    · exact Or.inl ⟨h, hM⟩
    · exact Or.inr (Or.inl ⟨h, hM⟩)
  · exact Or.inr (Or.inr ⟨r, n, by rw [h, List.concat_eq_append]⟩)
theorem count_set_true : ∀ (l : List Bool) (n : Nat), l[n]? = some false → (l.set n true).count true = l.count true + 1
  | [], n, h => by simp at h
  | b :: r, 0, h => by simp at h; subst h; simp
  | b :: r, n + 1, h => by
    rw [List.set_cons_succ, List.count_cons, List.count_cons, count_set_true r n (by simpa using h)]; omega
theorem count_set_false : ∀ (l : List Bool) (n : Nat), l[n]? = some true → (l.set n false).count true + 1 = l.count true
  | [], n, h => by simp at h
  | b :: r, 0, h => by simp at h; subst h; simp
  | b :: r, n + 1, h => by
    have := count_set_false r n (by simpa using h)
    rw [List.set_cons_succ, List.count_cons, List.count_cons]; omega
theorem tk_inv {M G : Nat} {s : St} (h : Inv M G s) (hG : 1 ≤ G) : Inv M G (tkS M s) := by
  rcases tk_ways M s with ⟨h1, h2⟩ | ⟨h1, h2⟩ | ⟨r, n, h1⟩
  · rw [(tk_full h1 h2).1]; exact h
  · rw [(tk_new h1 h2).1]
    have := h.tl; have := h.le; have hc := h.cnt
    rw [h1] at hc
    refine ⟨by simp; omega, by simp; omega, List.nodup_nil, by simp, by simp at hc ⊢; omega, fun x hx => ?_⟩
    rcases List.mem_append.1 hx with hx | hx
    · exact h.gen x hx
    · simp at hx; omega
  · rw [(tk_old h1).1]
    have hf := h.fre; have hn := h.nd; have hc := h.cnt
    rw [h1] at hf hn hc
    have hfn := hf n (by simp)
    have hnr : n ∉ r := fun hm => by
      have := (List.nodup_append.1 hn).2.2 n hm n (by simp)
      exact this rfl
    refine ⟨by simp; exact h.tl, h.le, (List.nodup_append.1 hn).1, fun k hk => ?_, ?_, h.gen⟩
    · rw [List.getElem?_set_ne (fun (e : n = k) => hnr (by rw [e]; exact hk))]; exact hf k (by simp [hk])
    · show r.length + (s.tk.set n true).count true = (s.tk.set n true).length
      rw [count_set_true _ _ hfn, List.length_set]; simp at hc; omega

/-- What freeing a slot leaves. -/
def frS (s : St) (n g : Int) : St := if hasB s n g = true then ⟨s.gens.set n.toNat (g + 1).toNat, s.tk.set n.toNat false, s.fr ++ [n.toNat]⟩ else s
def frE (s : St) (n g : Int) : Int := if hasB s n g = true then 0 else 9
theorem has_spec {s : St} {n g : Int} (h : hasB s n g = true) : ist s n = true ∧ (genAt s n : Int) = g := by
  unfold hasB at h; simp only [Bool.and_eq_true, decide_eq_true_eq] at h; exact h
theorem has_mk {s : St} {n g : Int} (h : ist s n = true) (hg : (genAt s n : Int) = g) : hasB s n g = true := by unfold hasB; rw [h, decide_eq_true hg]; rfl
theorem has_no {s : St} {n g : Int} (h : ist s n = false) : hasB s n g = false := by unfold hasB; rw [h]; rfl
theorem has_other {s : St} {n g : Int} (hg : (genAt s n : Int) ≠ g) : hasB s n g = false := by unfold hasB; rw [decide_eq_false hg]; simp
theorem fr_yes {s : St} {n g : Int} (h : hasB s n g = true) : frS s n g = ⟨s.gens.set n.toNat (g + 1).toNat, s.tk.set n.toNat false, s.fr ++ [n.toNat]⟩ ∧ frE s n g = 0 := by unfold frS frE; rw [if_pos h, if_pos h]; exact ⟨rfl, rfl⟩
theorem fr_no {s : St} {n g : Int} (h : hasB s n g = false) : frS s n g = s ∧ frE s n g = 9 := by unfold frS frE; rw [h]; exact ⟨rfl, rfl⟩
theorem fr_inv {M G : Nat} {s : St} (h : Inv M G s) (n g : Int) : Inv M (G + 1) (frS s n g) := by
  cases hb : hasB s n g
  · rw [(fr_no hb).1]; exact h.mono (by omega)
  · rw [(fr_yes hb).1]
    obtain ⟨h1, h2⟩ := has_spec hb
    obtain ⟨h3, h4⟩ := ist_spec h1
    have hc := h.cnt
    have hcs := count_set_false _ _ h4
    have hgl := genAt_le h n
    have hnf : n.toNat ∉ s.fr := fun hm => by have := h.fre _ hm; rw [h4] at this; cases this
    refine ⟨by simp; exact h.tl, by simpa using h.le, ?_, fun k hk => ?_, ?_, fun x hx => ?_⟩
    · refine List.nodup_append.2 ⟨h.nd, by simp, fun a ha b hb e => ?_⟩
      rw [List.mem_singleton.1 hb] at e
      exact hnf (e ▸ ha)
    · show (s.tk.set n.toNat false)[k]? = some false
      have hk : k ∈ s.fr ++ [n.toNat] := hk
      rcases List.mem_append.1 hk with hk | hk
      · rw [List.getElem?_set_ne (fun (e : n.toNat = k) => hnf (by rw [e]; exact hk))]; exact h.fre k hk
      · rw [List.mem_singleton.1 hk, List.getElem?_set_self (List.getElem?_eq_some_iff.1 h4).1]
    · show (s.fr ++ [n.toNat]).length + (s.tk.set n.toNat false).count true = (s.tk.set n.toNat false).length
      rw [List.length_append, List.length_set]; simp; omega
    · rcases List.mem_or_eq_of_mem_set hx with hx | hx
      · exact Nat.le_succ_of_le (h.gen x hx)
      · rw [hx]; omega

/-- The references of the slots that are taken, by their numbers, from number i on. -/
def refsFrom : Nat → List Nat → List Bool → List (Nat × Nat)
  | i, g :: gs, t :: ts => if t = true then (i, g) :: refsFrom (i + 1) gs ts else refsFrom (i + 1) gs ts
  | _, _, _ => []
def refs (s : St) : List (Nat × Nat) := refsFrom 0 s.gens s.tk
theorem refsFrom_len : ∀ (i : Nat) (gs : List Nat) (ts : List Bool), ts.length = gs.length → (refsFrom i gs ts).length = ts.count true
  | _, [], [], _ => rfl
  | _, [], _ :: _, h => by simp at h
  | _, _ :: _, [], h => by simp at h
  | i, g :: gs, t :: ts, h => by
    unfold refsFrom
    have := refsFrom_len (i + 1) gs ts (by simpa using h)
    cases t
    · simp [this]
    · simp [this]
theorem refs_len {M G : Nat} {s : St} (h : Inv M G s) : (refs s).length = s.gens.length - s.fr.length := by
  unfold refs; rw [refsFrom_len _ _ _ h.tl]; have := h.cnt; have := h.tl; omega
theorem refsFrom_snoc : ∀ (i : Nat) (gs : List Nat) (ts : List Bool) (g : Nat) (t : Bool), ts.length = gs.length → refsFrom i (gs ++ [g]) (ts ++ [t]) = refsFrom i gs ts ++ (if t = true then [(i + gs.length, g)] else [])
  | i, [], [], g, t, _ => by cases t <;> simp [refsFrom]
  | _, [], _ :: _, _, _, h => by simp at h
  | _, _ :: _, [], _, _, h => by simp at h
  | i, g' :: gs, t' :: ts, g, t, h => by
    have := refsFrom_snoc (i + 1) gs ts g t (by simpa using h)
    rw [List.cons_append, List.cons_append]
    unfold refsFrom
    rw [this]
    cases t' <;> simp [show i + 1 + gs.length = i + (gs.length + 1) from by omega]
/-- One more slot is looked at. -/
theorem refs_step {s : St} (h : s.tk.length = s.gens.length) {k : Nat} (hk : k < s.gens.length) : refsFrom 0 (s.gens.take (k + 1)) (s.tk.take (k + 1)) = refsFrom 0 (s.gens.take k) (s.tk.take k) ++ (if s.tk[k]'(by omega) = true then [(k, s.gens[k])] else []) := by
  rw [List.take_succ_eq_append_getElem hk, List.take_succ_eq_append_getElem (l := s.tk) (by omega), refsFrom_snoc _ _ _ _ _ (by simp; omega)]
  simp [show min k s.gens.length = k from by omega]
theorem refs_all (s : St) (h : s.tk.length = s.gens.length) : refsFrom 0 (s.gens.take s.gens.length) (s.tk.take s.gens.length) = refs s := by
  rw [List.take_length, ← h, List.take_length]; rfl
theorem refs_mem : ∀ (i : Nat) (gs : List Nat) (ts : List Bool) (x : Nat × Nat), x ∈ refsFrom i gs ts → ∃ k, x.1 = i + k ∧ ts[k]? = some true ∧ gs[k]? = some x.2
  | _, [], _, _, h => by simp [refsFrom] at h
  | _, _ :: _, [], _, h => by simp [refsFrom] at h
  | i, g :: gs, t :: ts, x, h => by
    unfold refsFrom at h
    have next : x ∈ refsFrom (i + 1) gs ts → ∃ k, x.1 = i + k ∧ (t :: ts)[k]? = some true ∧ (g :: gs)[k]? = some x.2 := fun h => by
      obtain ⟨k, h1, h2, h3⟩ := refs_mem (i + 1) gs ts x h
      exact ⟨k + 1, by omega, by simpa using h2, by simpa using h3⟩
    cases t
    · exact next (by simpa using h)
    · simp only [if_true, List.mem_cons] at h
      rcases h with rfl | h
      · exact ⟨0, rfl, rfl, rfl⟩
      · exact next h
/-- Each of the references is there. -/
theorem refs_has {s : St} {x : Nat × Nat} (h : x ∈ refs s) : hasB s (x.1 : Int) (x.2 : Int) = true := by
  obtain ⟨k, h1, h2, h3⟩ := refs_mem _ _ _ _ h
  obtain rfl : x.1 = k := by omega
  refine has_mk (by rw [ist_nat, h2]; rfl) ?_
  unfold genAt; rw [Int.toNat_natCast, h3]; rfl

/-- The cells of slots. -/
def sl : List Nat → List Bool → List Value
  | g :: gs, t :: ts => .int .i64 (g : Int) :: .bool t :: sl gs ts
  | _, _ => []
theorem sl_len : ∀ (gs : List Nat) (ts : List Bool), ts.length = gs.length → (sl gs ts).length = gs.length * 2
  | [], [], _ => rfl
  | [], _ :: _, h => by simp at h
  | _ :: _, [], h => by simp at h
  | g :: gs, t :: ts, h => by
    have := sl_len gs ts (by simpa using h)
    simp [sl, this]; omega
theorem sl_get : ∀ (gs : List Nat) (ts : List Bool) (h : ts.length = gs.length) (k : Nat) (hk : k < gs.length), (sl gs ts)[k * 2]? = some (.int .i64 (gs[k] : Int)) ∧ (sl gs ts)[k * 2 + 1]? = some (.bool (ts[k]'(by omega)))
  | [], _, _, _, hk => by simp at hk
  | _ :: _, [], h, _, _ => by simp at h
  | g :: gs, t :: ts, _, 0, _ => ⟨rfl, rfl⟩
  | g :: gs, t :: ts, h, k + 1, hk => by
    have := sl_get gs ts (by simpa using h) k (by simpa using hk)
    rw [show (k + 1) * 2 = k * 2 + 1 + 1 from by omega]
    simp only [sl, List.getElem?_cons_succ, List.getElem_cons_succ]
    exact this
theorem sl_snoc : ∀ (gs : List Nat) (ts : List Bool) (g : Nat) (t : Bool), ts.length = gs.length → sl (gs ++ [g]) (ts ++ [t]) = sl gs ts ++ [.int .i64 (g : Int), .bool t]
  | [], [], _, _, _ => rfl
  | [], _ :: _, _, _, h => by simp at h
  | _ :: _, [], _, _, h => by simp at h
  | g' :: gs, t' :: ts, g, t, h => by
    have := sl_snoc gs ts g t (by simpa using h)
    simp [sl, this]
theorem sl_setT : ∀ (gs : List Nat) (ts : List Bool) (k : Nat) (b : Bool), k < gs.length → (sl gs ts).set (k * 2 + 1) (.bool b) = sl gs (ts.set k b)
  | [], _, _, _, h => by simp at h
  | _ :: _, [], _, _, _ => rfl
  | g :: gs, t :: ts, 0, b, _ => rfl
  | g :: gs, t :: ts, k + 1, b, h => by
    have := sl_setT gs ts k b (by simpa using h)
    rw [show (k + 1) * 2 + 1 = (k * 2 + 1) + 1 + 1 from by omega]
    simp only [sl, List.set_cons_succ]
    rw [this]
theorem sl_setG : ∀ (gs : List Nat) (ts : List Bool) (k : Nat) (x : Nat), (sl gs ts).set (k * 2) (.int .i64 (x : Int)) = sl (gs.set k x) ts
  | [], _, _, _ => rfl
  | _ :: _, [], k, _ => by cases k <;> rfl
  | g :: gs, t :: ts, 0, b => rfl
  | g :: gs, t :: ts, k + 1, b => by
    have := sl_setG gs ts k b
    rw [show (k + 1) * 2 = k * 2 + 1 + 1 from by omega]
    simp only [sl, List.set_cons_succ]
    rw [this]
theorem sl_one : ∀ (gs : List Nat) (ts : List Bool), ∀ u ∈ sl gs ts, u.oneCell' = true
  | [], _, _, h => by simp [sl] at h
  | _ :: _, [], _, h => by simp [sl] at h
  | g :: gs, t :: ts, u, h => by
    simp only [sl, List.mem_cons] at h
    rcases h with rfl | rfl | h
    · rfl
    · rfl
    · exact sl_one gs ts u h
/-- The cells of references. -/
def rfL (l : List (Nat × Nat)) : List Value := l.flatMap fun x => [.int .i64 (x.1 : Int), .int .i64 (x.2 : Int)]
theorem rfL_len : ∀ (l : List (Nat × Nat)), (rfL l).length = l.length * 2
  | [] => rfl
  | x :: r => by
    have := rfL_len r
    unfold rfL at this ⊢
    rw [List.flatMap_cons, List.length_append, this]; simp; omega
theorem rfL_snoc (l : List (Nat × Nat)) (x : Nat × Nat) : rfL (l ++ [x]) = rfL l ++ [.int .i64 (x.1 : Int), .int .i64 (x.2 : Int)] := by unfold rfL; simp
theorem rfL_get : ∀ (l : List (Nat × Nat)) (k : Nat) (hk : k < l.length), (rfL l)[k * 2]? = some (.int .i64 (l[k].1 : Int)) ∧ (rfL l)[k * 2 + 1]? = some (.int .i64 (l[k].2 : Int))
  | [], _, hk => by simp at hk
  | x :: r, 0, _ => ⟨rfl, rfl⟩
  | x :: r, k + 1, hk => by
    have := rfL_get r k (by simpa using hk)
    rw [show (k + 1) * 2 = k * 2 + 1 + 1 from by omega]
    unfold rfL at this ⊢
    rw [List.flatMap_cons]
    exact this
theorem rfL_set : ∀ (l : List (Nat × Nat)) (k : Nat) (hk : k < l.length) (y : Nat), (rfL l).set (k * 2 + 1) (.int .i64 (y : Int)) = rfL (l.set k (l[k].1, y))
  | [], _, hk, _ => by simp at hk
  | x :: r, 0, _, _ => rfl
  | x :: r, k + 1, hk, y => by
    have := rfL_set r k (by simpa using hk) y
    rw [show (k + 1) * 2 + 1 = (k * 2 + 1) + 1 + 1 from by omega]
    have e : ∀ (z : Nat × Nat) (q : List (Nat × Nat)), rfL (z :: q) = .int .i64 (z.1 : Int) :: .int .i64 (z.2 : Int) :: rfL q := fun _ _ => rfl
    rw [e, List.set_cons_succ, List.set_cons_succ, List.set_cons_succ, e, this]
    rfl
def ints (l : List Nat) : List Value := l.map fun (n : Nat) => .int .i64 (n : Int)
def bools (l : List Bool) : List Value := l.map fun b => .bool b
theorem ints_one (l : List Nat) : ∀ u ∈ ints l, u.oneCell' = true := fun u hu => by obtain ⟨y, _, rfl⟩ := List.mem_map.1 hu; rfl
theorem bools_one (l : List Bool) : ∀ u ∈ bools l, u.oneCell' = true := fun u hu => by obtain ⟨y, _, rfl⟩ := List.mem_map.1 hu; rfl
end Go.Proofs.Ytighehonkookhaa.Nm
