/- Proves what a map keyed by references holds, and the laws on it at the operations. No condition. -/
import Derived.Test.YtighehonkookhaaBk
import Derived.Test.YtighehonkookhaaNw
import Derived.Test.YtighehonkookhaaMi
import Derived.DeepKeys4
import Derived.Maps.RangeWalk
import Derived.Maps.OwnSet
import Derived.OpenShut
namespace Go.Proofs.Ytighehonkookhaa.Oa
open Go.RowKit Go.Maps Mi Nw

theorem cellsI : Try.prog.cellsOf 3 = 1 := by kernel_rfl
theorem cellsR : Try.prog.cellsOf 35 = 2 := by kernel_rfl
theorem wide : (match Try.prog.underlying 35 with | some (.array _ _) | some (.struct _) => true | _ => false) = true := by kernel_rfl
theorem keyed : Keyed Try.prog 35 := Keyed.of_law (deep_law_laid Bk.laidOut (m := 2) (by omega) (of_decide_eq_true (by kernel_rfl)) (by kernel_rfl) wide)
theorem isKey : Try.prog.keyType 35 = true := by kernel_rfl
/-- The numbers of an int. -/
def In (n : Int) : Prop := -9223372036854775808 ≤ n ∧ n ≤ 9223372036854775807
theorem in_wf {n : Int} (h : In n) : (Lit.int .i64 n).wf = true := by
  obtain ⟨h1, h2⟩ := h
  simp only [Lit.wf, Bool.and_eq_true, decide_eq_true_eq]
  exact ⟨h1, h2⟩
theorem wf_in {n : Int} (h : (Lit.int .i64 n).wf = true) : In n := Go.bounds_i64 h
/-- A reference, and what it reads as among keys. -/
def rv (n g : Int) : Value := .agg #[.int .i64 n, .int .i64 g]
def kl (n g : Int) : Lit := .string (keyBytes [.int .i64 n, .int .i64 g])
theorem lits_mk (d : Nat) {n g : Int} (hn : In n) (hg : In g) : Try.prog.keyLits (d + 2) 35 [.int .i64 n, .int .i64 g] = some [.int .i64 n, .int .i64 g] := by
  have hi : ∀ x : Int, In x → Try.prog.keyLits (d + 1) 3 [.int .i64 x] = some [.int .i64 x] := fun x hx => by
    unfold Program.keyLits
    rw [Try.underlying3]
    simp [in_wf hx]
  unfold Program.keyLits
  rw [Try.underlying35]
  simp [cellsR, cellsI, hi n hn, hi g hg]
theorem key_mk {n g : Int} (hn : In n) (hg : In g) : keyOf Try.prog 35 (rv n g) = some (kl n g) := by
  have hl : Try.prog.keyLits (Try.prog.types.size + 1) 35 (rv n g).cells.toList = some [.int .i64 n, .int .i64 g] := by
    obtain ⟨d, hd⟩ : ∃ d, Try.prog.types.size + 1 = d + 2 := ⟨Try.prog.types.size - 1, by have : 35 < Try.prog.types.size := of_decide_eq_true (by kernel_rfl); omega⟩
    rw [hd]
    exact lits_mk d hn hg
  unfold keyOf
  rw [Try.underlying35]
  simp only
  have hf : (rv n g).formed Try.prog 35 = true := by
    unfold rv Value.formed
    rw [Try.underlying35]
    simp [cellsR]
  rw [isKey, hf, hl]
  rfl
theorem lits_inv (d : Nat) {cs : List Value} {L : List Lit} (h : Try.prog.keyLits (d + 2) 35 cs = some L) : ∃ n g, cs = [.int .i64 n, .int .i64 g] ∧ L = [.int .i64 n, .int .i64 g] ∧ In n ∧ In g := by
  have hi : ∀ {cs : List Value} {L : List Lit}, Try.prog.keyLits (d + 1) 3 cs = some L → ∃ x, cs = [.int .i64 x] ∧ L = [.int .i64 x] ∧ In x := fun {cs L} h => by
    unfold Program.keyLits at h
    rw [Try.underlying3] at h
    rcases cs with _ | ⟨c, _ | ⟨c', r⟩⟩
    · simp at h
    · cases c <;> simp at h
      obtain ⟨⟨rfl, hw⟩, rfl⟩ := h
      exact ⟨_, rfl, rfl, wf_in hw⟩
    · simp at h
  unfold Program.keyLits at h
  rw [Try.underlying35] at h
  simp only [cellsR] at h
  split at h
  case isFalse => cases h
  case isTrue hc =>
    obtain ⟨hl, _⟩ := hc
    rcases cs with _ | ⟨a, _ | ⟨b, _ | ⟨c, r⟩⟩⟩
    · simp at hl
    · simp at hl
    · simp only [List.mapM_cons, List.mapM_nil, cellsI, List.drop_zero, List.drop_succ_cons, List.take_succ_cons, List.take_zero, Option.map_eq_some_iff] at h
      cases ha : Try.prog.keyLits (d + 1) 3 [a] with
      | none => rw [ha] at h; simp at h
      | some la =>
        cases hb : Try.prog.keyLits (d + 1) 3 [b] with
        | none => rw [ha, hb] at h; simp at h
        | some lb =>
          rw [ha, hb] at h
          obtain ⟨x, e1, rfl, hx⟩ := hi ha
          obtain ⟨y, e2, rfl, hy⟩ := hi hb
          simp at h
          exact ⟨x, y, by rw [List.singleton_inj.1 e1, List.singleton_inj.1 e2], h.symm, hx, hy⟩
    · simp at hl
theorem key_inv {v : Value} {l : Lit} (h : keyOf Try.prog 35 v = some l) : ∃ n g, v = rv n g ∧ l = kl n g ∧ In n ∧ In g := by
  obtain ⟨xs, L, rfl, hl, rfl⟩ := keyOf_top wide h
  obtain ⟨d, hd⟩ : ∃ d, Try.prog.types.size + 1 = d + 2 := ⟨Try.prog.types.size - 1, by have : 35 < Try.prog.types.size := of_decide_eq_true (by kernel_rfl); omega⟩
  rw [hd] at hl
  obtain ⟨n, g, e, rfl, hn, hg⟩ := lits_inv d hl
  exact ⟨n, g, by unfold rv; congr 1; exact Array.ext' e, rfl, hn, hg⟩
theorem kl_inj {n g n' g' : Int} (hn : In n) (hg : In g) (hn' : In n') (hg' : In g') (h : kl n g = kl n' g') : n = n' ∧ g = g' := by
  have h1 := keyed.inj (key_mk hn hg) (by rw [h]; exact key_mk hn' hg')
  unfold rv at h1
  simpa using h1
theorem kl_key (n g : Int) : WideAt.IsKeyLit (kl n g) := trivial
theorem elem_inv {H : Type} {v : Value} {z : DataW H × List MemPlace} (h : plainElem Try.prog 4 v = some z) : ∃ c, v = .bool c ∧ z = (.lit (.bool c), []) := by
  unfold plainElem at h
  rw [Try.underlying4] at h
  cases v <;> simp at h
  exact ⟨_, rfl, h.symm⟩
theorem zeroB (w : World) : (zeroValue 4).run Try.prog w = .ok (.bool false) w := by kernel_rfl
/-- Block b of w is a map of references of at most n entries that reads as D. -/
def Owns (w : World) (b n : Nat) (D : DataW Unit) : Prop := w.ownsMap Try.prog 35 (plainElem Try.prog 4) b n D
/-- A range over it, with cnt entries to come. -/
def Rng (w : World) (b r n : Nat) (D : DataW Unit) (cnt : Nat) : Prop := ∃ left, w.ranges Try.prog 35 (plainElem Try.prog 4) b r n D left cnt
theorem Owns.kept {w w' : World} {b n : Nat} {D : DataW Unit} {F : Nat → Prop} (h : Owns w b n D) (ho : Only F w w') (hb : ¬ F b) : Owns w' b n D := by
  have hlt := World.ownsMap.lt h
  obtain ⟨es, clock, h1, h2⟩ := h
  exact ⟨es, clock, by rw [ho.block _ hlt hb]; exact h1, h2⟩
section
variable {P : Program} (w : World) {ops : Array Oper} {rest : List Oper} {o : Oper} {a : Act} {Q : Exit → Act → World → Prop}
theorem at_ok (hg : o.guard = none) (m x : Operand) (hop : o.op = Op.lookup 56 m x true) (b n : Nat) (D : DataW Unit) (hm : a.eval m = .map (some b)) (hown : Owns w b n D) (i j : Int) (hi : In i) (hj : In j) (hx : a.eval x = .agg #[.int .i64 i, .int .i64 j])
    (c s : Bool) (hc : D.atKey (kl i j) (.lit (.bool false)) = .lit (.bool c)) (hs : has D (kl i j) = s) (hK : wpList Try.prog ops Q rest (a.put o.dst (.tuple #[.bool c, .bool s])) w) :
    wpList Try.prog ops Q (o :: rest) a w :=
  wpList_lookup_own_ok w hg m x _ hop _ _ keyed Try.underlying56 (plainElem Try.prog 4) (zeroB w) (.lit (.bool false)) [] (plainElem_bool Try.underlying4 false) b n D hm hown _ _ hx (key_mk hi hj) (fun v ps hv => by
    obtain ⟨c', rfl, he⟩ := elem_inv hv
    have e1 : D.atKey (kl i j) (.lit (.bool false)) = .lit (.bool c') := congrArg Prod.fst he
    rw [hc] at e1
    simp only [DataW.lit.injEq, Lit.bool.injEq] at e1
    rw [← e1, hs]; exact hK)
theorem at_no (hg : o.guard = none) (m x : Operand) (hop : o.op = Op.lookup 56 m x false) (b n : Nat) (D : DataW Unit) (hm : a.eval m = .map (some b)) (hown : Owns w b n D) (i j : Int) (hi : In i) (hj : In j) (hx : a.eval x = .agg #[.int .i64 i, .int .i64 j])
    (c : Bool) (hc : D.atKey (kl i j) (.lit (.bool false)) = .lit (.bool c)) (hK : wpList Try.prog ops Q rest (a.put o.dst (.bool c)) w) :
    wpList Try.prog ops Q (o :: rest) a w := by
  refine wpList_plain hg fun K' hK' => ?_
  obtain ⟨v, ps, hrun, hv⟩ := World.ownsMap.lookup hown keyed Try.underlying56 (zeroB w) (plainElem_bool Try.underlying4 false) (key_mk hi hj)
  obtain ⟨c', rfl, he⟩ := elem_inv hv
  have e1 : D.atKey (kl i j) (.lit (.bool false)) = .lit (.bool c') := congrArg Prod.fst he
  rw [hc] at e1
  simp only [DataW.lit.injEq, Lit.bool.injEq] at e1
  subst e1
  unfold rv at hrun
  unfold Oper.wp
  simp [execOp, hop, hm, hx, hrun, Result.andThen]
  exact hK' _ _ hK
theorem at_store (hg : o.guard = none) (m x v : Operand) (hop : o.op = Op.mapUpdate 56 m x v) (b n : Nat) (D : DataW Unit) (hm : a.eval m = .map (some b)) (hown : Owns w b n D) (hn : n < 1000000) (i j : Int) (hi : In i) (hj : In j) (hx : a.eval x = .agg #[.int .i64 i, .int .i64 j])
    (c : Bool) (hv : a.eval v = .bool c) (hK : ∀ w', Owns w' b (n + 1) (D.put (kl i j) (.lit (.bool c))) → Only (fun k => k = b) w w' → wpList Try.prog ops Q rest (a.put o.dst undef) w') :
    wpList Try.prog ops Q (o :: rest) a w :=
  wpList_mapUpdate_own w hg m x v _ hop _ _ keyed Try.underlying56 (plainElem Try.prog 4) b n D hm hown (by unfold maxLen; omega) _ _ _ hx hv (key_mk hi hj) _ _ (plainElem_bool Try.underlying4 c) (fun w' h1 h2 => hK w' h1 (Only.of_grown h2 (fun k e => by simp at e; exact e.symm)))
theorem at_rng (hg : o.guard = none) (m : Operand) (hop : o.op = Op.range 56 m) (b n : Nat) (D : DataW Unit) (hm : a.eval m = .map (some b)) (hown : Owns w b n D)
    (hK : ∀ w', Rng w' b w.heap.size n D (size D) → Below w.heap.size w w' → w'.heap.size = w.heap.size + 1 → wpList Try.prog ops Q rest (a.put o.dst (.pointer (some ⟨w.heap.size, 0, none⟩))) w') :
    wpList Try.prog ops Q (o :: rest) a w :=
  wpList_range_own w hg m _ hop _ _ keyed Try.underlying56 (plainElem Try.prog 4) b n D hm hown (fun w' h1 h2 h3 => hK w' ⟨_, h1⟩ ((Below.refl _ _).grown h2 (Nat.le_refl _) (fun j e => by cases e)) h3)
theorem at_step (hg : o.guard = none) (it : Operand) (hop : o.op = Op.next it false) (b r n : Nat) (D : DataW Unit) (cnt : Nat) (hit : a.eval it = .pointer (some ⟨r, 0, none⟩)) (h : Rng w b r n D cnt)
    (hDone : wpList Try.prog ops Q rest (a.put o.dst (.tuple #[.bool false])) w)
    (hMore : ∀ (i j : Int) (c : Bool) (w' : World) (cnt' : Nat), In i → In j → D.atKey (kl i j) (.lit (.bool false)) = .lit (.bool c) → Rng w' b r n D cnt' → cnt' < cnt → Only (fun k => k = r) w w' →
      (Instr.entry (.pointer (some ⟨r, 0, none⟩))).run Try.prog w' = .ok (.tuple #[.agg #[.int .i64 i, .int .i64 j], .bool c]) w' → wpList Try.prog ops Q rest (a.put o.dst (.tuple #[.bool true, .agg #[.int .i64 i, .int .i64 j], .bool c])) w') :
    wpList Try.prog ops Q (o :: rest) a w := by
  obtain ⟨left, h⟩ := h
  refine wpList_next_ranges w hg it hop _ keyed (plainElem Try.prog 4) (fun p : Int × Int => rv p.1 p.2) Value.bool (fun key kl hk => by obtain ⟨i, j, rfl, _⟩ := key_inv hk; exact ⟨(i, j), rfl⟩) (fun v y hv => by obtain ⟨c, rfl, _⟩ := elem_inv hv; exact ⟨c, rfl⟩)
    b r n D left cnt hit h (fun _ _ => hDone) (fun x c kl' y w' cnt' hkey _ hv hat hrg hlt hgr hsz hen => ?_)
  obtain ⟨i, j, e1, rfl, hi, hj⟩ := key_inv hkey
  obtain ⟨x1, x2⟩ := x
  unfold rv at e1
  simp only [Value.agg.injEq, Array.mk.injEq, List.cons.injEq, Value.int.injEq, true_and, and_true] at e1
  obtain ⟨rfl, rfl⟩ := e1
  obtain ⟨c', ec, rfl⟩ := elem_inv hv
  simp only [Value.bool.injEq] at ec
  subst ec
  exact hMore _ _ _ w' cnt' hi hj (hat _) ⟨_, hrg⟩ hlt (Only.of_grown hgr (fun k e => by simp at e; exact e.symm)) hen
theorem at_all (hg : o.guard = none) (it : Operand) (hop : o.op = Op.next it false) (b r n : Nat) (D : DataW Unit) (cnt : Nat) (f : Int → Int → Bool) (hf : ∀ i j : Int, In i → In j → D.atKey (kl i j) (.lit (.bool false)) = .lit (.bool (f i j))) (hit : a.eval it = .pointer (some ⟨r, 0, none⟩)) (h : Rng w b r n D cnt)
    (hDone : wpList Try.prog ops Q rest (a.put o.dst (.tuple #[.bool false])) w)
    (hMore : ∀ (i j : Int) (w' : World) (cnt' : Nat), Rng w' b r n D cnt' → cnt' < cnt → Only (fun k => k = r) w w' →
      (Instr.entry (.pointer (some ⟨r, 0, none⟩))).run Try.prog w' = .ok (.tuple #[.agg #[.int .i64 i, .int .i64 j], .bool (f i j)]) w' → wpList Try.prog ops Q rest (a.put o.dst (.tuple #[.bool true, .agg #[.int .i64 i, .int .i64 j], .bool (f i j)])) w') :
    wpList Try.prog ops Q (o :: rest) a w :=
  at_step w hg it hop b r n D cnt hit h hDone (fun i j c w' cnt' hi hj hat hrg hlt ho hen => by
    rw [hf i j hi hj] at hat
    simp only [DataW.lit.injEq, Lit.bool.injEq] at hat
    subst hat
    exact hMore i j w' cnt' hrg hlt ho hen)
end
theorem Rng.owns {w : World} {b r n cnt : Nat} {D : DataW Unit} (h : Rng w b r n D cnt) : Owns w b n D := let ⟨_, h⟩ := h; World.ranges.owns h
theorem Rng.left {w : World} {b r n cnt : Nat} {D : DataW Unit} (h : Rng w b r n D cnt) : w.rangeLeft b r = cnt := let ⟨_, h⟩ := h; h.left_eq
theorem Rng.kept {w w' : World} {b r n cnt : Nat} {D : DataW Unit} {F : Nat → Prop} (h : Rng w b r n D cnt) (ho : Only F w w') (hb : ¬ F b) (hr : ¬ F r) : Rng w' b r n D cnt := by
  obtain ⟨left, h⟩ := h
  have h1 := h.owns.lt
  have h2 := h.lt
  obtain ⟨es, clock, since, seen, c0, e1, F, hs, hD, e2, rest⟩ := h
  exact ⟨left, es, clock, since, seen, c0, by rw [ho.block _ h1 hb]; exact e1, F, hs, hD, by rw [ho.block _ h2 hr]; exact e2, rest⟩
theorem made (w : World) : Owns (w.alloc (.map #[] 0)) w.heap.size 0 (.map []) := World.ownsMap_made _ _ _ _
end Go.Proofs.Ytighehonkookhaa.Oa
