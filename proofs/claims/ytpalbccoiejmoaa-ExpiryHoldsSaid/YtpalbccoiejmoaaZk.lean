/- Proves the laws on a map of the call's own from ints to ints at the operations, and what a map of ints says of a function. No condition but few entries. -/
import Derived.Test.YtpalbccoiejmoaaYc
import Derived.Maps.RangeWalk
import Derived.Maps.OwnSet
import Derived.Maps.OwnOps
import Derived.Shelf.Lay
import Derived.Shelf.SlMaps.Clone
namespace Go.Proofs.Ytpalbccoiejmoaa.Zk
open Go.RowKit Go.Maps Mi Nw

/-- What an int can be. -/
def In (n : Int) : Prop := -9223372036854775808 ≤ n ∧ n ≤ 9223372036854775807
def kl (n : Int) : Lit := .int .i64 n
theorem keyed : Keyed Try.prog 3 := Maps.int_keyed Try.underlying3
theorem in_wf {n : Int} (h : In n) : (Lit.int .i64 n).wf = true := by
  obtain ⟨h1, h2⟩ := h
  simp only [Lit.wf, Bool.and_eq_true, decide_eq_true_eq]
  exact ⟨h1, h2⟩
theorem key_mk {n : Int} (hn : In n) : keyOf Try.prog 3 (.int .i64 n) = some (kl n) := Maps.keyOf_int_mk Try.underlying3 (in_wf hn)
theorem kl_key (n : Int) : WideAt.IsKeyLit (kl n) := trivial
theorem kl_inj {n m : Int} (h : kl n = kl m) : n = m := by unfold kl at h; injection h
theorem zeroI (w : World) : (zeroValue 3).run Try.prog w = .ok (.int .i64 0) w := by kernel_rfl
/-- Block b of w is a map from ints to ints of at most n entries that reads as D. -/
def Owns (w : World) (b n : Nat) (D : DataW Unit) : Prop := w.ownsMap Try.prog 3 (plainElem Try.prog 3) b n D
theorem Owns.lt {w : World} {b n : Nat} {D : DataW Unit} (h : Owns w b n D) : b < w.heap.size := World.ownsMap.lt h
theorem Owns.kept {w w' : World} {b n : Nat} {D : DataW Unit} {F : Nat → Prop} (h : Owns w b n D) (ho : Only F w w') (hb : ¬ F b) : Owns w' b n D := by
  have hlt := World.ownsMap.lt h
  obtain ⟨es, clock, h1, h2⟩ := h
  exact ⟨es, clock, by rw [ho.block _ hlt hb]; exact h1, h2⟩
theorem made (w : World) : Owns (w.alloc (.map #[] 0)) w.heap.size 0 (.map []) := World.ownsMap_made _ _ _ _
theorem Owns.tidy {w : World} {b n : Nat} {D : DataW Unit} (h : Owns w b n D) : Tidy D := World.ownsMap.tidy h keyed
section
variable {P : Program} (w : World) {ops : Array Oper} {rest : List Oper} {o : Oper} {a : Act} {Q : Exit → Act → World → Prop}
theorem at_ok (hg : o.guard = none) (m x : Operand) (hop : o.op = Op.lookup 53 m x true) (b n : Nat) (D : DataW Unit) (hm : a.eval m = .map (some b)) (hown : Owns w b n D) (k : Int) (hk : In k) (hx : a.eval x = .int .i64 k)
    (c : Int) (s : Bool) (hc : D.atKey (kl k) (.lit (.int .i64 0)) = .lit (.int .i64 c)) (hs : has D (kl k) = s) (hK : wpList Try.prog ops Q rest (a.put o.dst (.tuple #[.int .i64 c, .bool s])) w) :
    wpList Try.prog ops Q (o :: rest) a w :=
  wpList_lookup_own_ok_int w hg m x _ hop _ _ .i64 keyed Try.underlying53 Try.underlying3 (zeroI w) b n D hm hown _ _ hx (key_mk hk) (fun c' e1 _ => by
    rw [hc] at e1
    simp only [DataW.lit.injEq, Lit.int.injEq, true_and] at e1
    rw [← e1, hs]; exact hK)
theorem at_store (hg : o.guard = none) (m x v : Operand) (hop : o.op = Op.mapUpdate 53 m x v) (b n : Nat) (D : DataW Unit) (hm : a.eval m = .map (some b)) (hown : Owns w b n D) (hn : n < 1000000) (k : Int) (hk : In k) (hx : a.eval x = .int .i64 k)
    (c : Int) (hci : In c) (hv : a.eval v = .int .i64 c) (hK : ∀ w', Owns w' b (n + 1) (D.put (kl k) (.lit (.int .i64 c))) → Only (fun k => k = b) w w' → wpList Try.prog ops Q rest (a.put o.dst undef) w') :
    wpList Try.prog ops Q (o :: rest) a w :=
  wpList_mapUpdate_own w hg m x v _ hop _ _ keyed Try.underlying53 (plainElem Try.prog 3) b n D hm hown (by unfold maxLen; omega) _ _ _ hx hv (key_mk hk) _ _ (plainElem_int Try.underlying3 (in_wf hci)) (fun w' h1 h2 => hK w' h1 (Only.of_grown h2 (fun k e => by simp at e; exact e.symm)))
theorem at_del (hg : o.guard = none) (m x : Operand) (hop : o.op = Op.call { callee := Callee.builtin Builtin.delete, args := #[m, x], argTypes := #[53, 3] }) (b n : Nat) (D : DataW Unit) (hm : a.eval m = .map (some b)) (hown : Owns w b n D) (k : Int) (hk : In k) (hx : a.eval x = .int .i64 k)
    (hK : ∀ w', Owns w' b n (D.del (kl k)) → Only (fun k => k = b) w w' → wpList Try.prog ops Q rest (a.put o.dst (.tuple #[])) w') :
    wpList Try.prog ops Q (o :: rest) a w :=
  wpList_delete_own w hg m x _ _ hop _ keyed Try.underlying53 (plainElem Try.prog 3) b n D hm hown _ _ hx (key_mk hk) (fun w' h1 h2 => hK w' h1 (Only.of_grown h2.grown (fun k e => by simp at e; exact e.symm)))
theorem at_len (hg : o.guard = none) (m : Operand) (hop : o.op = Op.call { callee := Callee.builtin Builtin.len, args := #[m], argTypes := #[53] }) (b n : Nat) (D : DataW Unit) (hm : a.eval m = .map (some b)) (hown : Owns w b n D) (z : Nat) (hz : Maps.size D = z)
    (hK : wpList Try.prog ops Q rest (a.put o.dst (.int .i64 (z : Int))) w) : wpList Try.prog ops Q (o :: rest) a w :=
  wpList_len_own w hg m _ hop _ _ Try.underlying53 (plainElem Try.prog 3) b n D hm hown (by rw [hz]; exact hK)
end
theorem look_run {w : World} {b n : Nat} {D : DataW Unit} (h : Owns w b n D) {k : Int} (hk : In k) {c : Int} (hc : D.atKey (kl k) (.lit (.int .i64 0)) = .lit (.int .i64 c)) :
    (Instr.lookup 53 (.map (some b)) (.int .i64 k) false).run Try.prog w = .ok (.int .i64 c) w := by
  obtain ⟨c', h1, h2, _⟩ := World.ownsMap.lookup_int h keyed Try.underlying53 Try.underlying3 (zeroI w) (key_mk hk)
  rw [hc] at h2
  simp only [DataW.lit.injEq, Lit.int.injEq, true_and] at h2
  rw [h2]; exact h1
def upd (f : Int → Int) (n v : Int) : Int → Int := fun m => if m = n then v else f m
theorem upd_eq (f : Int → Int) (n v : Int) : upd f n v n = v := by simp [upd]
theorem upd_ne {f : Int → Int} {n v m : Int} (h : m ≠ n) : upd f n v m = f m := by simp [upd, h]
/-- A datum says f of all numbers in p, which are k. -/
structure Md (D : DataW Unit) (p : Int → Prop) (k : Nat) (f : Int → Int) : Prop where
  tidy : Tidy D
  mem : ∀ n, has D (kl n) = true ↔ p n
  val : ∀ n, p n → D.atKey (kl n) (.lit (.int .i64 0)) = .lit (.int .i64 (f n))
  sz : Maps.size D = k
section
variable {D : DataW Unit} {p : Int → Prop} {k : Nat} {f : Int → Int}
theorem md_nil : Md (.map []) (fun _ => False) 0 f := ⟨tidy_empty, fun n => by simp [has_eq], fun n h => h.elim, rfl⟩
theorem Md.put_raw (h : Md D p k f) (n v : Int) {k' : Nat} (hk : Maps.size (D.put (kl n) (.lit (.int .i64 v))) = k') : Md (D.put (kl n) (.lit (.int .i64 v))) (fun m => m = n ∨ p m) k' (upd f n v) := by
  obtain ⟨h1, h2, h3, h4⟩ := h
  refine ⟨h1.put (kl_key n) _, fun m => ?_, fun m hm => ?_, hk⟩
  · by_cases e : m = n
    · subst e; rw [has_put_same h1.isMap (kl_key m)]; simp
    · rw [has_put_other (fun h => e (kl_inj h)), h2]; simp [e]
  · by_cases e : m = n
    · subst e; rw [atKey_put_same h1.isMap (kl_key m), upd_eq]
    · rw [atKey_put_other (fun h => e (kl_inj h)), h3 m (hm.resolve_left e), upd_ne e]
theorem Md.put_old (h : Md D p k f) {n : Int} (hn : p n) (v : Int) : Md (D.put (kl n) (.lit (.int .i64 v))) p k (upd f n v) := by
  have hs : Maps.size (D.put (kl n) (.lit (.int .i64 v))) = k := by rw [size_put h.tidy, (h.mem n).2 hn, h.sz]; rfl
  obtain ⟨h1, h2, h3, h4⟩ := h.put_raw n v hs
  have e : ∀ m, (m = n ∨ p m) ↔ p m := fun m => ⟨fun h => h.elim (fun e => e ▸ hn) id, Or.inr⟩
  exact ⟨h1, fun m => (h2 m).trans (e m), fun m hm => h3 m (Or.inr hm), h4⟩
theorem Md.put_new (h : Md D p k f) {n : Int} (hn : ¬ p n) (v : Int) : Md (D.put (kl n) (.lit (.int .i64 v))) (fun m => m = n ∨ p m) (k + 1) (upd f n v) :=
  h.put_raw n v (by
    have : has D (kl n) = false := by cases e : has D (kl n) with
      | false => rfl
      | true => exact absurd ((h.mem n).1 e) hn
    rw [size_put h.tidy, this, h.sz]; rfl)
theorem Md.del (h : Md D p (k + 1) f) {n : Int} (hn : p n) : Md (D.del (kl n)) (fun m => p m ∧ m ≠ n) k f := by
  obtain ⟨h1, h2, h3, h4⟩ := h
  refine ⟨h1.del _, fun m => ?_, fun m hm => ?_, ?_⟩
  · by_cases e : m = n
    · subst e; rw [has_del_same]; simp
    · rw [has_del_other (fun h => e (kl_inj h)), h2]; simp [e]
  · rw [atKey_del_other (fun h => hm.2 (kl_inj h))]; exact h3 m hm.1
  · have := size_del (k := kl n) h1
    rw [h4, (h2 n).2 hn] at this
    simp at this; omega
theorem Md.ext (h : Md D p k f) {q : Int → Prop} {k' : Nat} {g : Int → Int} (hp : ∀ m, p m ↔ q m) (hk : k = k') (hf : ∀ m, q m → f m = g m) : Md D q k' g :=
  ⟨h.tidy, fun m => (h.mem m).trans (hp m), fun m hm => by rw [h.val m ((hp m).2 hm), hf m hm], h.sz.trans hk⟩
/-- What a look-up says. -/
theorem Md.no (h : Md D p k f) {n : Int} (hn : ¬ p n) : has D (kl n) = false ∧ D.atKey (kl n) (.lit (.int .i64 0)) = .lit (.int .i64 0) := by
  have : has D (kl n) = false := by cases e : has D (kl n) with
    | false => rfl
    | true => exact absurd ((h.mem n).1 e) hn
  exact ⟨this, atKey_of_not_has this _⟩
end
/-- Block b is a map that reads as D. -/
def Own (w : World) (b : Nat) (D : DataW Unit) : Prop := Owns w b (Maps.size D) D
theorem Own.of {w : World} {b n : Nat} {D : DataW Unit} (h : Owns w b n D) : Own w b D := by
  obtain ⟨es, clock, h1, h2, _, h4⟩ := h
  refine ⟨es, clock, h1, h2, ?_, h4⟩
  have h5 : Maps.size D = es.size := by rw [h4]; show List.length _ = _; rw [length_sorted]; simp
  omega
theorem Own.lt {w : World} {b : Nat} {D : DataW Unit} (h : Own w b D) : b < w.heap.size := Owns.lt h
theorem Own.kept {w w' : World} {b : Nat} {D : DataW Unit} {F : Nat → Prop} (h : Own w b D) (ho : Only F w w') (hb : ¬ F b) : Own w' b D := Owns.kept h ho hb
section
variable {P : Program} (w : World) {ops : Array Oper} {rest : List Oper} {o : Oper} {a : Act} {Q : Exit → Act → World → Prop}
theorem to_store (hg : o.guard = none) (m x v : Operand) (hop : o.op = Op.mapUpdate 53 m x v) (b : Nat) (D : DataW Unit) (hm : a.eval m = .map (some b)) (hown : Own w b D) (hn : Maps.size D ≤ 2000000) (k : Int) (hk : In k) (hx : a.eval x = .int .i64 k)
    (c : Int) (hci : In c) (hv : a.eval v = .int .i64 c) (hK : ∀ w', Own w' b (D.put (kl k) (.lit (.int .i64 c))) → Only (fun k => k = b) w w' → wpList Try.prog ops Q rest (a.put o.dst undef) w') :
    wpList Try.prog ops Q (o :: rest) a w :=
  wpList_mapUpdate_own w hg m x v _ hop _ _ keyed Try.underlying53 (plainElem Try.prog 3) b _ D hm hown (by unfold maxLen; omega) _ _ _ hx hv (key_mk hk) _ _ (plainElem_int Try.underlying3 (in_wf hci)) (fun w' h1 h2 => hK w' (Own.of h1) (Only.of_grown h2 (fun k e => by simp at e; exact e.symm)))
theorem to_del (hg : o.guard = none) (m x : Operand) (hop : o.op = Op.call { callee := Callee.builtin Builtin.delete, args := #[m, x], argTypes := #[53, 3] }) (b : Nat) (D : DataW Unit) (hm : a.eval m = .map (some b)) (hown : Own w b D) (k : Int) (hk : In k) (hx : a.eval x = .int .i64 k)
    (hK : ∀ w', Own w' b (D.del (kl k)) → Only (fun k => k = b) w w' → wpList Try.prog ops Q rest (a.put o.dst (.tuple #[])) w') :
    wpList Try.prog ops Q (o :: rest) a w :=
  at_del w hg m x hop b _ D hm hown k hk hx (fun w' h1 h2 => hK w' (Own.of h1) h2)
end
theorem size_le {w : World} {b : Nat} {D : DataW Unit} (h : Own w b D) (n : Int) (v : DataW Unit) : Maps.size (D.put (kl n) v) ≤ Maps.size D + 1 := by
  rw [size_put (Owns.tidy h)]; split <;> omega
theorem neq_map (p : Option Nat) (w : World) : (binOp .neq 53 (.map p) (.map none)).run Try.prog w = .ok (.bool p.isSome) w := by
  simp only [binOp]
  simp [show Op.equal 53 (.map p) (.map none) = Op.equalIn (9999 + 1) 53 (.map p) (.map none) from rfl, run_equalIn_map_nil_sl w 9999 53 _ _ p Try.underlying53]
end Go.Proofs.Ytpalbccoiejmoaa.Zk
