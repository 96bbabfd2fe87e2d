/- Proves the laws on a map of the call's own from strings to ints at the operations: what a look-up gives, what a store leaves, what a range gives. No condition but few entries. -/
import Derived.Test.YthabnffmlgppdaaPx
import Derived.StringKeys
import Derived.Maps.RangeWalk
import Derived.Maps.OwnSet
import Derived.OpenShut
namespace Go.Proofs.Ythabnffmlgppdaa.Pu
open Go.RowKit Go.Maps Mi Nw Ta Px

def kl (k : Key) : Lit := .string k
theorem keyed : Keyed Try.prog 9 := string_keyed Try.underlying9
theorem key_mk {k : Key} (hk : k.length ≤ maxLen) : keyOf Try.prog 9 (.string ⟨k.toArray⟩) = some (kl k) := by
  have := Go.WideMaps.keyOf_string_mk (P := Try.prog) (k := 9) Try.underlying9 (s := ⟨k.toArray⟩) (by show k.toArray.size ≤ maxLen; simpa using hk)
  simpa [kl] using this
theorem key_inv {v : Value} {l : Lit} (h : keyOf Try.prog 9 v = some l) : ∃ k : Key, v = .string ⟨k.toArray⟩ ∧ l = kl k := by
  rw [keyOf_string Try.underlying9] at h
  cases v <;> simp [mapKey, Try.underlying9] at h
  rename_i s
  obtain ⟨_, rfl⟩ := h
  exact ⟨s.data.toList, by cases s; simp, rfl⟩
theorem kl_key (k : Key) : WideAt.IsKeyLit (kl k) := trivial
theorem kl_inj {k k' : Key} (h : kl k = kl k') : k = k' := by unfold kl at h; injection h
theorem same_kl (k k' : Key) : (kl k).sameKey (kl k') = decide (k = k') := by
  show (k == k') = decide (k = k')
  rw [Bool.eq_iff_iff]; simp
theorem in_wf {n : Int} (h : In n) : (Lit.int .i64 n).wf = true := by
  obtain ⟨h1, h2⟩ := h
  simp only [Lit.wf, Bool.and_eq_true, decide_eq_true_eq]
  exact ⟨h1, h2⟩
theorem zeroI (w : World) : (zeroValue 3).run Try.prog w = .ok (.int .i64 0) w := by kernel_rfl
/-- Block b of w is a map from strings to ints of at most n entries that reads as D. -/
def Owns (w : World) (b n : Nat) (D : DataW Unit) : Prop := w.ownsMap Try.prog 9 (plainElem Try.prog 3) b n D
/-- A range over it, with cnt entries to come, when those of V have come. -/
def Rng (w : World) (b r n : Nat) (D : DataW Unit) (cnt : Nat) (V : List Key) : Prop :=
  ∃ left, w.ranges Try.prog 9 (plainElem Try.prog 3) b r n D left cnt ∧ ∀ k, left (kl k) = (has D (kl k) && !decide (k ∈ V))
theorem Owns.lt {w : World} {b n : Nat} {D : DataW Unit} (h : Owns w b n D) : b < w.heap.size := World.ownsMap.lt h
theorem Owns.kept {w w' : World} {b n : Nat} {D : DataW Unit} {F : Nat → Prop} (h : Owns w b n D) (ho : Only F w w') (hb : ¬ F b) : Owns w' b n D := by
  have hlt := World.ownsMap.lt h
  obtain ⟨es, clock, h1, h2⟩ := h
  exact ⟨es, clock, by rw [ho.block _ hlt hb]; exact h1, h2⟩
theorem Rng.owns {w : World} {b r n cnt : Nat} {D : DataW Unit} {V : List Key} (h : Rng w b r n D cnt V) : Owns w b n D := let ⟨_, h, _⟩ := h; World.ranges.owns h
theorem Rng.left {w : World} {b r n cnt : Nat} {D : DataW Unit} {V : List Key} (h : Rng w b r n D cnt V) : w.rangeLeft b r = cnt := let ⟨_, h, _⟩ := h; h.left_eq
theorem Rng.lt {w : World} {b r n cnt : Nat} {D : DataW Unit} {V : List Key} (h : Rng w b r n D cnt V) : r < w.heap.size := let ⟨_, h, _⟩ := h; h.lt
theorem Rng.kept {w w' : World} {b r n cnt : Nat} {D : DataW Unit} {V : List Key} {F : Nat → Prop} (h : Rng w b r n D cnt V) (ho : Only F w w') (hb : ¬ F b) (hr : ¬ F r) : Rng w' b r n D cnt V := by
  obtain ⟨left, h, hl⟩ := h
  have h1 := h.owns.lt
  have h2 := h.lt
  obtain ⟨es, clock, since, seen, c0, e1, F, hs, hD, e2, rest⟩ := h
  exact ⟨left, ⟨es, clock, since, seen, c0, by rw [ho.block _ h1 hb]; exact e1, F, hs, hD, by rw [ho.block _ h2 hr]; exact e2, rest⟩, hl⟩
theorem made (w : World) : Owns (w.alloc (.map #[] 0)) w.heap.size 0 (.map []) := World.ownsMap_made _ _ _ _
section
variable {P : Program} (w : World) {ops : Array Oper} {rest : List Oper} {o : Oper} {a : Go.Act} {Q : Exit → Go.Act → World → Prop}
theorem at_ok (hg : o.guard = none) (m x : Operand) (hop : o.op = Op.lookup 61 m x true) (b n : Nat) (D : DataW Unit) (hm : a.eval m = .map (some b)) (hown : Owns w b n D) (k : Key) (hk : k.length ≤ maxLen) (hx : a.eval x = .string ⟨k.toArray⟩)
    (c : Int) (s : Bool) (hc : D.atKey (kl k) (.lit (.int .i64 0)) = .lit (.int .i64 c)) (hs : has D (kl k) = s) (hK : wpList Try.prog ops Q rest (a.put o.dst (.tuple #[.int .i64 c, .bool s])) w) :
    wpList Try.prog ops Q (o :: rest) a w :=
  wpList_lookup_own_ok_int w hg m x _ hop _ _ .i64 keyed Try.underlying61 Try.underlying3 (zeroI w) b n D hm hown _ _ hx (key_mk hk) (fun c' e1 _ => by
    rw [hc] at e1
    simp only [DataW.lit.injEq, Lit.int.injEq, true_and] at e1
    rw [← e1, hs]; exact hK)
theorem at_store (hg : o.guard = none) (m x v : Operand) (hop : o.op = Op.mapUpdate 61 m x v) (b n : Nat) (D : DataW Unit) (hm : a.eval m = .map (some b)) (hown : Owns w b n D) (hn : n < 1000000) (k : Key) (hk : k.length ≤ maxLen) (hx : a.eval x = .string ⟨k.toArray⟩)
    (c : Int) (hci : In c) (hv : a.eval v = .int .i64 c) (hK : ∀ w', Owns w' b (n + 1) (D.put (kl k) (.lit (.int .i64 c))) → Only (fun k => k = b) w w' → wpList Try.prog ops Q rest (a.put o.dst undef) w') :
    wpList Try.prog ops Q (o :: rest) a w :=
  wpList_mapUpdate_own w hg m x v _ hop _ _ keyed Try.underlying61 (plainElem Try.prog 3) b n D hm hown (by unfold maxLen; omega) _ _ _ hx hv (key_mk hk) _ _ (plainElem_int Try.underlying3 (in_wf hci)) (fun w' h1 h2 => hK w' h1 (Only.of_grown h2 (fun k e => by simp at e; exact e.symm)))
theorem at_rng (hg : o.guard = none) (m : Operand) (hop : o.op = Op.range 61 m) (b n : Nat) (D : DataW Unit) (hm : a.eval m = .map (some b)) (hown : Owns w b n D)
    (hK : ∀ w', Rng w' b w.heap.size n D (size D) [] → Below w.heap.size w w' → w'.heap.size = w.heap.size + 1 → wpList Try.prog ops Q rest (a.put o.dst (.pointer (some ⟨w.heap.size, 0, none⟩))) w') :
    wpList Try.prog ops Q (o :: rest) a w :=
  wpList_range_own w hg m _ hop _ _ keyed Try.underlying61 (plainElem Try.prog 3) b n D hm hown (fun w' h1 h2 h3 => hK w' ⟨_, h1, fun k => by simp⟩ ((Below.refl _ _).grown h2 (Nat.le_refl _) (fun j e => by cases e)) h3)
theorem at_next (hg : o.guard = none) (it : Operand) (hop : o.op = Op.next it false) (b r n : Nat) (D : DataW Unit) (cnt : Nat) (V : List Key) (f : Key → Int) (hf : ∀ k, has D (kl k) = true → D.atKey (kl k) (.lit (.int .i64 0)) = .lit (.int .i64 (f k))) (hit : a.eval it = .pointer (some ⟨r, 0, none⟩)) (h : Rng w b r n D cnt V)
    (hDone : (∀ k, has D (kl k) = true → k ∈ V) → wpList Try.prog ops Q rest (a.put o.dst (.tuple #[.bool false])) w)
    (hMore : ∀ (k : Key) (w' : World) (cnt' : Nat), has D (kl k) = true → k ∉ V → Rng w' b r n D cnt' (k :: V) → cnt' < cnt → Only (fun j => j = r) w w' →
      (Instr.entry (.pointer (some ⟨r, 0, none⟩))).run Try.prog w' = .ok (.tuple #[.string ⟨k.toArray⟩, .int .i64 (f k)]) w' → wpList Try.prog ops Q rest (a.put o.dst (.tuple #[.bool true, .string ⟨k.toArray⟩, .int .i64 (f k)])) w') :
    wpList Try.prog ops Q (o :: rest) a w := by
  obtain ⟨left, h, hl⟩ := h
  refine wpList_next_ranges w hg it hop _ keyed (plainElem Try.prog 3) (fun k : Key => Value.string ⟨k.toArray⟩) (fun n : Int => Value.int .i64 n) (fun key kl hk => by obtain ⟨k, rfl, _⟩ := key_inv hk; exact ⟨k, rfl⟩) (fun v y hv => by obtain ⟨c, rfl, _⟩ := plainElem_int_inv Try.underlying3 hv; exact ⟨c, rfl⟩)
    b r n D left cnt hit h (fun _ h0 => hDone fun k hk => ?_) (fun x c kl' y w' cnt' hkey hlk hv hat hrg hlt hgr hsz hen => ?_)
  · have := h0 (kl k)
    rw [hl, hk] at this
    simpa using this
  · obtain ⟨k, e1, rfl⟩ := key_inv hkey
    have e2 : x = k := by
      simp only [Value.string.injEq, ByteArray.mk.injEq] at e1
      exact Array.toList_inj.2 e1 |> fun h => by simpa using h
    subst e2
    obtain ⟨c', ec, rfl, _⟩ := plainElem_int_inv Try.underlying3 hv
    simp only [Value.int.injEq, true_and] at ec
    subst ec
    rw [hl] at hlk
    simp only [Bool.and_eq_true, Bool.not_eq_true', decide_eq_false_iff_not] at hlk
    have hc := hf x hlk.1
    rw [hat] at hc
    simp only [DataW.lit.injEq, Lit.int.injEq, true_and] at hc
    subst hc
    refine hMore x w' cnt' hlk.1 hlk.2 ⟨_, hrg, fun k => ?_⟩ hlt (Only.of_grown hgr (fun k e => by simp at e; exact e.symm)) hen
    show (left (kl k) && !(kl k).sameKey (kl x)) = _
    rw [hl, same_kl]
    by_cases hkx : k = x
    · subst hkx; simp
    · simp [hkx]
end
end Go.Proofs.Ythabnffmlgppdaa.Pu
