/- Proves the laws on a map of the call's own from ints to ints at the operations, and what a map of last uses says of an order. No condition but few entries. -/
import Derived.Test.YtfoalfemkpiniaaUb
import Derived.Test.YtfoalfemkpiniaaUh
import Derived.Maps.RangeWalk
import Derived.Maps.OwnSet
import Derived.Maps.OwnOps
namespace Go.Proofs.Ytfoalfemkpiniaa.Uk
open Go.RowKit Go.Maps Mi Nw Ua Uh

def kl (n : Int) : Lit := .int .i64 n
theorem keyed : Keyed Try.prog 3 := Maps.int_keyed Try.underlying3
theorem in_wf {n : Int} (h : In n) : (Lit.int .i64 n).wf = true := by
  obtain ⟨h1, h2⟩ := h
  simp only [Lit.wf, Bool.and_eq_true, decide_eq_true_eq]
  exact ⟨h1, h2⟩
theorem key_mk {n : Int} (hn : In n) : keyOf Try.prog 3 (.int .i64 n) = some (kl n) := Maps.keyOf_int_mk Try.underlying3 (in_wf hn)
theorem kl_key (n : Int) : WideAt.IsKeyLit (kl n) := trivial
theorem kl_inj {n m : Int} (h : kl n = kl m) : n = m := by unfold kl at h; injection h
theorem zeroI (w : World) : (zeroValue 3).run Try.prog w = .ok (.int .i64 0) w := by kernel_rfl
/-- Block b of w is a map from ints to ints of at most n entries that reads as D. -/
def Owns (w : World) (b n : Nat) (D : DataW Unit) : Prop := w.ownsMap Try.prog 3 (plainElem Try.prog 3) b n D
theorem Owns.lt {w : World} {b n : Nat} {D : DataW Unit} (h : Owns w b n D) : b < w.heap.size := World.ownsMap.lt h
theorem Owns.kept {w w' : World} {b n : Nat} {D : DataW Unit} {F : Nat → Prop} (h : Owns w b n D) (ho : Only F w w') (hb : ¬ F b) : Owns w' b n D := by
  have hlt := World.ownsMap.lt h
  obtain ⟨es, clock, h1, h2⟩ := h
  exact ⟨es, clock, by rw [ho.block _ hlt hb]; exact h1, h2⟩
theorem made (w : World) : Owns (w.alloc (.map #[] 0)) w.heap.size 0 (.map []) := World.ownsMap_made _ _ _ _
theorem Owns.tidy {w : World} {b n : Nat} {D : DataW Unit} (h : Owns w b n D) : Tidy D := World.ownsMap.tidy h keyed
section
variable {P : Program} (w : World) {ops : Array Oper} {rest : List Oper} {o : Oper} {a : Act} {Q : Exit → Act → World → Prop}
theorem at_ok (hg : o.guard = none) (m x : Operand) (hop : o.op = Op.lookup 43 m x true) (b n : Nat) (D : DataW Unit) (hm : a.eval m = .map (some b)) (hown : Owns w b n D) (k : Int) (hk : In k) (hx : a.eval x = .int .i64 k)
    (c : Int) (s : Bool) (hc : D.atKey (kl k) (.lit (.int .i64 0)) = .lit (.int .i64 c)) (hs : has D (kl k) = s) (hK : wpList Try.prog ops Q rest (a.put o.dst (.tuple #[.int .i64 c, .bool s])) w) :
    wpList Try.prog ops Q (o :: rest) a w :=
  wpList_lookup_own_ok_int w hg m x _ hop _ _ .i64 keyed Try.underlying43 Try.underlying3 (zeroI w) b n D hm hown _ _ hx (key_mk hk) (fun c' e1 _ => by
    rw [hc] at e1
    simp only [DataW.lit.injEq, Lit.int.injEq, true_and] at e1
    rw [← e1, hs]; exact hK)
theorem at_store (hg : o.guard = none) (m x v : Operand) (hop : o.op = Op.mapUpdate 43 m x v) (b n : Nat) (D : DataW Unit) (hm : a.eval m = .map (some b)) (hown : Owns w b n D) (hn : n < 1000000) (k : Int) (hk : In k) (hx : a.eval x = .int .i64 k)
    (c : Int) (hci : In c) (hv : a.eval v = .int .i64 c) (hK : ∀ w', Owns w' b (n + 1) (D.put (kl k) (.lit (.int .i64 c))) → Only (fun k => k = b) w w' → wpList Try.prog ops Q rest (a.put o.dst undef) w') :
    wpList Try.prog ops Q (o :: rest) a w :=
  wpList_mapUpdate_own w hg m x v _ hop _ _ keyed Try.underlying43 (plainElem Try.prog 3) b n D hm hown (by unfold maxLen; omega) _ _ _ hx hv (key_mk hk) _ _ (plainElem_int Try.underlying3 (in_wf hci)) (fun w' h1 h2 => hK w' h1 (Only.of_grown h2 (fun k e => by simp at e; exact e.symm)))
theorem at_del (hg : o.guard = none) (m x : Operand) (hop : o.op = Op.call { callee := Callee.builtin Builtin.delete, args := #[m, x], argTypes := #[43, 3] }) (b n : Nat) (D : DataW Unit) (hm : a.eval m = .map (some b)) (hown : Owns w b n D) (k : Int) (hk : In k) (hx : a.eval x = .int .i64 k)
    (hK : ∀ w', Owns w' b n (D.del (kl k)) → Only (fun k => k = b) w w' → wpList Try.prog ops Q rest (a.put o.dst (.tuple #[])) w') :
    wpList Try.prog ops Q (o :: rest) a w :=
  wpList_delete_own w hg m x _ _ hop _ keyed Try.underlying43 (plainElem Try.prog 3) b n D hm hown _ _ hx (key_mk hk) (fun w' h1 h2 => hK w' h1 (Only.of_grown h2.grown (fun k e => by simp at e; exact e.symm)))
theorem at_len (hg : o.guard = none) (m : Operand) (hop : o.op = Op.call { callee := Callee.builtin Builtin.len, args := #[m], argTypes := #[43] }) (b n : Nat) (D : DataW Unit) (hm : a.eval m = .map (some b)) (hown : Owns w b n D) (z : Nat) (hz : Maps.size D = z)
    (hK : wpList Try.prog ops Q rest (a.put o.dst (.int .i64 (z : Int))) w) : wpList Try.prog ops Q (o :: rest) a w :=
  wpList_len_own w hg m _ hop _ _ Try.underlying43 (plainElem Try.prog 3) b n D hm hown (by rw [hz]; exact hK)
end
theorem look_run {w : World} {b n : Nat} {D : DataW Unit} (h : Owns w b n D) {k : Int} (hk : In k) {c : Int} (hc : D.atKey (kl k) (.lit (.int .i64 0)) = .lit (.int .i64 c)) :
    (Instr.lookup 43 (.map (some b)) (.int .i64 k) false).run Try.prog w = .ok (.int .i64 c) w := by
  obtain ⟨c', h1, h2, _⟩ := World.ownsMap.lookup_int h keyed Try.underlying43 Try.underlying3 (zeroI w) (key_mk hk)
  rw [hc] at h2
  simp only [DataW.lit.injEq, Lit.int.injEq, true_and] at h2
  rw [h2]; exact h1
/-- The map says when each slot of the order was used last. -/
structure Tr (D : DataW Unit) (L : List Int) (i : Int) : Prop where
  tidy : Tidy D
  nd : L.Nodup
  mem : ∀ n, has D (kl n) = decide (n ∈ L)
  sz : Maps.size D = L.length
  val : ∃ f : Int → Int, (∀ n, n ∈ L → D.atKey (kl n) (.lit (.int .i64 0)) = .lit (.int .i64 (f n)) ∧ 0 ≤ f n ∧ f n < i) ∧ L.Pairwise (fun a b => f a < f b)
theorem tr_start : Tr (.map []) [] 0 := ⟨tidy_empty, List.Pairwise.nil, fun n => by simp [has_eq], rfl, fun _ => 0, ⟨(fun n h => by simp at h), List.Pairwise.nil⟩⟩
theorem wo_sub (L : List Int) (n : Int) : (wo L n).Sublist L := List.filter_sublist
theorem mem_wo {L : List Int} {n m : Int} : m ∈ wo L n ↔ m ∈ L ∧ m ≠ n := by unfold wo; simp
theorem wo_none {L : List Int} {n : Int} (h : n ∉ L) : wo L n = L := by
  unfold wo; rw [List.filter_eq_self]; intro a ha; simp; rintro rfl; exact h ha
theorem wo_length {L : List Int} {n : Int} (hd : L.Nodup) (h : n ∈ L) : (wo L n).length + 1 = L.length := by
  have e : wo L n = L.erase n := by
    unfold wo
    rw [List.Nodup.erase_eq_filter hd n]
    congr 1; funext x; by_cases hx : x = n <;> simp [hx]
  rw [e, List.length_erase_of_mem h]
  have := List.length_pos_of_mem h; omega
theorem Tr.next {D : DataW Unit} {L : List Int} {i j : Int} (h : Tr D L i) (hij : i ≤ j) : Tr D L j := by
  obtain ⟨h1, h2, h3, h4, f, h5, h6⟩ := h
  exact ⟨h1, h2, h3, h4, f, fun n hn => ⟨(h5 n hn).1, (h5 n hn).2.1, by have := (h5 n hn).2.2; omega⟩, h6⟩
/-- A number that was not there, or is no more, comes to the end. -/
theorem Tr.put {D : DataW Unit} {L : List Int} {i : Int} (h : Tr D L i) (hi : 0 ≤ i) (n : Int) : Tr (D.put (kl n) (.lit (.int .i64 i))) (wo L n ++ [n]) (i + 1) := by
  obtain ⟨h1, h2, h3, h4, f, h5, h6⟩ := h
  refine ⟨h1.put (kl_key n) _, ?_, fun m => ?_, ?_, fun m => if m = n then i else f m, fun m hm => ?_, ?_⟩
  · refine List.nodup_append.2 ⟨h2.sublist (wo_sub L n), by simp, fun a ha b hb e => ?_⟩
    rw [List.mem_singleton.1 hb] at e
    exact (mem_wo.1 ha).2 e
  · by_cases hm : m = n
    · subst hm; rw [has_put_same h1.isMap (kl_key m)]; simp
    · rw [has_put_other (fun e => hm (kl_inj e)), h3]
      rw [decide_eq_decide]
      simp [mem_wo, hm]
  · rw [size_put h1, h3, h4, List.length_append]
    by_cases hn : n ∈ L
    · have := wo_length h2 hn; simp [hn]; omega
    · rw [wo_none hn]; simp [hn]
  · by_cases hmn : m = n
    · subst hmn
      exact ⟨by rw [atKey_put_same h1.isMap (kl_key m)]; simp, by simp [hi], by simp; omega⟩
    · have hml : m ∈ L := by
        rcases List.mem_append.1 hm with h | h
        · exact (mem_wo.1 h).1
        · exact absurd (List.mem_singleton.1 h) hmn
      obtain ⟨a1, a2, a3⟩ := h5 m hml
      refine ⟨by rw [atKey_put_other (fun e => hmn (kl_inj e)), a1]; simp [hmn], by simp [hmn, a2], by simp [hmn]; omega⟩
  · refine List.pairwise_append.2 ⟨(h6.sublist (wo_sub L n)).imp_of_mem (fun {a b} ha hb hab => ?_), by simp, fun a ha b hb => ?_⟩
    · have h1 := (mem_wo.1 ha).2; have h2 := (mem_wo.1 hb).2
      simp [h1, h2, hab]
    · rw [List.mem_singleton.1 hb]
      have h1 := mem_wo.1 ha
      have := (h5 a h1.1).2.2
      simp [h1.2, this]
theorem Tr.del {D : DataW Unit} {L : List Int} {i : Int} (h : Tr D L i) (n : Int) : Tr (D.del (kl n)) (wo L n) i := by
  obtain ⟨h1, h2, h3, h4, f, h5, h6⟩ := h
  refine ⟨h1.del _, h2.sublist (wo_sub L n), fun m => ?_, ?_, f, fun m hm => ?_, h6.sublist (wo_sub L n)⟩
  · by_cases hm : m = n
    · subst hm; rw [has_del_same]; simp [mem_wo]
    · rw [has_del_other (fun e => hm (kl_inj e)), h3, decide_eq_decide]; simp [mem_wo, hm]
  · have := size_del (k := kl n) h1
    rw [h3, h4] at this
    by_cases hn : n ∈ L
    · have e := wo_length h2 hn; simp [hn] at this; omega
    · rw [wo_none hn]; simp [hn] at this; omega
  · obtain ⟨hm1, hm2⟩ := mem_wo.1 hm
    rw [atKey_del_other (fun e => hm2 (kl_inj e))]
    exact h5 m hm1
/-- What a look-up says. -/
theorem Tr.look {D : DataW Unit} {L : List Int} {i : Int} (h : Tr D L i) (n : Int) : ∃ c : Int, D.atKey (kl n) (.lit (.int .i64 0)) = .lit (.int .i64 c) ∧ has D (kl n) = decide (n ∈ L) := by
  obtain ⟨h1, h2, h3, h4, f, h5, h6⟩ := h
  by_cases hn : n ∈ L
  · exact ⟨f n, (h5 n hn).1, h3 n⟩
  · exact ⟨0, atKey_of_not_has (by rw [h3]; simp [hn]) _, h3 n⟩
/-- Two neighbours. -/
theorem Tr.lt {D : DataW Unit} {L : List Int} {i : Int} (h : Tr D L i) : ∃ f : Int → Int, (∀ n, n ∈ L → D.atKey (kl n) (.lit (.int .i64 0)) = .lit (.int .i64 (f n))) ∧ ∀ k (hk : k + 1 < L.length), f L[k] < f L[k + 1] := by
  obtain ⟨h1, h2, h3, h4, f, h5, h6⟩ := h
  exact ⟨f, fun n hn => (h5 n hn).1, fun k hk => List.pairwise_iff_getElem.1 h6 k (k + 1) (by omega) hk (by omega)⟩
theorem nd_ne {L : List Int} (hd : L.Nodup) {j k : Nat} (hjk : j < k) (hk : k < L.length) (e : L[j] = L[k]) : False := List.pairwise_iff_getElem.1 hd j k (by omega) hk hjk e
/-- Going on with Next from Oldest. -/
theorem ix_nd {L : List Int} (hd : L.Nodup) {k : Nat} (hk : k < L.length) : ixOf L L[k] = (k : Int) :=
  ix_at hk rfl (fun _ _ hjk e => nd_ne hd hjk hk e)
theorem next_mid {L : List Int} (hd : L.Nodup) (hs : ∀ n ∈ L, Sl n) {k : Nat} (hk : k + 1 < L.length) : nextN L L[k] = 0 ∧ nextV L L[k] = L[k + 1] := by
  have hm : L[k] ∈ L := List.getElem_mem _
  have e := ix_nd hd (show k < L.length by omega)
  have h1 : nextN L L[k] = 0 := by unfold nextN; rw [if_neg (by simpa using hs _ hm), if_neg (by simp), e, if_neg (by omega)]
  refine ⟨h1, ?_⟩
  unfold nextV
  rw [h1, if_pos rfl, e, show ((k : Int) + 1).toNat = k + 1 from by omega, List.getD_eq_getElem?_getD, List.getElem?_eq_getElem hk]; rfl
theorem next_end {L : List Int} (hd : L.Nodup) (hs : ∀ n ∈ L, Sl n) {k : Nat} (hk : k + 1 = L.length) : nextN L L[k] = 16 ∧ nextV L L[k] = 0 := by
  have hm : L[k] ∈ L := List.getElem_mem _
  have e := ix_nd hd (show k < L.length by omega)
  have h1 : nextN L L[k] = 16 := by unfold nextN; rw [if_neg (by simpa using hs _ hm), if_neg (by simp), e, if_pos (by omega)]
  exact ⟨h1, by unfold nextV; rw [h1]; rfl⟩
theorem old_at {L : List Int} (h : 0 < L.length) : oldN L = 0 ∧ oldV L = L[0] := by
  cases L with
  | nil => simp at h
  | cons x r => exact ⟨by unfold oldN; simp, rfl⟩
theorem old_none : oldN [] = 9 ∧ oldV [] = 0 := ⟨rfl, rfl⟩
/-- Using the last one changes nothing. -/
theorem use_last {L : List Int} (hd : L.Nodup) (hs : ∀ n ∈ L, Sl n) {k : Nat} (hk : k + 1 = L.length) : useT L L[k] = L ∧ remN L L[k] = 0 := by
  have hm : L[k] ∈ L := List.getElem_mem _
  have hsl := hs _ hm
  refine ⟨?_, by unfold remN; rw [if_neg (by simpa using hsl), if_pos hm]⟩
  unfold useT
  rw [if_pos ⟨hsl, hm⟩]
  have e : L = L.take k ++ [L[k]] := by rw [← List.take_succ_eq_append_getElem (by omega), hk, List.take_of_length_le (Nat.le_refl _)]
  have hn : L[k] ∉ L.take k := fun h => by
    obtain ⟨j, hj, ej⟩ := List.getElem_of_mem h
    rw [List.getElem_take] at ej
    have hj' : j < k := by rw [List.length_take] at hj; omega
    exact nd_ne hd hj' (by omega) ej
  obtain ⟨y, hy⟩ : ∃ y, y = L[k] := ⟨_, rfl⟩
  rw [← hy] at e hn ⊢
  have : wo L y = L.take k := by
    conv => lhs; rw [e]
    have h1 : wo (L.take k ++ [y]) y = wo (L.take k) y ++ wo [y] y := by unfold wo; exact List.filter_append _ _
    rw [h1, wo_none hn]
    simp [wo]
  rw [this]; exact e.symm
end Go.Proofs.Ytfoalfemkpiniaa.Uk
