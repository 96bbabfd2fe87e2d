/- Proves laws for a region that draws its order and ends in operations that nothing may follow: what the loads rest on need stand only until those come up. No condition; no program. -/
import Derived.Deep.RegionHeld3
namespace Go.Proofs.Ytmhbfplpodikiaa.Rg

section
variable {P : Program} {ops : Array Oper} {Q : Exit → Act → World → Prop} {md : Region.Mode} {S : World → Prop} {n : Nat}
/-- The region runs well in each order that is still open, where S is shown behind each operation that stands before place n, and nothing is asked behind a later one. -/
def wpAnyG (P : Program) (md : Region.Mode) (ops : Array Oper) (Q : Exit → Act → World → Prop) (S : World → Prop) (n : Nat) : Nat → Array Bool → Act → World → Prop
  | 0, l, a, w => Region.ready md ops l = [] ∧ Q .normal a w
  | k + 1, l, a, w => (Region.ready md ops l = [] → Q .normal a w) ∧ ∀ i ∈ Region.ready md ops l, wpOp P ops Q i (fun b v => (i < n → S v) ∧ wpAnyG P md ops Q S n k (l.setIfInBounds i true) b v) a w
theorem wpAnyG.plain {k : Nat} : ∀ {l : Array Bool} {a : Act} {w : World}, wpAnyG P md ops Q S n k l a w → wpAny P md ops Q k l a w := by
  induction k with
  | zero => exact fun h => h
  | succ k ih => exact fun h => ⟨h.1, fun i hi => wpOp_mono (fun _ _ hv => ih hv.2) (h.2 i hi)⟩
/-- Each operation that has come up came up behind those for which it waits. -/
def Clo (md : Region.Mode) (ops : Array Oper) (l : Array Bool) : Prop := ∀ j o, ops[j]? = some o → l.getD j false = true → ∀ e ∈ o.after, Region.binds md e = true → l.getD e.on false = true
/-- Operation j waits for operation i, by so many links at most. -/
def reachB (md : Region.Mode) (ops : Array Oper) (i : Nat) : Nat → Nat → Bool
  | 0, _ => false
  | f + 1, j => match ops[j]? with
    | none => false
    | some o => o.after.toList.any fun e => Region.binds md e && (decide (e.on = i) || reachB md ops i f e.on)
theorem reach_listed {l : Array Bool} (hc : Clo md ops l) {i : Nat} : ∀ (f j : Nat) (o : Oper), ops[j]? = some o → reachB md ops i f j = true → (∀ e ∈ o.after, Region.binds md e = true → l.getD e.on false = true) → l.getD i false = true
  | 0, _, _, _, h, _ => by simp [reachB] at h
  | f + 1, j, o, hj, h, hall => by
    rw [reachB, hj] at h
    obtain ⟨e, he, hb⟩ := List.any_eq_true.1 h
    simp only [Bool.and_eq_true, Bool.or_eq_true, decide_eq_true_eq] at hb
    have he' : e ∈ o.after := by simpa using he
    rcases hb.2 with h1 | h1
    · rw [← h1]; exact hall e he' hb.1
    · cases f with
      | zero => simp [reachB] at h1
      | succ f =>
        cases ho : ops[e.on]? with
        | none => rw [reachB, ho] at h1; cases h1
        | some o' => exact reach_listed hc (f + 1) e.on o' ho h1 (hc e.on o' ho (hall e he' hb.1))
theorem Clo.set {l : Array Bool} (h : Clo md ops l) {j : Nat} (hj : j ∈ Region.ready md ops l) : Clo md ops (l.setIfInBounds j true) := fun k ok hk hl e he hb => by
  obtain ⟨_, oj, hoj, hall⟩ := mem_ready.1 hj
  by_cases hkj : k = j
  · subst hkj
    obtain rfl : oj = ok := Option.some.inj (hoj.symm.trans hk)
    exact getD_set_true (hall e he hb)
  · exact getD_set_true (h k ok hk (by rwa [getD_set_ne false (Ne.symm hkj)] at hl) e he hb)
/-- What has not come up is not listed, whatever stands for places that do not exist. -/
theorem unlisted {l : Array Bool} {i : Nat} (hi : l.getD i true = false) : ¬ l.getD i false = true := fun h => by
  by_cases hs : i < l.size <;> simp [hs] at hi h
  rw [hi] at h; cases h
/-- What may come up beside an operation i that has not come up yet does not wait for i. -/
theorem waits_not {l : Array Bool} {i j : Nat} {o : Oper} (hi : i ∈ Region.ready md ops l) (hj : j ∈ Region.ready md ops l) (ho : ops[j]? = some o) : ∀ e ∈ o.after, Region.binds md e = true → e.on ≠ i := fun e he hb h => by
  obtain ⟨_, o', ho', hall⟩ := mem_ready.1 hj
  obtain rfl : o' = o := Option.some.inj (ho'.symm.trans ho)
  exact unlisted (mem_ready.1 hi).1 (h ▸ hall e he hb)
/-- What waits for i, by whatever links, may not come up beside i. -/
theorem reach_not {l : Array Bool} {i j f : Nat} {o : Oper} (hc : Clo md ops l) (hi : i ∈ Region.ready md ops l) (hj : j ∈ Region.ready md ops l) (ho : ops[j]? = some o) : ¬ reachB md ops i f j = true := fun h => by
  obtain ⟨_, o', ho', hall⟩ := mem_ready.1 hj
  obtain rfl : o' = o := Option.some.inj (ho'.symm.trans ho)
  exact unlisted (mem_ready.1 hi).1 (reach_listed hc f j _ ho h hall)
/-- What may be taken first: number i, for which all from place n on wait, and to which the others make no difference. -/
structure Early (P : Program) (md : Region.Mode) (ops : Array Oper) (Q : Exit → Act → World → Prop) (n i : Nat) (o : Oper) (v : Value) : Prop where
  at_ : ops[i]? = some o
  sel : ∀ (j : Nat) (p : Oper) cs b, ops[j]? = some p → p.op ≠ .select cs b
  out : ∀ c a w, Q (.panic c) (a.put o.dst v) w → Q (.panic c) a w
  last : ∀ j, n ≤ j → j < ops.size → reachB md ops i ops.size j = true
def Apart (md : Region.Mode) (ops : Array Oper) (i : Nat) (o : Oper) (l : Array Bool) : Prop := ∀ j p, ops[j]? = some p → j ≠ i → l.getD j true = false → (∀ e ∈ p.after, Region.binds md e = true → e.on ≠ i) → o.apart ops p = true
theorem Apart.set {i j : Nat} {o : Oper} {l : Array Bool} (h : Apart md ops i o l) (hj : l.getD j true = false) : Apart md ops i o (l.setIfInBounds j true) := fun k p hk hki hun hno =>
  h k p hk hki (by
    rcases Decidable.em (j = k) with e | e
    · rw [← e]; exact hj
    · rwa [getD_set_ne true e] at hun) hno
theorem Early.first {i : Nat} {o : Oper} {v : Value} (E : Early P md ops Q n i o v) : ∀ (k : Nat) (l : Array Bool) (a : Act) (w : World), Apart md ops i o l → i ∈ Region.ready md ops l → Clo md ops l → YieldsIf P ops S o v a → S w →
    wpAnyG P md ops Q S n k (l.setIfInBounds i true) (a.put o.dst v) w → wpAnyG P md ops Q S n (k + 1) l a w := by
  intro k
  induction k with
  | zero =>
    refine fun l a w _ hr _ hy hS H => ⟨fun h0 => absurd hr (by rw [h0]; exact List.not_mem_nil), fun j hj => ?_⟩
    rcases Decidable.em (j = i) with rfl | hne
    · exact hy.wpOp E.at_ hS ⟨fun _ => hS, H⟩
    · exact absurd (ready_mono hj hne) (by rw [H.1]; exact List.not_mem_nil)
  | succ k ih =>
    refine fun l a w hap hr hc hy hS H => ⟨fun h0 => absurd hr (by rw [h0]; exact List.not_mem_nil), fun j hj => ?_⟩
    rcases Decidable.em (j = i) with rfl | hne
    · exact hy.wpOp E.at_ hS ⟨fun _ => hS, H⟩
    · obtain ⟨hun, p, hp, _⟩ := mem_ready.1 hj
      have hjn : j < n := (Nat.lt_or_ge j n).resolve_right fun hn => reach_not hc hr hj hp (E.last j hn (Array.getElem?_eq_some_iff.1 hp).1)
      have step := wpOp_putIf hp (hap j p hp hne hun (waits_not hr hj hp)) (fun cs b => E.sel i o cs b E.at_) (fun cs b => E.sel j p cs b hp) E.out hy (H.2 j (ready_mono hj hne))
      refine wpOp_mono (fun b u hu => ⟨hu.2.1, ih _ b u (hap.set hun) (ready_mono hr (Ne.symm hne)) (hc.set hj) hu.1 (hu.2.1 hjn) ?_⟩) step
      have := hu.2.2
      rwa [Array.setIfInBounds_comm _ _ (Ne.symm hne)] at this
/-- All operations from number n on wait for number i. -/
def lastB (md : Region.Mode) (ops : Array Oper) (n i : Nat) : Bool := (List.range ops.size).all fun j => decide (j < n) || reachB md ops i ops.size j
theorem last_spec {i : Nat} (h : lastB md ops n i = true) : ∀ j, n ≤ j → j < ops.size → reachB md ops i ops.size j = true := by
  intro j hn hlt
  have := List.all_eq_true.1 h j (List.mem_range.2 hlt)
  simp only [Bool.or_eq_true, decide_eq_true_eq] at this
  rcases this with h' | h'
  · omega
  · exact h'
def cloB (md : Region.Mode) (ops : Array Oper) (l : Array Bool) : Bool := (List.range ops.size).all fun j => match ops[j]? with
  | none => true
  | some o => !(l.getD j false) || o.after.toList.all fun e => !(Region.binds md e) || l.getD e.on false
theorem clo_spec {l : Array Bool} (h : cloB md ops l = true) : Clo md ops l := by
  intro j oj hj hl e he hb
  obtain ⟨hlt, _⟩ := Array.getElem?_eq_some_iff.1 hj
  have h1 := List.all_eq_true.1 h j (List.mem_range.2 hlt)
  rw [hj] at h1
  simp only [hl, Bool.not_true, Bool.false_or] at h1
  have h2 := List.all_eq_true.1 h1 e (by simpa using he)
  simpa [hb] using h2
theorem wpAnyG_take {i : Nat} {oi : Oper} {v : Value} {k : Nat} {l : Array Bool} {a : Act} {w : World} (hi : ops[i]? = some oi)
    (hs : Region.noSelect ops = true) (hf : Region.free md ops l i = true) (hr : (Region.ready md ops l).contains i = true) (hl : lastB md ops n i = true) (hc : cloB md ops l = true)
    (hQ : ∀ c a w, Q (.panic c) (a.put oi.dst v) w → Q (.panic c) a w) (hy : YieldsIf P ops S oi v a) (hS : S w)
    (h : wpAnyG P md ops Q S n k (l.setIfInBounds i true) (a.put oi.dst v) w) : wpAnyG P md ops Q S n (k + 1) l a w :=
  Early.first ⟨hi, Region.noSelect_spec hs, hQ, last_spec hl⟩ k l a w (Region.free_spec hi hf) (by simpa using hr) (clo_spec hc) hy hS h
theorem wpAnyG_done {l : Array Bool} {a : Act} {w : World} (hr : Region.ready md ops l = []) (h : Q .normal a w) (k : Nat) : wpAnyG P md ops Q S n k l a w := by
  cases k with
  | zero => exact ⟨hr, h⟩
  | succ k => exact ⟨fun _ => h, fun i hi => absurd hi (by rw [hr]; exact List.not_mem_nil)⟩
/-- Each of these operations may be the next one. -/
def AllReadyG (P : Program) (md : Region.Mode) (ops : Array Oper) (Q : Exit → Act → World → Prop) (S : World → Prop) (n k : Nat) (l : Array Bool) (a : Act) (w : World) (rs : List Nat) : Prop :=
  ∀ i ∈ rs, wpOp P ops Q i (fun b v => (i < n → S v) ∧ wpAnyG P md ops Q S n k (l.setIfInBounds i true) b v) a w
theorem AllReadyG.nil {k : Nat} {l : Array Bool} {a : Act} {w : World} : AllReadyG P md ops Q S n k l a w [] := fun _ h => absurd h List.not_mem_nil
theorem AllReadyG.cons {k : Nat} {l : Array Bool} {a : Act} {w : World} {i : Nat} {o : Oper} {rs : List Nat} (ho : ops[i]? = some o)
    (h : ∀ K : Act → World → Prop, Shut (∀ b v, (i < n → S v) → wpAnyG P md ops Q S n k (l.setIfInBounds i true) b v → K b v) → if Region.wanted o (yielded ops a.tmps) = true then Oper.wp P o a w K Q else K (a.put o.dst undef) w)
    (hs : AllReadyG P md ops Q S n k l a w rs) : AllReadyG P md ops Q S n k l a w (i :: rs) := by
  intro j hj
  rw [List.mem_cons] at hj
  by_cases e : j = i
  · subst e; exact wpOp_step ho fun K hK => h K fun b v h1 h2 => hK b v ⟨h1, h2⟩
  · exact hs j (hj.resolve_left e)
theorem wpAnyG_ready {rs : List Nat} {k : Nat} {l : Array Bool} {a : Act} {w : World} (hr : Region.ready md ops l = rs) (hne : rs ≠ [])
    (h : AllReadyG P md ops Q S n k l a w rs) : wpAnyG P md ops Q S n (k + 1) l a w := by
  subst hr; exact ⟨fun h0 => absurd h0 hne, h⟩
theorem wp_region_G {id : Nat} {a : Act} {w : World} (n : Nat) (S : World → Prop) (hm : P.follows .mixedOrders = true)
    (h : wpAnyG P .any ops Q S n ops.size (Array.replicate ops.size false) a w.drew) : (Code.region id ops true).wp P Q a w :=
  wp_region_any hm h.plain
end
end Go.Proofs.Ytmhbfplpodikiaa.Rg
