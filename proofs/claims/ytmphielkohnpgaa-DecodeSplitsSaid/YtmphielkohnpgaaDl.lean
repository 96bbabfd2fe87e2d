/- Proves words for lists of frames and of errors in rows of the call's own, and what becomes of both when a frame and an error are appended. Condition: few elements. No function of the program. -/
import Derived.Test.YtmphielkohnpgaaMb
import Derived.Test.YtmphielkohnpgaaFo
namespace Go.Proofs.Ytmphielkohnpgaa.Dl
open Go.RowKit Vm Ap Vw Va Gc Mi Mb Fo

theorem elmF : Elm Try.prog 48 39 (.agg #[.int .u8 0, .slice none 0 0]) 2 where
  sl := Try.underlying48
  info := by kernel_rfl
  small := by
    have h : (Try.prog.info? 39).map (·.bytes) = some 32 := by kernel_rfl
    intro i hi; rw [hi] at h; simp at h; omega
  cells := rfl
  pos := by omega
theorem elmE : Elm Try.prog 49 26 (.int .i64 0) 1 where
  sl := Try.underlying49
  info := by kernel_rfl
  small := by
    have h : (Try.prog.info? 26).map (·.bytes) = some 8 := by kernel_rfl
    intro i hi; rw [hi] at h; simp at h; omega
  cells := rfl
  pos := by omega
theorem elmI : Elm Try.prog 52 3 (.int .i64 0) 1 where
  sl := Try.underlying52
  info := by kernel_rfl
  small := by
    have h : (Try.prog.info? 3).map (·.bytes) = some 8 := by kernel_rfl
    intro i hi; rw [hi] at h; simp at h; omega
  cells := rfl
  pos := by omega
def frC (x : Frm) : List Value := [.int .u8 (x.c.toNat : Int), .slice x.A x.p.length x.k]
def frL (l : List Frm) : List Value := l.flatMap frC
def errV (n : Nat) : Value := .int .i64 (n : Int)
theorem frL_snoc (l : List Frm) (x : Frm) : frL (l ++ [x]) = frL l ++ frC x := by unfold frL; rw [List.flatMap_append]; simp
theorem frL_len (l : List Frm) : (frL l).length = l.length * 2 := by
  induction l with
  | nil => rfl
  | cons x r ih => unfold frL at ih ⊢; rw [List.flatMap_cons, List.length_append, ih, List.length_cons]; simp [frC]; omega
theorem frL_get : ∀ (l : List Frm) (i : Nat) (h : i < l.length), (frL l)[i * 2]? = some (.int .u8 (l[i].c.toNat : Int)) ∧ (frL l)[i * 2 + 1]? = some (.slice l[i].A l[i].p.length l[i].k)
  | [], i, h => by simp at h
  | x :: r, 0, _ => by unfold frL; rw [List.flatMap_cons]; simp [frC]
  | x :: r, i + 1, h => by
    have := frL_get r i (by simpa using h)
    have e : frL (x :: r) = frC x ++ frL r := by unfold frL; rw [List.flatMap_cons]
    have hl : (frC x).length = 2 := rfl
    rw [e, List.getElem?_append_right (by omega), List.getElem?_append_right (by omega), hl, show (i + 1) * 2 - 2 = i * 2 from by omega, show (i + 1) * 2 + 1 - 2 = i * 2 + 1 from by omega]
    exact this
/-- The frames and the errors that have come, in two rows; what the frames hold lies elsewhere. -/
structure Outs (K : Nat) (w : World) (FA : Option Addr) (fc : Nat) (EA : Option Addr) (ec : Nat) (fs : List Frm) (es : List Nat) : Prop where
  mf : Mine K 2 w FA fs.length fc (frL fs)
  me : Mine K 1 w EA es.length ec (es.map errV)
  pay : ∀ x ∈ fs, Rb w x.A x.p ∧ ∀ a, x.A = some a → K ≤ a.block ∧ a.block < w.heap.size ∧ (∀ b, FA = some b → a.block ≠ b.block) ∧ ∀ b, EA = some b → a.block ≠ b.block
  ap : ∀ a b, FA = some a → EA = some b → a.block ≠ b.block
theorem Outs.nil (K : Nat) (w : World) : Outs K w none 0 none 0 [] [] := ⟨Mine.nil _ _ _, Mine.nil _ _ _, by simp, fun a b e => by cases e⟩
theorem Outs.only {K : Nat} {w w' : World} {FA EA : Option Addr} {fc ec : Nat} {fs : List Frm} {es : List Nat} (h : Outs K w FA fc EA ec fs es) {F : Nat → Prop} (ho : Only F w w') (hF : ∀ j, K ≤ j → j < w.heap.size → ¬ F j) : Outs K w' FA fc EA ec fs es :=
  ⟨h.mf.only ho (fun a ha => hF _ (h.mf.base ha).1 (h.mf.base ha).2.1), h.me.only ho (fun a ha => hF _ (h.me.base ha).1 (h.me.base ha).2.1),
    fun x hx => ⟨rb_only (h.pay x hx).1 ho (fun a ha => hF _ ((h.pay x hx).2 a ha).1 ((h.pay x hx).2 a ha).2.1), fun a ha => by
      obtain ⟨h1, h2, h3⟩ := (h.pay x hx).2 a ha
      exact ⟨h1, Nat.lt_of_lt_of_le h2 ho.size, h3⟩⟩, h.ap⟩
theorem Outs.below {K : Nat} {w w' : World} {B : Nat} {FA EA : Option Addr} {fc ec : Nat} {fs : List Frm} {es : List Nat} (h : Outs K w FA fc EA ec fs es) (hb : Below B w w') (hB : w.heap.size ≤ B) : Outs K w' FA fc EA ec fs es :=
  h.only (Only.of_below hb hB (fun _ => False)) (fun _ _ _ hf => hf)
theorem Outs.pushF {K : Nat} {w w' : World} {FA EA A' : Option Addr} {fc ec c' : Nat} {fs : List Frm} {es : List Nat} (h : Outs K w FA fc EA ec fs es) (x : Frm)
    (hx : Rb w x.A x.p ∧ ∀ a, x.A = some a → K ≤ a.block ∧ a.block < w.heap.size ∧ (∀ b, FA = some b → a.block ≠ b.block) ∧ ∀ b, EA = some b → a.block ≠ b.block)
    (m1 : Mine K 2 w' A' (fs.length + 1) c' (frL fs ++ frC x)) (g1 : w.grownBy w' (FA.map (·.block))) (d1 : A' = FA ∨ ∀ a, A' = some a → w.heap.size ≤ a.block) : Outs K w' A' c' EA ec (fs ++ [x]) es := by
  have ho : Only (fun j => ∃ b, FA = some b ∧ b.block = j) w w' := Only.of_grown g1 (fun k e => by rw [Option.map_eq_some_iff] at e; exact e)
  have key : ∀ y : Frm, (Rb w y.A y.p ∧ ∀ a, y.A = some a → K ≤ a.block ∧ a.block < w.heap.size ∧ (∀ b, FA = some b → a.block ≠ b.block) ∧ ∀ b, EA = some b → a.block ≠ b.block) →
      (Rb w' y.A y.p ∧ ∀ a, y.A = some a → K ≤ a.block ∧ a.block < w'.heap.size ∧ (∀ b, A' = some b → a.block ≠ b.block) ∧ ∀ b, EA = some b → a.block ≠ b.block) := fun y hy => by
    refine ⟨rb_only hy.1 ho (fun a ha ⟨b, hb, e⟩ => (hy.2 a ha).2.2.1 b hb e.symm), fun a ha => ?_⟩
    obtain ⟨h1, h2, h3, h4⟩ := hy.2 a ha
    refine ⟨h1, Nat.lt_of_lt_of_le h2 ho.size, fun b hb => ?_, h4⟩
    rcases d1 with d1 | d1
    · rw [d1] at hb; exact h3 b hb
    · have := d1 b hb; omega
  refine ⟨?_, h.me.only ho (fun a ha ⟨b, hb, e⟩ => h.ap b a hb ha e), fun y hy => ?_, fun a b ha hb => ?_⟩
  · rw [frL_snoc, List.length_append]; exact m1
  · rcases List.mem_append.1 hy with hy | hy
    · exact key y (h.pay y hy)
    · rw [List.mem_singleton.1 hy]; exact key x hx
  · rcases d1 with d1 | d1
    · rw [d1] at ha; exact h.ap a b ha hb
    · have h1 := d1 a ha; have h2 := (h.me.base hb).2.1; omega
theorem Outs.pushE {K : Nat} {w w' : World} {FA EA A' : Option Addr} {fc ec c' : Nat} {fs : List Frm} {es : List Nat} (h : Outs K w FA fc EA ec fs es) (n : Nat)
    (m1 : Mine K 1 w' A' (es.length + 1) c' (es.map errV ++ [errV n])) (g1 : w.grownBy w' (EA.map (·.block))) (d1 : A' = EA ∨ ∀ a, A' = some a → w.heap.size ≤ a.block) : Outs K w' FA fc A' c' fs (es ++ [n]) := by
  have ho : Only (fun j => ∃ b, EA = some b ∧ b.block = j) w w' := Only.of_grown g1 (fun k e => by rw [Option.map_eq_some_iff] at e; exact e)
  refine ⟨h.mf.only ho (fun a ha ⟨b, hb, e⟩ => h.ap a b ha hb e.symm), ?_, fun y hy => ?_, fun a b ha hb => ?_⟩
  · rw [List.map_append, List.length_append]; exact m1
  · have hy' := h.pay y hy
    refine ⟨rb_only hy'.1 ho (fun a ha ⟨b, hb, e⟩ => (hy'.2 a ha).2.2.2 b hb e.symm), fun a ha => ?_⟩
    obtain ⟨h1, h2, h3, h4⟩ := hy'.2 a ha
    refine ⟨h1, Nat.lt_of_lt_of_le h2 ho.size, h3, fun b hb => ?_⟩
    rcases d1 with d1 | d1
    · rw [d1] at hb; exact h4 b hb
    · have := d1 b hb; omega
  · rcases d1 with d1 | d1
    · rw [d1] at hb; exact h.ap a b ha hb
    · have h1 := d1 b hb; have h2 := (h.mf.base ha).2.1; omega
theorem Outs.mono {K K' : Nat} {w : World} {FA EA : Option Addr} {fc ec : Nat} {fs : List Frm} {es : List Nat} (h : Outs K w FA fc EA ec fs es) (hK : K' ≤ K) : Outs K' w FA fc EA ec fs es :=
  ⟨h.mf.mono hK, h.me.mono hK, fun x hx => ⟨(h.pay x hx).1, fun a ha => ⟨Nat.le_trans hK ((h.pay x hx).2 a ha).1, ((h.pay x hx).2 a ha).2⟩⟩, h.ap⟩
/-- The same, where a call has grown both rows. -/
theorem Outs.pushF' {K nb : Nat} {w w' : World} {FA EA A' : Option Addr} {fc ec c' n : Nat} {fs : List Frm} {es : List Nat} (h : Outs K w FA fc EA ec fs es) (hn : fs.length = n) (hnb : w.heap.size = nb) (cd : UInt8) (V : Option Addr) (p : Bs) (vc : Nat)
    (hV : Rb w V p) (hVb : ∀ a, V = some a → K ≤ a.block ∧ a.block < w.heap.size ∧ (∀ b, FA = some b → a.block ≠ b.block) ∧ ∀ b, EA = some b → a.block ≠ b.block)
    (m1 : Mine K 2 w' A' (n + 1) c' (frL fs ++ [.int .u8 (cd.toNat : Int), .slice V p.length vc])) (g1 : w.grownBy w' (FA.map (·.block))) (d1 : A' = FA ∨ ∀ a, A' = some a → nb ≤ a.block) : Outs K w' A' c' EA ec (fs ++ [⟨cd, V, vc, p⟩]) es := by
  subst hn; subst hnb
  exact h.pushF ⟨cd, V, vc, p⟩ ⟨hV, hVb⟩ m1 g1 d1
theorem Outs.pushE' {K nb n : Nat} {w w' : World} {FA EA A' : Option Addr} {fc ec c' : Nat} {fs : List Frm} {es : List Nat} (h : Outs K w FA fc EA ec fs es) (hn : es.length = n) (hnb : w.heap.size = nb) (er : Nat)
    (m1 : Mine K 1 w' A' (n + 1) c' (es.map errV ++ [.int .i64 (er : Int)])) (g1 : w.grownBy w' (EA.map (·.block))) (d1 : A' = EA ∨ ∀ a, A' = some a → nb ≤ a.block) : Outs K w' FA fc A' c' fs (es ++ [er]) := by
  subst hn; subst hnb
  exact h.pushE er m1 g1 d1
/-- A row of frames reads as frames. -/
theorem rf_mine {K : Nat} {w : World} {A : Option Addr} {c : Nat} {fs : List Frm} (h : Mine K 2 w A fs.length c (frL fs)) : Rf w A fs := fun h0 => by
  cases A with
  | none => have := h.non rfl; have := h.le; omega
  | some a =>
    obtain ⟨g, o, rfl, h1, h2, h3, h4⟩ := h.lies a rfl
    refine ⟨g, o, rfl, h2, fun j hj => ?_⟩
    have hl := frL_len fs
    obtain ⟨e0, e1⟩ := frL_get fs j hj
    rw [List.getElem?_eq_getElem (by omega)] at e0 e1
    injection e0 with e0; injection e1 with e1
    rw [h4 (j * 2) (by omega), e0, show o + j * 2 + 1 = o + (j * 2 + 1) from by omega, h4 (j * 2 + 1) (by omega), e1]
    exact ⟨rfl, rfl⟩
/-- A row of numbers reads as numbers. -/
def Ri (w : World) (A : Option Addr) (es : List Nat) : Prop := 0 < es.length → ∃ b o, A = some ⟨b, o, none⟩ ∧ b < w.heap.size ∧ ∀ j (h : j < es.length), w.cell? ⟨b, o + j, none⟩ = some (.int .i64 (es[j] : Int))
theorem ri_mine {K : Nat} {w : World} {A : Option Addr} {c : Nat} {es : List Nat} (h : Mine K 1 w A es.length c (es.map errV)) : Ri w A es := fun h0 => by
  cases A with
  | none => have := h.non rfl; have := h.le; omega
  | some a =>
    obtain ⟨g, o, rfl, h1, h2, h3, h4⟩ := h.lies a rfl
    refine ⟨g, o, rfl, h2, fun j hj => ?_⟩
    rw [h4 j (by simpa using hj)]
    simp [errV]
/-- A literal of elements is a source of append. -/
theorem src_lit {w : World} {tx e : TypeId} {sz n : Nat} (cs : Array Value) (hk : Try.prog.underlying tx = some (.slice e)) (hn : cs.size = n * sz) (h1 : ∀ u ∈ cs.toList, u.oneCell' = true) : Src Try.prog sz tx (.slice (some ⟨w.heap.size, 0, none⟩) n n) n cs.toList (w.alloc (.cells cs e)) :=
  Src.ofSlice _ hk ⟨w.heap.size, 0, none⟩ n n cs.toList (by simpa using hn) (new_cells w cs e) h1
theorem src_nb {w : World} {tx e : TypeId} {sz n nb : Nat} (hnb : w.heap.size = nb) (cs : Array Value) (hk : Try.prog.underlying tx = some (.slice e)) (hn : cs.size = n * sz) (h1 : ∀ u ∈ cs.toList, u.oneCell' = true) : Src Try.prog sz tx (.slice (some ⟨nb, 0, none⟩) n n) n cs.toList (w.alloc (.cells cs e)) := by
  subst hnb; exact src_lit cs hk hn h1
theorem one_frame (c : Int) (A : Option Addr) (n k : Nat) : ∀ u ∈ (#[.int .u8 c, .slice A n k] : Array Value).toList, u.oneCell' = true := by intro u hu; simp at hu; rcases hu with rfl | rfl <;> rfl
end Go.Proofs.Ytmphielkohnpgaa.Dl
