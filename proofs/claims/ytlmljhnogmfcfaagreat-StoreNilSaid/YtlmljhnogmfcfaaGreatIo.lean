/- Proves a law for a loop over an iterator of which more is known when it yields: what it yields stands in memory. Conditions: as each theorem names them. -/
import Derived.Test.YtlmljhnogmfcfaaGreatIl
import Derived.RangeFuncWrites
namespace Go.Proofs.YtlmljhnogmfcfaaGreat.Io
open Go.RowKit Go.Shelf Ap Mi Nw
attribute [local go_sem] Oper.semAt_some

section
variable {P : Program} {F : Fence} {n : Nat} {α : Type}
def SeqP (F : Fence) (n : Nat) (P : Program) (g : Nat) (lb : Array Value) (encs : α → Array Value) (Kp : World → World → Prop) (Pr : α → World → World → Prop) (S Sp : List α → Prop) (N : Nat) (w : World) : Prop :=
 ∀ (l : Nat) (J Jx : List α → World → Prop) (W : World), Below w.heap.size w W → AbidesFrom W.heap.size J → AbidesFrom W.heap.size Jx →
  (∀ pre x W0 W1, J pre W0 → Pr x W0 W1 → J pre W1 → pre.length < N → YieldAt F (n - 1) P l (encs x) W1 fun e W' =>
   (e = .returned (.bool true) ∧ J (pre ++ [x]) W' ∧ Kp W1 W') ∨ (e = .returned (.bool false) ∧ Jx (pre ++ [x]) W' ∧ Kp W1 W')) →
  J [] W → CallsIn F n P g (#[.func (.yield l) #[] #[]] ++ lb) W fun e W' => (∃ v, e = .returned v) ∧ ((∃ xs, S xs ∧ J xs W') ∨ (∃ pre, Sp pre ∧ Jx pre W'))
def rPost (B : Nat) (Kp : World → World → Prop) (I : List α → World → Prop) (Ix : Code → List α → World → Prop) (xs : List α) (W : World) : Exit → Act → World → Prop
 | .normal, _, W' => KeepsFrom B W W' ∧ Kp W W' ∧ I xs W'
 | .exit id, _, W' => KeepsFrom B W W' ∧ Kp W W' ∧ Ix (.exit id) xs W'
 | _, _, _ => False
def recd (fn : Nat) (t : Array Value) (ps : Array Tmp) (assign body : Code) (d : Nat) (st : LoopState) (pe : Option Code) : Loop := { state := st, pending := pe, fn, tmps := t, params := ps, assign, body, defers := d }
theorem range_p {g : Operand} {ps : Array Tmp} {assign body : Code} {Q : Exit → Act → World → Prop} {a : Act} {w : World}
  (hro : F.round = none) (h1 : 1 ≤ n) {gf : Nat} {lb : Array Value} (hg : a.eval g = .func (.func gf) #[] lb) (hFg : F.fn gf) (eg : ∀ args w, (callFunc gf args).run P w = .ok (.enter gf args) w)
  {encs : α → Array Value} {Kp : World → World → Prop} {Pr : α → World → World → Prop} {S Sp : List α → Prop} {N : Nat} {w0 : World} (hseq : SeqP F (n - 1) P gf lb encs Kp Pr S Sp N w0)
  (hKt : ∀ {A B C : World}, Kp A B → Kp B C → Kp A C) (hKb : ∀ (W : World) (l : Nat) (o o' : Obj), w.heap.size ≤ l → W.heap[l]? = some o → o.isCells = false → o.isWalk = false → Kp W (W.putObj l o')) (hb0 : Below w0.heap.size w0 w) (hps : ∀ x, (encs x).size = ps.size)
  (I : List α → World → Prop) (Ix : Code → List α → World → Prop) (hI : OwnFrom w.heap.size I) (hIx : ∀ c, OwnFrom w.heap.size (Ix c)) (h0 : I [] w)
  (Ax : List α → α → Act → World → Prop) (hAx : ∀ pre x a', OwnFrom w.heap.size (fun (_ : Unit) W => Ax pre x a' W))
  (hassign : ∀ (l : Nat) (pre : List α) (x : α) (W0 W : World) (K : Act → World → Prop), I pre W0 → Pr x W0 W → I pre W → pre.length < N → (∀ a' W', KeepsFrom w.heap.size W W' → Kp W W' → Ax pre x a' W' → K a' W') →
   assign.wpIn (F.inRound l) (n - 1 - 1) P (Exit.then K (fun _ _ _ => False)) { tmps := (ps.zip (encs x)).foldl (fun t (p, v) => t.setIfInBounds p v) a.tmps, defers := [] } W)
  (hbody : ∀ (l : Nat) (pre : List α) (x : α) (a' : Act) (W : World), Ax pre x a' W → pre.length < N → body.wpIn (F.inRound l) (n - 1 - 1) P (rPost w.heap.size Kp I Ix (pre ++ [x]) W) a' W)
  (hdone : ∀ (D : Nat) (xs : List α) (W : World), w.heap.size ≤ D → S xs → I xs W → W.heap[D]? = some (.deferred (some [])) → Q .normal { a with defers := { target := .collected D, args := #[] } :: a.defers } W)
  (hstop : ∀ (D : Nat) (c : Code) (pre : List α) (W : World), w.heap.size ≤ D → Sp pre → Ix c pre W → W.heap[D]? = some (.deferred (some [])) → c.wpIn F n P Q { a with defers := { target := .collected D, args := #[] } :: a.defers } W) :
  (Code.rangeFunc g ps assign body).wpIn F n P Q a w := by
 refine wpIn_rangeFunc ?_
 intro fn hfn
 rw [hro]
 obtain ⟨D, hD⟩ : ∃ D, D = w.heap.size := ⟨_, rfl⟩
 obtain ⟨rc, hrc⟩ : ∃ rc : LoopState → Option Code → Loop, rc = recd fn a.tmps ps assign body D := ⟨_, rfl⟩
 obtain ⟨V, hV⟩ : ∃ V, V = (w.alloc (.deferred (some []))).alloc (.loop (rc .ready none)) := ⟨_, rfl⟩
 have szV : V.heap.size = D + 2 := by rw [hV, hD]; simp
 have mD : V.heap[D]? = some (.deferred (some [])) := by
  rw [hV, hD]; exact (Below.heap_alloc _ _ _ (by simp)).trans (World.alloc_heap_new w _)
 have mL : V.heap[D + 1]? = some (.loop (rc .ready none)) := by
  have h := World.alloc_heap_new (w.alloc (.deferred (some []))) (.loop (rc .ready none))
  rw [World.size_alloc] at h; rw [hV, hD]; exact h
 have iV : I [] V := by rw [hV]; exact hI.alloc _ (hI.alloc _ h0)
 have bV : Below w0.heap.size w0 V := by
  rw [hV]; exact hb0.trans ((((Below.refl _ w).alloc (Nat.le_refl _) _).alloc (by simp) _).mono hb0.size)
 refine ⟨D + 1, [{ target := .collected D, args := #[] }], V, { target := .fn (.func gf) lb, args := #[.func (.yield (D + 1)) #[] #[]] }, V, gf, #[.func (.yield (D + 1)) #[] #[]] ++ lb, V, ?_, ?_, ?_, ?_, fun _ => h1, ?_⟩
 ·rw [hV, hrc, hD]; exact run_enterLoop_outer _ _ _ _ _
 ·simp only [resolve, hg]; simp [go_sem]
 ·intro f hf; simp [Target.leads] at hf; subst hf; exact hFg
 ·simp [invoke, go_sem, eg]
 -- where only a record of a walk turns, or what is no cells, all that the loop keeps stays
 have walkRow : ∀ {A : World} {row : Option Nat}, (∀ r, row = some r → V.heap.size ≤ r ∧ ∃ o : Obj, A.heap[r]? = some o ∧ o.isWalk = true) → ∀ r, row = some r → w.heap.size ≤ r ∧ ∃ o : Obj, A.heap[r]? = some o ∧ o.isCells = false :=
  fun hr r e => by obtain ⟨k1, o, k2, k3⟩ := hr r e; exact ⟨by omega, o, k2, Obj.not_cells_of_walk k3⟩
 refine (hseq (D + 1) (fun pre W => I pre W ∧ W.heap[D + 1]? = some (.loop (rc .ready none)) ∧ W.heap[D]? = some (.deferred (some [])))
  (fun pre W => ∃ c, Ix c pre W ∧ W.heap[D + 1]? = some (.loop (rc .done (some c))) ∧ W.heap[D]? = some (.deferred (some []))) V bV ?_ ?_ ?_ ⟨iV, mL, mD⟩).mono ?_
 ·intro s A B row hs hr1 hr2
  exact ⟨hI s A B row hs.1 hr1 (walkRow hr2), (grownBy_keeps hr1 (fun r e => (hr2 r e).2) hs.2.1 rfl).trans hs.2.1, (grownBy_keeps hr1 (fun r e => (hr2 r e).2) hs.2.2 rfl).trans hs.2.2⟩
 ·rintro s A B row ⟨c, k1, k2, k3⟩ hr1 hr2
  exact ⟨c, hIx c s A B row k1 hr1 (walkRow hr2), (grownBy_keeps hr1 (fun r e => (hr2 r e).2) k2 rfl).trans k2, (grownBy_keeps hr1 (fun r e => (hr2 r e).2) k3 rfl).trans k3⟩
 ·rintro pre x W0 W ⟨k0, _, _⟩ hpr ⟨k1, k2, k3⟩ hlen
  have hy := run_yield (P := P) (args := encs x) k2 (by rw [hrc]; exact hps x)
  rw [hrc] at hy
  refine ⟨fn, _, assign, body, hy, roundIn_of_wpIn hfn (hassign _ pre x W0 W _ k0 hpr k1 hlen fun a' Y hkY hKY hAY => ?_)⟩
  have k2 := hkY.same _ _ (by omega) k2 rfl
  have k3 := hkY.same _ _ (by omega) k3 rfl
  have hlt : D + 1 < Y.heap.size := (Array.getElem?_eq_some_iff.1 k2).1
  refine ⟨_, run_beginRound k2 (by rw [hrc]; rfl), ?_⟩
  obtain ⟨X, hX⟩ : ∃ X, X = Y.putObj (D + 1) (.loop { rc .ready none with state := .busy }) := ⟨_, rfl⟩
  have b2 : X.heap[D + 1]? = some (.loop { rc .ready none with state := .busy }) := by rw [hX]; exact World.putObj_heap_same hlt
  have b3 : X.heap[D]? = some (.deferred (some [])) := by rw [hX]; exact (World.putObj_heap_other (by omega)).trans k3
  have bK : Kp W X := hKt hKY (by rw [hX]; exact hKb _ _ _ _ (by omega) k2 rfl rfl)
  have bI : Ax pre x a' X := by rw [hX]; exact (hAx pre x a').putObj (s := ()) _ hAY (by omega) k2 rfl
  rw [← hX]
  refine wpIn_mono (hbody _ pre x a' X bI hlen) ?_
  have fin : ∀ (jump : Option Code) (Z : World), KeepsFrom w.heap.size X Z →
    (Instr.endRound (D + 1) jump).run P Z = .ok (.bool jump.isNone) (Z.putObj (D + 1) (.loop (rc (if jump.isNone then .ready else .done) jump))) ∧ Z.heap[D + 1]? = some (.loop { rc .ready none with state := .busy }) ∧
    (Z.putObj (D + 1) (.loop (rc (if jump.isNone then .ready else .done) jump))).heap[D + 1]? = some (.loop (rc (if jump.isNone then .ready else .done) jump)) ∧
    (Z.putObj (D + 1) (.loop (rc (if jump.isNone then .ready else .done) jump))).heap[D]? = some (.deferred (some [])) := fun jump Z hk => by
   have k4 := hk.same _ _ (by omega) b2 rfl
   have k5 := run_endRound (P := P) jump k4
   rw [hrc] at k5 ⊢
   exact ⟨k5, by rw [hrc] at k4; exact k4, World.putObj_heap_same (Array.getElem?_eq_some_iff.1 k4).1, (World.putObj_heap_other (by omega)).trans (hk.same _ _ (by omega) b3 rfl)⟩
  rintro e a3 Z hp
  cases e with
  | normal =>
   obtain ⟨m1, m2, m3⟩ := hp
   obtain ⟨f1, f2, f3, f4⟩ := fin none Z m1
   exact ⟨_, _, f1, .inl ⟨rfl, ⟨hI.putObj _ m3 (by omega) f2 rfl, f3, f4⟩, hKt (hKt bK m2) (hKb _ _ _ _ (by omega) f2 rfl rfl)⟩⟩
  | exit id =>
   obtain ⟨m1, m2, m3⟩ := hp
   obtain ⟨f1, f2, f3, f4⟩ := fin (some (.exit id)) Z m1
   exact ⟨_, _, f1, .inr ⟨rfl, ⟨.exit id, (hIx _).putObj _ m3 (by omega) f2 rfl, f3, f4⟩, hKt (hKt bK m2) (hKb _ _ _ _ (by omega) f2 rfl rfl)⟩⟩
  | ret => exact hp.elim
  | goto t => exact hp.elim
  | panic ch => exact hp.elim
  | outgrown => exact hp.elim
 ·rintro e Z ⟨⟨v, rfl⟩, (⟨xs, t1, i1, l1, d1⟩ | ⟨pre, t1, c, i1, l1, d1⟩)⟩
  ·have hr := run_endLoop (P := P) l1 (by rw [hrc]; simp [recd])
   rw [hrc] at hr
   exact ⟨none, _, hr, hdone _ xs _ (by omega) t1 (hI.putObj _ i1 (by omega) l1 rfl) ((World.putObj_heap_other (by omega)).trans d1)⟩
  ·have hr := run_endLoop (P := P) l1 (by rw [hrc]; simp [recd])
   rw [hrc] at hr
   exact ⟨some c, _, hr, hstop _ c pre _ (by omega) t1 ((hIx c).putObj _ i1 (by omega) l1 rfl) ((World.putObj_heap_other (by omega)).trans d1)⟩
end
end Go.Proofs.YtlmljhnogmfcfaaGreat.Io
