/- Proves what a law's loop over All's iterator wants while entries are used, removed and put in: the blocks that the iterator reads stand still. Conditions: as each theorem names them. -/
import Derived.Test.YtlmljhnogmfcfaaGreatIu
import Derived.Test.YtlmljhnogmfcfaaGreatIh
import Derived.Test.YtlmljhnogmfcfaaGreatIi
namespace Go.Proofs.YtlmljhnogmfcfaaGreat.Iwa
open Go.RowKit Go.Shelf Ap Mi Nw Ea Eb Ec Ed Ee El Ia Ib Ic Ik Ie If Ig Uc Io Il Ep Iu
attribute [local go_sem] Oper.semAt_some

set_option maxRecDepth 100000 in
set_option maxHeartbeats 2000000 in
theorem iter_q {n : Nat} (hn : 1 ≤ n) {l Bs : Nat} {G : Nat → Prop} {A : Option Addr} {L : List Em} {c : Nat} (hL : L.length ≤ 1048576) {J Jx : List Em → World → Prop} {W : World} (hJ : ∀ pre X Y, J pre X → Below X.heap.size X Y → J pre Y)
  (hY : ∀ pre y W0 W1, J pre W0 → (Nu y W0 W1 ∧ ∃ h : pre.length < L.length, y.e = L[pre.length].e) → J pre W1 → pre.length < L.length → YieldAt Fence.wide (n - 1) Tryz.prog l #[emV y] W1 fun e W' =>
   (e = .returned (.bool true) ∧ J (pre ++ [y]) W' ∧ Kq G W1 W') ∨ (e = .returned (.bool false) ∧ Jx (pre ++ [y]) W' ∧ Kq G W1 W'))
  (hBs : W.cell? ⟨Bs, 0, none⟩ = some (.slice A L.length c)) (hA : RL G W A c L) (h0 : J [] W) :
  CallsIn Fence.wide n Tryz.prog 60 #[.func (.yield l) #[] #[], .pointer (some ⟨Bs, 0, none⟩)] W fun e W' => (∃ v, e = .returned v) ∧ ((∃ ys, ys.length = L.length ∧ J ys W') ∨ (∃ pre, Jx pre W')) := by
 have hreach : (L.length : Int) ≤ 1048576 := by omega
 have HY := Lib.hid hY
 have HJ := Lib.hid hJ
 clear hY hJ
 refine callsIn_of_wp Tryz.func60 rfl trivial ?_ rfl
 simp only [Tryz.ntmps60, List.size_toArray, List.length_cons, List.length_nil, Nat.reduceAdd, Nat.reduceSub, Array.replicate_succ, Array.replicate_zero, List.push_toArray, List.append_toArray, List.nil_append, List.cons_append]
 gi_wp2
 gi_loopw [7] (fun i wr => ∃ (k : Nat) (ys : List Em), k ≤ L.length ∧ i = .int .i64 k ∧ ys.length = k ∧ J ys wr ∧ RL G wr A c L ∧ W.heap.size ≤ wr.heap.size) (fun i _ => L.length - (intOf i).toNat)
 case atStart => exact ⟨0, [], Nat.zero_le _, rfl, rfl, h0, hA, Nat.le_refl _⟩
 case round =>
  obtain ⟨k, ys, hk, rfl, hys, hJs, hRL, hsz⟩ := hrel
  have HRL := Lib.hid hRL
  have HJS := Lib.hid hJs
  have HYS := Lib.hid hys
  by_cases hlt : k < L.length
  ·obtain ⟨b, o, hA1, lb, e0, e1, e2, e3, e4, e5⟩ := rs6_at HRL.out.r hlt
   obtain ⟨x, hx⟩ : ∃ x, x = L[k] := ⟨_, rfl⟩
   rw [← hx] at e0 e1 e2 e3 e4 e5
   have HX : Hid (RE G wr x) := by show RE G wr x; rw [hx]; exact HRL.out.e _ (List.getElem_mem hlt)
   have HXL := Lib.hid hx
   subst hA1
   have i1 : (k : Int) < (L.length : Int) := by omega
   obtain ⟨v0, hv0⟩ : ∃ v0, v0 = wr.alloc (.cells (emA x) 42) := ⟨_, rfl⟩
   have HB0 : Hid (Below wr.heap.size wr v0) := by show Below _ _ _; rw [hv0]; exact bnew _ _
   have HK0 : Hid (Blk v0 wr.heap.size (emA x) 42) := by show Blk _ _ _ _; rw [hv0]; exact Blk.new wr _ _
   have HCP := Lib.hid (copied_any (G := G) x v0 (fun v hb => (HX.out.below HB0.out (Nat.le_refl _)).below hb (Nat.le_refl _)))
   unfold emA at hv0
   clear hx hRL hJs hys
   gi_wp2_with fail
   rw [← hv0]
   clear hv0
   refine ⟨trivial, (callsIn_wide.2 HCP.out).mono ?_⟩
   rintro _ w3 ⟨y, hye, rfl, how, hb3⟩
   have hz0 := HB0.out.size
   have hz3 := hb3.size
   have hb13 : Below wr.heap.size wr w3 := HB0.out.trans (hb3.mono hz0)
   have hRL3 : RL G w3 (some ⟨b, o, none⟩) c L := HRL.out.below hb13 (Nat.le_refl _)
   have hJ3 : J ys w3 := HJ.out _ _ _ HJS.out hb13
   have hOw : Nu y wr w3 := ⟨hb13, how.base hz0⟩
   have hlen : ys.length < L.length := by rw [HYS.out]; exact hlt
   obtain ⟨fn, tmps, assign, body, hy, hR⟩ := HY.out _ y wr w3 HJS.out ⟨hOw, hlen, by rw [hye, HXL.out]; simp only [HYS.out]⟩ hJ3 hlen
   have HR := Lib.hid hR
   have HRL3 := Lib.hid hRL3
   have HYE := Lib.hid hye
   have hzz : W.heap.size ≤ w3.heap.size := by omega
   clear e0 e1 e2 e3 e4 e5 hR hRL3 hJ3 hOw how hye hb3 hb13
   gi_wp2
   refine HR.out.mono ?_
   rintro e W3 (⟨rfl, hJ4, hk4⟩ | ⟨rfl, hJx4, hk4⟩)
   ·have HJ4 := Lib.hid hJ4
    have HK4 := Lib.hid hk4
    clear hJ4 hk4
    gi_wp2
    go_roundw
    case rel => exact ⟨k + 1, ys ++ [y], by omega, by simp, by rw [List.length_append, HYS.out]; rfl, HJ4.out, HRL3.out.only HK4.out (fun j hj => hj), Nat.le_trans hzz HK4.out.size⟩
    case measure => simp [intOf]; omega
   ·have HJ4 := Lib.hid hJx4
    clear hJx4 hk4
    gi_wp2
    refine bodyPost_ret (results_none rfl _ _ _) rfl ?_
    exact ⟨⟨_, rfl⟩, .inr ⟨ys ++ [y], HJ4.out⟩⟩
  ·obtain rfl : k = L.length := by omega
   clear hRL hJs hys
   gi_wp2
   go_end0
   exact ⟨⟨_, rfl⟩, .inl ⟨ys, HYS.out, HJS.out⟩⟩

section
variable {P : Program} {F : Fence} {n : Nat} {α : Type}
def SeqQ (F : Fence) (n : Nat) (P : Program) (g : Nat) (lb : Array Value) (encs : α → Array Value) (Kp : World → World → Prop) (Pr : List α → α → World → World → Prop) (N : Nat) (w : World) : Prop :=
 ∀ (l : Nat) (J Jx : List α → World → Prop) (W : World), Below w.heap.size w W → (∀ pre X Y, J pre X → Below X.heap.size X Y → J pre Y) →
  (∀ pre x W0 W1, J pre W0 → Pr pre x W0 W1 → J pre W1 → pre.length < N → YieldAt F (n - 1) P l (encs x) W1 fun e W' =>
   (e = .returned (.bool true) ∧ J (pre ++ [x]) W' ∧ Kp W1 W') ∨ (e = .returned (.bool false) ∧ Jx (pre ++ [x]) W' ∧ Kp W1 W')) →
  J [] W → CallsIn F n P g (#[.func (.yield l) #[] #[]] ++ lb) W fun e W' => (∃ v, e = .returned v) ∧ ((∃ xs, xs.length = N ∧ J xs W') ∨ (∃ pre, Jx pre W'))
def Sm (D : Nat) (W W' : World) : Prop := W'.heap[D]? = W.heap[D]? ∧ W'.heap[D + 1]? = W.heap[D + 1]?
def qPost (D : Nat) (Kp : World → World → Prop) (I : List α → World → Prop) (Ix : Code → List α → World → Prop) (xs : List α) (W : World) : Exit → Act → World → Prop
 | .normal, _, W' => Sm D W W' ∧ Kp W W' ∧ I xs W'
 | .exit id, _, W' => Sm D W W' ∧ Kp W W' ∧ Ix (.exit id) xs W'
 | _, _, _ => False
theorem range_q {g : Operand} {ps : Array Tmp} {assign body : Code} {Q : Exit → Act → World → Prop} {a : Act} {w : World}
  (hro : F.round = none) (h1 : 1 ≤ n) {gf : Nat} {lb : Array Value} (hg : a.eval g = .func (.func gf) #[] lb) (hFg : F.fn gf) (eg : ∀ args w, (callFunc gf args).run P w = .ok (.enter gf args) w)
  {encs : α → Array Value} {Kp : World → World → Prop} {Pr : List α → α → World → World → Prop} {N : Nat} {w0 : World} (hseq : SeqQ F (n - 1) P gf lb encs Kp Pr N w0)
  (hKt : ∀ {A B C : World}, Kp A B → Kp B C → Kp A C) (hKb : ∀ (W : World) (l : Nat) (o' : Obj), w.heap.size ≤ l → Kp W (W.putObj l o')) (hb0 : Below w0.heap.size w0 w) (hps : ∀ x, (encs x).size = ps.size)
  (I : List α → World → Prop) (Ix : Code → List α → World → Prop) (hI : ∀ pre X Y, I pre X → Below X.heap.size X Y → I pre Y) (hIp : ∀ pre X o', I pre X → I pre (X.putObj (w.heap.size + 1) o')) (hIx : ∀ c pre X o', Ix c pre X → Ix c pre (X.putObj (w.heap.size + 1) o')) (h0 : I [] w)
  (Ax : List α → α → Act → World → Prop) (hAx : ∀ pre x a' X o', Ax pre x a' X → Ax pre x a' (X.putObj (w.heap.size + 1) o'))
  (hassign : ∀ (l : Nat) (pre : List α) (x : α) (W0 W : World) (K : Act → World → Prop), I pre W0 → Pr pre x W0 W → I pre W → pre.length < N → w.heap.size + 1 < W0.heap.size → w.heap.size + 1 < W.heap.size → (∀ a' W', Sm w.heap.size W W' → Kp W W' → Ax pre x a' W' → K a' W') →
   assign.wpIn (F.inRound l) (n - 1 - 1) P (Exit.then K (fun _ _ _ => False)) { tmps := (ps.zip (encs x)).foldl (fun t (p, v) => t.setIfInBounds p v) a.tmps, defers := [] } W)
  (hbody : ∀ (l : Nat) (pre : List α) (x : α) (a' : Act) (W : World), Ax pre x a' W → pre.length < N → w.heap.size + 1 < W.heap.size → body.wpIn (F.inRound l) (n - 1 - 1) P (qPost w.heap.size Kp I Ix (pre ++ [x]) W) a' W)
  (hdone : ∀ (D : Nat) (xs : List α) (W : World), D = w.heap.size → xs.length = N → I xs W → W.heap[D]? = some (.deferred (some [])) → Q .normal { a with defers := { target := .collected D, args := #[] } :: a.defers } W)
  (hstop : ∀ (D : Nat) (c : Code) (pre : List α) (W : World), D = w.heap.size → Ix c pre W → W.heap[D]? = some (.deferred (some [])) → c.wpIn F n P Q { a with defers := { target := .collected D, args := #[] } :: a.defers } W) :
  (Code.rangeFunc g ps assign body).wpIn F n P Q a w := by
 refine wpIn_rangeFunc ?_
 intro fn hfn
 rw [hro]
 obtain ⟨D, hD⟩ : ∃ D, D = w.heap.size := ⟨_, rfl⟩
 obtain ⟨rc, hrc⟩ : ∃ rc : LoopState → Option Code → Loop, rc = recd fn a.tmps ps assign body D := ⟨_, rfl⟩
 obtain ⟨V, hV⟩ : ∃ V, V = (w.alloc (.deferred (some []))).alloc (.loop (rc .ready none)) := ⟨_, rfl⟩
 have szV : V.heap.size = D + 2 := by rw [hV, hD]; simp
 have mD : V.heap[D]? = some (.deferred (some [])) := by
  rw [hV, hD]; exact (Below.heap_alloc _ _ _ (by simp)).trans (World.alloc_heap_new w _)
 have mL : V.heap[D + 1]? = some (.loop (rc .ready none)) := by
  have h := World.alloc_heap_new (w.alloc (.deferred (some []))) (.loop (rc .ready none))
  rw [World.size_alloc] at h; rw [hV, hD]; exact h
 have bW : Below w.heap.size w V := by rw [hV]; exact ((Below.refl _ w).alloc (Nat.le_refl _) _).alloc (by simp) _
 have iV : I [] V := hI _ _ _ h0 bW
 have bV : Below w0.heap.size w0 V := by
  rw [hV]; exact hb0.trans ((((Below.refl _ w).alloc (Nat.le_refl _) _).alloc (by simp) _).mono hb0.size)
 refine ⟨D + 1, [{ target := .collected D, args := #[] }], V, { target := .fn (.func gf) lb, args := #[.func (.yield (D + 1)) #[] #[]] }, V, gf, #[.func (.yield (D + 1)) #[] #[]] ++ lb, V, ?_, ?_, ?_, ?_, fun _ => h1, ?_⟩
 ·rw [hV, hrc, hD]; exact run_enterLoop_outer _ _ _ _ _
 ·simp only [resolve, hg]; simp [go_sem]
 ·intro f hf; simp [Target.leads] at hf; subst hf; exact hFg
 ·simp [invoke, go_sem, eg]
 refine (hseq (D + 1) (fun pre W => I pre W ∧ W.heap[D + 1]? = some (.loop (rc .ready none)) ∧ W.heap[D]? = some (.deferred (some [])))
  (fun pre W => ∃ c, Ix c pre W ∧ W.heap[D + 1]? = some (.loop (rc .done (some c))) ∧ W.heap[D]? = some (.deferred (some []))) V bV ?_ ?_ ⟨iV, mL, mD⟩).mono ?_
 ·rintro pre X Y ⟨h1, h2, h3⟩ hb
  have l1 := (Array.getElem?_eq_some_iff.1 h2).1
  have l2 := (Array.getElem?_eq_some_iff.1 h3).1
  exact ⟨hI _ _ _ h1 hb, (hb.block _ l1).trans h2, (hb.block _ l2).trans h3⟩
 ·rintro pre x W0 W ⟨k0, k00, _⟩ hpr ⟨k1, k2, k3⟩ hlen
  have l0 : w.heap.size + 1 < W0.heap.size := by rw [← hD]; exact (Array.getElem?_eq_some_iff.1 k00).1
  have l1 : w.heap.size + 1 < W.heap.size := by rw [← hD]; exact (Array.getElem?_eq_some_iff.1 k2).1
  have hy := run_yield (P := P) (args := encs x) k2 (by rw [hrc]; exact hps x)
  rw [hrc] at hy
  refine ⟨fn, _, assign, body, hy, roundIn_of_wpIn hfn (hassign _ pre x W0 W _ k0 hpr k1 hlen l0 l1 fun a' Y hkY hKY hAY => ?_)⟩
  rw [← hD] at hkY
  have k2 := hkY.2.trans k2
  have k3 := hkY.1.trans k3
  have hlt : D + 1 < Y.heap.size := (Array.getElem?_eq_some_iff.1 k2).1
  refine ⟨_, run_beginRound k2 (by rw [hrc]; rfl), ?_⟩
  obtain ⟨X, hX⟩ : ∃ X, X = Y.putObj (D + 1) (.loop { rc .ready none with state := .busy }) := ⟨_, rfl⟩
  have b2 : X.heap[D + 1]? = some (.loop { rc .ready none with state := .busy }) := by rw [hX]; exact World.putObj_heap_same hlt
  have b3 : X.heap[D]? = some (.deferred (some [])) := by rw [hX]; exact (World.putObj_heap_other (by omega)).trans k3
  have bK : Kp W X := hKt hKY (by rw [hX]; exact hKb _ _ _ (by omega))
  have bI : Ax pre x a' X := by rw [hX, hD]; exact hAx pre x a' _ _ hAY
  rw [← hX]
  have lX : w.heap.size + 1 < X.heap.size := by rw [← hD]; exact (Array.getElem?_eq_some_iff.1 b2).1
  refine wpIn_mono (hbody _ pre x a' X bI hlen lX) ?_
  have fin : ∀ (jump : Option Code) (Z : World), Sm D X Z →
    (Instr.endRound (D + 1) jump).run P Z = .ok (.bool jump.isNone) (Z.putObj (D + 1) (.loop (rc (if jump.isNone then .ready else .done) jump))) ∧ Z.heap[D + 1]? = some (.loop { rc .ready none with state := .busy }) ∧
    (Z.putObj (D + 1) (.loop (rc (if jump.isNone then .ready else .done) jump))).heap[D + 1]? = some (.loop (rc (if jump.isNone then .ready else .done) jump)) ∧
    (Z.putObj (D + 1) (.loop (rc (if jump.isNone then .ready else .done) jump))).heap[D]? = some (.deferred (some [])) := fun jump Z hk => by
   have k4 := hk.2.trans b2
   have k5 := run_endRound (P := P) jump k4
   rw [hrc] at k5 ⊢
   exact ⟨k5, by rw [hrc] at k4; exact k4, World.putObj_heap_same (Array.getElem?_eq_some_iff.1 k4).1, (World.putObj_heap_other (by omega)).trans (hk.1.trans b3)⟩
  rintro e a3 Z hp
  cases e with
  | normal =>
   obtain ⟨m1, m2, m3⟩ := hp
   rw [← hD] at m1
   obtain ⟨f1, f2, f3, f4⟩ := fin none Z m1
   exact ⟨_, _, f1, .inl ⟨rfl, ⟨by rw [hD]; exact hIp _ _ _ m3, f3, f4⟩, hKt (hKt bK m2) (hKb _ _ _ (by omega))⟩⟩
  | exit id =>
   obtain ⟨m1, m2, m3⟩ := hp
   rw [← hD] at m1
   obtain ⟨f1, f2, f3, f4⟩ := fin (some (.exit id)) Z m1
   exact ⟨_, _, f1, .inr ⟨rfl, ⟨.exit id, by rw [hD]; exact hIx _ _ _ _ m3, f3, f4⟩, hKt (hKt bK m2) (hKb _ _ _ (by omega))⟩⟩
  | ret => exact hp.elim
  | goto t => exact hp.elim
  | panic ch => exact hp.elim
  | outgrown => exact hp.elim
 ·rintro e Z ⟨⟨v, rfl⟩, (⟨xs, t1, i1, l1, d1⟩ | ⟨pre, c, i1, l1, d1⟩)⟩
  ·have hr := run_endLoop (P := P) l1 (by rw [hrc]; simp [recd])
   rw [hrc] at hr
   refine ⟨none, _, hr, hdone _ xs _ hD t1 ?_ ((World.putObj_heap_other (by omega)).trans d1)⟩
   rw [hD]; exact hIp _ _ _ i1
  ·have hr := run_endLoop (P := P) l1 (by rw [hrc]; simp [recd])
   rw [hrc] at hr
   refine ⟨some c, _, hr, hstop _ c pre _ hD ?_ ((World.putObj_heap_other (by omega)).trans d1)⟩
   rw [hD]; exact hIx _ _ _ _ i1
end

theorem only_and {F G : Nat → Prop} {w w' : World} (h : Only F w w') (k : Only G w w') : Only (fun j => F j ∧ G j) w w' :=
 ⟨h.os, h.tape, h.output, h.size, fun j hj hn => by
  rcases Classical.em (F j) with hf | hf
  ·exact k.block j hj (fun hg => hn ⟨hf, hg⟩)
  ·exact h.block j hj hf⟩
section
variable {K F Z Z' : Nat → Prop} {w w' : World} {g : Nat} {s : Sx}
theorem kept_lt (h : Sg K F w g s) {j : Nat} (hj : K j) : j < w.heap.size := by obtain ⟨p, ns, q, c, hb, hf⟩ := h.has; exact (hf.2 j hj).1
def iterK (F : Nat → Prop) (w : World) (g : Nat) (s : Sx) : Ending → World → Prop := fun q w' => ∃ (K : Nat → Prop) (Bs : Nat) (A : Option Addr) (l : List Em) (c : Nat), q = .returned (.func (.func 60) #[] #[.pointer (some ⟨Bs, 0, none⟩)]) ∧ K Bs ∧
 w'.cell? ⟨Bs, 0, none⟩ = some (.slice A l.length c) ∧ l.map Em.e = s.l ∧ RL K w' A c l ∧ Sg K (fun j => F j ∧ j < w.heap.size) w' g s ∧ (∀ j, K j → w.heap.size ≤ j ∨ F j) ∧ Below w.heap.size w w'
set_option maxRecDepth 100000 in
set_option maxHeartbeats 2000000 in
theorem all_k (h : St F w g s) : Calls Tryz.prog 18 #[.pointer (some ⟨g, 0, none⟩)] w (iterK F w g s) := by
 obtain ⟨p, ns, q, c, hB, hF⟩ := h.has
 obtain ⟨L, hL⟩ : ∃ L, L = kept c.E ns := ⟨_, rfl⟩
 have HLI : Hid (Calls Tryz.prog 59 #[.pointer (some ⟨g, 0, none⟩)] w (listPost w L)) := by rw [hL]; exact list_any hB
 have HE : Hid (L.map Em.e = s.l) := by show _ = _; rw [hL]; exact kept_e hB.rel
 have HR : Hid (∀ x ∈ L, RE (fun j => p j = 8 ∧ j < w.heap.size) w x) := fun x hx => by
  rw [hL] at hx
  obtain ⟨n, hn, rfl⟩ := List.mem_map.1 hx
  have hnl := hB.rel.lt n hn
  rw [List.getD_eq_getElem?_getD, List.getElem?_eq_getElem hnl]
  exact hB.lo.re _ (List.getElem_mem hnl)
 have HF := Lib.hid hF
 have HBT := Lib.hid hB
 clear hB hF hL h
 go_enter Tryz.func18, Tryz.ntmps18
 go_wp2_with fail
 refine HLI.out.mono ?_
 rintro _ w1 ⟨A, n, rfl, hmi, hb⟩
 have HM := Lib.hid hmi
 have HB := Lib.hid hb
 clear hmi hb
 go_wp2_with fail
 refine bodyPost_ret (results_tmp rfl _ _ _) rfl ?_
 have b1 : Below w1.heap.size w1 (w1.alloc (Obj.cells #[Value.slice A L.length n] 30)) := bnew _ _
 have hz := HB.out.size
 have bw := HB.out.trans (b1.mono hz)
 refine ⟨fun j => (w.heap.size ≤ j ∧ j < w1.heap.size + 1) ∨ (p j = 8 ∧ j < w.heap.size), w1.heap.size, A, L, n, rfl, Or.inl ⟨hz, by omega⟩, (Blk.new w1 _ _).cell 0, HE.out, ⟨(Rs.mine HM.out).below b1 (Nat.le_refl _), fun a ha => ?_, fun x hx => ?_⟩, ⟨col p 0 w.heap.size, ns, q, c, ⟨HBT.out.lo.below bw 0, HBT.out.rel, HBT.out.r, HBT.out.m⟩, fun j hj hp => ?_, fun j hj => ?_⟩, fun j hj => ?_, bw⟩
 ·have h1 := HM.out.base ha
  exact Or.inl ⟨h1.1, by omega⟩
 ·have h1 := ((HR.out x hx).below HB.out (Nat.le_refl _)).below b1 (Nat.le_refl _)
  exact h1.mono fun j hj => Or.inr hj
 ·rcases Nat.lt_or_ge j w.heap.size with h1 | h1
  ·rw [col_lt h1] at hp; exact ⟨HF.out j h1 hp, h1⟩
  ·rw [col_ge h1] at hp; exact absurd rfl hp
 ·rcases hj with ⟨h1, h2⟩ | ⟨h1, h2⟩
  ·exact ⟨by simpa using h2, Or.inl (col_ge h1)⟩
  ·refine ⟨by have := bw.size; omega, Or.inr ?_⟩
   rw [col_lt h2]; exact h1
 ·rcases hj with ⟨h1, _⟩ | ⟨h1, h2⟩
  ·exact Or.inl h1
  ·exact Or.inr (HF.out j h2 (by rw [h1]; decide))
def Lp (K Z : Nat → Prop) (g : Nat) (w : World) : Prop := ∃ F s, Sg K F w g s ∧ ∀ j, F j → ¬ Z j ∧ j < w.heap.size
theorem Lp.mono (h : Lp K Z g w) (hz : ∀ j, j < w.heap.size → Z' j → Z j) : Lp K Z' g w := by
 obtain ⟨F, s, h1, h2⟩ := h
 exact ⟨F, s, h1, fun j hj => ⟨fun hn => (h2 j hj).1 (hz j (h2 j hj).2 hn), (h2 j hj).2⟩⟩
theorem Lp.only {G : Nat → Prop} (h : Lp K Z g w) (ho : Only G w w') (hG : ∀ j, G j → Z j) : Lp K Z g w' := by
 obtain ⟨F, s, h1, h2⟩ := h
 exact ⟨F, s, h1.only ho (fun j hj hg => (h2 j hj).1 (hG j hg)), fun j hj => ⟨(h2 j hj).1, Nat.lt_of_lt_of_le (h2 j hj).2 ho.size⟩⟩
theorem Lp.below (h : Lp K Z g w) (hb : Below w.heap.size w w') : Lp K Z g w' := h.only (Only.of_below hb (Nat.le_refl _) (fun _ => False)) (fun _ hf => hf.elim)
theorem Lp.kl (h : Lp K Z g w) {j : Nat} (hj : K j) : j < w.heap.size := by obtain ⟨F, s, h1, _⟩ := h; exact kept_lt h1 hj
def lpPost (K Z : Nat → Prop) (g : Nat) (w : World) : Ending → World → Prop := fun q w' => (∃ v, q = .returned v) ∧ Lp K Z g w' ∧ Only (fun j => ¬ K j ∧ ¬ Z j) w w'
theorem lp_gav {F' P : Nat → Prop} {s' : Sx} (hF : ∀ j, F j → ¬ Z j ∧ j < w.heap.size) (hZ : ∀ j, Z j → j < w.heap.size) (h : Gav K F w w' g s' F' P) : Lp K Z g w' ∧ Only (fun j => ¬ K j ∧ ¬ Z j) w w' := by
 refine ⟨⟨_, s', h.s.tight, fun j hj => ⟨fun hz => ?_, hj.2⟩⟩, (only_and h.k h.v.o).mono fun j _ hj => ⟨hj.1, (hF j hj.2).1⟩⟩
 rcases h.v.f j hj.1 with h1 | h1
 ·exact (hF j h1).1 hz
 ·have := hZ j hz; omega
theorem lp_use (h : Lp K Z g w) (hZ : ∀ j, Z j → j < w.heap.size) (k : ByteArray) (hk : k.size ≤ 1000000) : Calls Tryz.prog 20 #[.pointer (some ⟨g, 0, none⟩), .string k] w (lpPost K Z g w) := by
 obtain ⟨F, s, h1, h2⟩ := h
 refine (use_anyG h1 k hk).mono ?_
 rintro _ w' ⟨F', P, y, rfl, _, _, _, gv⟩
 exact ⟨⟨_, rfl⟩, lp_gav h2 hZ gv⟩
theorem lp_rem (h : Lp K Z g w) (hZ : ∀ j, Z j → j < w.heap.size) (k : ByteArray) (hk : k.size ≤ 1000000) : Calls Tryz.prog 21 #[.pointer (some ⟨g, 0, none⟩), .string k] w (lpPost K Z g w) := by
 obtain ⟨F, s, h1, h2⟩ := h
 refine (rem_anyG h1 k hk).mono ?_
 rintro _ w' ⟨F', P, y, rfl, _, _, _, gv⟩
 exact ⟨⟨_, rfl⟩, lp_gav h2 hZ gv⟩
theorem lp_put (h : Lp K Z g w) (hZ : ∀ j, Z j → j < w.heap.size) (k : ByteArray) (hk : k.size ≤ 1000000) : Calls Tryz.prog 22 #[.pointer (some ⟨g, 0, none⟩), .agg #[.string k, .slice none 0 0, .slice none 0 0, .int .u64 0, .int .u64 0, .int .u64 0]] w (lpPost K Z g w) := by
 obtain ⟨F, s, h1, h2⟩ := h
 have hx : ∀ v, Only F w v → RE (fun _ => False) v ⟨⟨k, [], [], 0, 0, 0⟩, none, 0, none, 0⟩ := fun v _ => ⟨⟨hk, Nat.zero_le _, Nat.zero_le _, (fun t ht => by cases ht), ⟨Int.le_refl 0, (by decide : (0 : Int) < 18446744073709551616)⟩, ⟨Int.le_refl 0, (by decide : (0 : Int) < 18446744073709551616)⟩, ⟨Int.le_refl 0, (by decide : (0 : Int) < 18446744073709551616)⟩⟩, Rs.nil _ _, Rs.nil _ _, (fun a e => by cases e), (fun a e => by cases e)⟩
 refine (put_anyG h1 hx).mono ?_
 rintro _ w' ⟨F', P, A, c, l, rfl, _, _, gv⟩
 exact ⟨⟨_, rfl⟩, lp_gav h2 hZ gv⟩
end
end Go.Proofs.YtlmljhnogmfcfaaGreat.Iwa
