/- Proves that RecentIterates returns true at every argument. Conditions: as the row gives them. -/
import Derived.Test.YtfoalfemkpiniaaUi
import Derived.Stop.RegionWithIn
import Derived.RangeFuncWrites
namespace Go.Proofs.Ytfoalfemkpiniaa.Un
open Go.RowKit Go.Shelf Ap Mi Nw Ua Ub Uc Ue Uf Ug Uh
attribute [local go_sem] Oper.semAt_some

/-- The order and the list, each held by a box. -/
structure It (N b5 b6 : Nat) (F : Nat → Prop) (w : World) (g : Nat) (A : Option Addr) (c : Nat) (L : List Int) : Prop where
  bo : Bo N F w g A c L
  p5 : Blk w b5 #[.pointer (some ⟨g, 0, none⟩)] 24
  p6 : Blk w b6 #[.slice A L.length c] 26
  nf : ∀ j, F j → j ≠ b5 ∧ j ≠ b6
  na : ∀ a, A = some a → a.block ≠ b5 ∧ a.block ≠ b6
theorem It.below {N b5 b6 : Nat} {F : Nat → Prop} {w w' : World} {g : Nat} {A : Option Addr} {c : Nat} {L : List Int} (h : It N b5 b6 F w g A c L) (hb : Below w.heap.size w w') : It N b5 b6 F w' g A c L :=
  ⟨h.bo.below hb, h.p5.below hb h.p5.lt, h.p6.below hb h.p6.lt, h.nf, h.na⟩
theorem It.stored {N b5 b6 : Nat} (h56 : b5 ≠ b6) {F : Nat → Prop} {w : World} {g g0 : Nat} {A A0 : Option Addr} {c c0 n0 : Nat} {L : List Int} (h : Bo N F w g A c L) (p5 : Blk w b5 #[.pointer (some ⟨g0, 0, none⟩)] 24) (p6 : Blk w b6 #[.slice A0 n0 c0] 26)
    (nf : ∀ j, F j → j ≠ b5 ∧ j ≠ b6) (na : ∀ a, A = some a → a.block ≠ b5 ∧ a.block ≠ b6) :
    It N b5 b6 F ((w.setCell ⟨b5, 0, none⟩ (.pointer (some ⟨g, 0, none⟩))).setCell ⟨b6, 0, none⟩ (.slice A L.length c)) g A c L ∧ Only (fun j => j = b5 ∨ j = b6) w ((w.setCell ⟨b5, 0, none⟩ (.pointer (some ⟨g, 0, none⟩))).setCell ⟨b6, 0, none⟩ (.slice A L.length c)) := by
  have o5 : Only (fun j => j = b5 ∨ j = b6) w (w.setCell ⟨b5, 0, none⟩ (.pointer (some ⟨g, 0, none⟩))) := (Only.refl _ w).put (ad := ⟨b5, 0, none⟩) (Or.inl rfl) _
  have o6 : Only (fun j => j = b5 ∨ j = b6) w ((w.setCell ⟨b5, 0, none⟩ (.pointer (some ⟨g, 0, none⟩))).setCell ⟨b6, 0, none⟩ (.slice A L.length c)) := o5.put (ad := ⟨b6, 0, none⟩) (Or.inr rfl) _
  refine ⟨⟨⟨h.rc.only o6 (fun j hj hf => by have := nf j hj; rcases hf with hf | hf; exact this.1 hf; exact this.2 hf), h.li.only o6 (fun a ha hf => by have := na a ha; rcases hf with hf | hf; exact this.1 hf; exact this.2 hf), h.lo, h.ap, Nat.le_trans h.sz o6.size, fun a ha => Nat.lt_of_lt_of_le (h.bd a ha) o6.size⟩, ?_, ?_, nf, na⟩, o6⟩
  · exact (p5.set 0 (.pointer (some ⟨g, 0, none⟩))).only (F := fun j => j = b6) (only_own (F := fun j => j = b6) rfl _) h56
  · exact (p6.only (F := fun j => j = b5) (only_own (F := fun j => j = b5) rfl _) (fun e => h56 e.symm)).set 0 (.slice A L.length c)
theorem res4 {tmps : Array Value} {b4 : Nat} {w : World} {v : Value} (h : tmps.getD 4 undef = .pointer (some ⟨b4, 0, none⟩)) (hc : w.cell? ⟨b4, 0, none⟩ = some v) :
    (results Try.f4 tmps).run Try.prog w = .ok v w := by
  rw [Array.getD_eq_getD_getElem?] at h
  simp [results, Try.results4, go_sem, h, hc]
/-- Marks on deferred calls that hold none. -/
def mkD (D : Nat) : Deferred := { target := .collected D, args := #[] }
theorem leave_marks {F : Fence} {n : Nat} {P : Program} {fn : Func} {tmps : Array Value} {R : Ending → World → Prop} : ∀ (ms : List Nat) (w : World), ms.Nodup → (∀ D ∈ ms, w.heap[D]? = some (.deferred (some []))) → (∀ w', Only (fun j => j ∈ ms) w w' → LeavesInM F n P fn tmps R [] .returning w') → LeavesInM F n P fn tmps R (ms.map mkD) .returning w
  | [], w, _, _, h => h w (Only.refl _ _)
  | D :: ms, w, hd, hm, h => by
    obtain ⟨d1, d2⟩ := List.nodup_cons.1 hd
    have ho : Only (fun j => j = D) w (w.putObj D (.deferred none)) := Only.of_grown (grownBy_putObj' w D _) (fun k e => by cases e; rfl)
    refine ⟨by simp, .inl ⟨D, _, rfl, run_takeDeferred (hm D (by simp)), leave_marks ms _ d2 (fun D' hD' => ?_) (fun w' ho' => h w' ?_)⟩⟩
    · have h1 := hm D' (List.mem_cons_of_mem _ hD')
      rw [ho.block D' (Array.getElem?_eq_some_iff.1 h1).1 (fun e => d1 (e ▸ hD'))]; exact h1
    · exact (ho.mono fun j _ e => by rw [e]; simp).trans (ho'.mono fun j _ hj => Or.inl (List.mem_cons_of_mem _ hj))
/-- The rounds of a loop, by a number that goes up to M. -/
theorem rounds_by {F : Fence} {n : Nat} {P : Program} {c : Code} {Q : Exit → Act → World → Prop} {I : Nat → Act → World → Prop} (M : Nat)
    (hr : ∀ t a w, t ≤ M → I t a w → c.wpIn F n P (Exit.then (fun a' w' => t < M ∧ I (t + 1) a' w') Q) a w) : ∀ (m t : Nat) (a : Act) (w : World), t + m = M + 1 → I t a w → t ≤ M → Code.roundsIn F n P c Q m a w
  | 0, t, a, w, h, _, ht => by omega
  | m + 1, t, a, w, h, hi, ht => by
    refine Code.wpIn_mono (fun e a' w' q => ?_) (hr t a w ht hi)
    cases e with
    | normal => exact rounds_by M hr m (t + 1) a' w' (by omega) q.2 (by have := q.1; omega)
    | _ => exact q
structure Fr (a : Go.Act) (b3 b4 b5 b6 gf : Nat) (lb : Array Value) (b10 : Nat) (ds : List Deferred) : Prop where
  df : a.defers = ds
  sz : a.tmps.size = 100
  h3 : a.tmps.getD 3 undef = .pointer (some ⟨b3, 0, none⟩)
  h4 : a.tmps.getD 4 undef = .pointer (some ⟨b4, 0, none⟩)
  h5 : a.tmps.getD 5 undef = .pointer (some ⟨b5, 0, none⟩)
  h6 : a.tmps.getD 6 undef = .pointer (some ⟨b6, 0, none⟩)
  h9 : a.tmps.getD 9 undef = .func (.func gf) #[] lb
  h10 : a.tmps.getD 10 undef = .pointer (some ⟨b10, 0, none⟩)
set_option maxRecDepth 1000000 in
theorem arr_eq (t : Array Value) (h : t.size = 100) : t = #[t.getD 0 undef, t.getD 1 undef, t.getD 2 undef, t.getD 3 undef, t.getD 4 undef, t.getD 5 undef, t.getD 6 undef, t.getD 7 undef, t.getD 8 undef, t.getD 9 undef, t.getD 10 undef, t.getD 11 undef, t.getD 12 undef, t.getD 13 undef, t.getD 14 undef, t.getD 15 undef, t.getD 16 undef, t.getD 17 undef, t.getD 18 undef, t.getD 19 undef, t.getD 20 undef, t.getD 21 undef, t.getD 22 undef, t.getD 23 undef, t.getD 24 undef, t.getD 25 undef, t.getD 26 undef, t.getD 27 undef, t.getD 28 undef, t.getD 29 undef, t.getD 30 undef, t.getD 31 undef, t.getD 32 undef, t.getD 33 undef, t.getD 34 undef, t.getD 35 undef, t.getD 36 undef, t.getD 37 undef, t.getD 38 undef, t.getD 39 undef, t.getD 40 undef, t.getD 41 undef, t.getD 42 undef, t.getD 43 undef, t.getD 44 undef, t.getD 45 undef, t.getD 46 undef, t.getD 47 undef, t.getD 48 undef, t.getD 49 undef, t.getD 50 undef, t.getD 51 undef, t.getD 52 undef, t.getD 53 undef, t.getD 54 undef, t.getD 55 undef, t.getD 56 undef, t.getD 57 undef, t.getD 58 undef, t.getD 59 undef, t.getD 60 undef, t.getD 61 undef, t.getD 62 undef, t.getD 63 undef, t.getD 64 undef, t.getD 65 undef, t.getD 66 undef, t.getD 67 undef, t.getD 68 undef, t.getD 69 undef, t.getD 70 undef, t.getD 71 undef, t.getD 72 undef, t.getD 73 undef, t.getD 74 undef, t.getD 75 undef, t.getD 76 undef, t.getD 77 undef, t.getD 78 undef, t.getD 79 undef, t.getD 80 undef, t.getD 81 undef, t.getD 82 undef, t.getD 83 undef, t.getD 84 undef, t.getD 85 undef, t.getD 86 undef, t.getD 87 undef, t.getD 88 undef, t.getD 89 undef, t.getD 90 undef, t.getD 91 undef, t.getD 92 undef, t.getD 93 undef, t.getD 94 undef, t.getD 95 undef, t.getD 96 undef, t.getD 97 undef, t.getD 98 undef, t.getD 99 undef] := by
  have e : #[t.getD 0 undef, t.getD 1 undef, t.getD 2 undef, t.getD 3 undef, t.getD 4 undef, t.getD 5 undef, t.getD 6 undef, t.getD 7 undef, t.getD 8 undef, t.getD 9 undef, t.getD 10 undef, t.getD 11 undef, t.getD 12 undef, t.getD 13 undef, t.getD 14 undef, t.getD 15 undef, t.getD 16 undef, t.getD 17 undef, t.getD 18 undef, t.getD 19 undef, t.getD 20 undef, t.getD 21 undef, t.getD 22 undef, t.getD 23 undef, t.getD 24 undef, t.getD 25 undef, t.getD 26 undef, t.getD 27 undef, t.getD 28 undef, t.getD 29 undef, t.getD 30 undef, t.getD 31 undef, t.getD 32 undef, t.getD 33 undef, t.getD 34 undef, t.getD 35 undef, t.getD 36 undef, t.getD 37 undef, t.getD 38 undef, t.getD 39 undef, t.getD 40 undef, t.getD 41 undef, t.getD 42 undef, t.getD 43 undef, t.getD 44 undef, t.getD 45 undef, t.getD 46 undef, t.getD 47 undef, t.getD 48 undef, t.getD 49 undef, t.getD 50 undef, t.getD 51 undef, t.getD 52 undef, t.getD 53 undef, t.getD 54 undef, t.getD 55 undef, t.getD 56 undef, t.getD 57 undef, t.getD 58 undef, t.getD 59 undef, t.getD 60 undef, t.getD 61 undef, t.getD 62 undef, t.getD 63 undef, t.getD 64 undef, t.getD 65 undef, t.getD 66 undef, t.getD 67 undef, t.getD 68 undef, t.getD 69 undef, t.getD 70 undef, t.getD 71 undef, t.getD 72 undef, t.getD 73 undef, t.getD 74 undef, t.getD 75 undef, t.getD 76 undef, t.getD 77 undef, t.getD 78 undef, t.getD 79 undef, t.getD 80 undef, t.getD 81 undef, t.getD 82 undef, t.getD 83 undef, t.getD 84 undef, t.getD 85 undef, t.getD 86 undef, t.getD 87 undef, t.getD 88 undef, t.getD 89 undef, t.getD 90 undef, t.getD 91 undef, t.getD 92 undef, t.getD 93 undef, t.getD 94 undef, t.getD 95 undef, t.getD 96 undef, t.getD 97 undef, t.getD 98 undef, t.getD 99 undef] = ((List.range 100).map fun i => t.getD i undef).toArray := by rfl
  refine Array.toList_inj.1 ?_
  rw [e]
  refine List.ext_getElem (by simp [h]) (fun i h1 h2 => ?_)
  have hi : i < t.size := by simpa using h1
  simp [Array.getD, hi]
set_option maxRecDepth 1000000 in
theorem Fr.opened {a : Go.Act} {b3 b4 b5 b6 gf : Nat} {lb : Array Value} {b10 : Nat} {ds : List Deferred} (h : Fr a b3 b4 b5 b6 gf lb b10 ds) : ∃ f : Nat → Value, a = ⟨#[f 0, f 1, f 2, .pointer (some ⟨b3, 0, none⟩), .pointer (some ⟨b4, 0, none⟩), .pointer (some ⟨b5, 0, none⟩), .pointer (some ⟨b6, 0, none⟩), f 7, f 8, .func (.func gf) #[] lb, .pointer (some ⟨b10, 0, none⟩), f 11, f 12, f 13, f 14, f 15, f 16, f 17, f 18, f 19, f 20, f 21, f 22, f 23, f 24, f 25, f 26, f 27, f 28, f 29, f 30, f 31, f 32, f 33, f 34, f 35, f 36, f 37, f 38, f 39, f 40, f 41, f 42, f 43, f 44, f 45, f 46, f 47, f 48, f 49, f 50, f 51, f 52, f 53, f 54, f 55, f 56, f 57, f 58, f 59, f 60, f 61, f 62, f 63, f 64, f 65, f 66, f 67, f 68, f 69, f 70, f 71, f 72, f 73, f 74, f 75, f 76, f 77, f 78, f 79, f 80, f 81, f 82, f 83, f 84, f 85, f 86, f 87, f 88, f 89, f 90, f 91, f 92, f 93, f 94, f 95, f 96, f 97, f 98, f 99], ds⟩ := by
  refine ⟨fun i => a.tmps.getD i undef, ?_⟩
  have e := arr_eq a.tmps h.sz
  rw [h.h3, h.h4, h.h5, h.h6, h.h9, h.h10] at e
  show (⟨a.tmps, a.defers⟩ : Go.Act) = ⟨_, ds⟩
  rw [h.df]
  exact congrArg (fun t => (⟨t, ds⟩ : Go.Act)) e
/-- The state between the rounds and in them: the boxes, the list, the iterator and some order. -/
structure Iv (N b3 b4 b5 b6 n1 n0 : Nat) (F : Nat → Prop) (many : Int) (v : Value) (g : Nat) (A : Option Addr) (c : Nat) (L : List Int) (w : World) : Prop where
  rc : ∃ M, Rc F w g M
  li : Li w A L c
  p3 : Blk w b3 #[.int .i64 many] 3
  p4 : Blk w b4 #[.bool false] 4
  p5 : Blk w b5 #[.pointer (some ⟨g, 0, none⟩)] 24
  p6 : Blk w b6 #[.slice A L.length c] 26
  sq : IsSeq n1 n0 w v L
/-- What another block must not be. -/
def Used (b3 b4 b5 b6 n1 n0 : Nat) (A : Option Addr) (j : Nat) : Prop := j = b3 ∨ j = b4 ∨ j = b5 ∨ j = b6 ∨ (∃ a, A = some a ∧ a.block = j) ∨ (n1 ≤ j ∧ j < n0)
theorem Iv.only {N b3 b4 b5 b6 n1 n0 : Nat} {F G : Nat → Prop} {many : Int} {v : Value} {g : Nat} {A : Option Addr} {c : Nat} {L : List Int} {w w' : World} (h : Iv N b3 b4 b5 b6 n1 n0 F many v g A c L w) (ho : Only G w w') (hG : ∀ j, G j → ¬ Used b3 b4 b5 b6 n1 n0 A j) (hr : ∃ M, Rc F w' g M) : Iv N b3 b4 b5 b6 n1 n0 F many v g A c L w' :=
  ⟨hr, h.li.only ho (fun a ha hg => hG _ hg (Or.inr (Or.inr (Or.inr (Or.inr (Or.inl ⟨a, ha, rfl⟩)))))), h.p3.only ho (fun hg => hG _ hg (Or.inl rfl)), h.p4.only ho (fun hg => hG _ hg (Or.inr (Or.inl rfl))), h.p5.only ho (fun hg => hG _ hg (Or.inr (Or.inr (Or.inl rfl)))), h.p6.only ho (fun hg => hG _ hg (Or.inr (Or.inr (Or.inr (Or.inl rfl))))),
    h.sq.keep (Keep.of_only ho (fun j hj hn => hG j hj (Or.inr (Or.inr (Or.inr (Or.inr (Or.inr hn)))))))⟩
theorem keeps_only {m : Nat} {G : Nat → Prop} {W W' : World} (h : Only G W W') (hG : ∀ j, G j → j < m) : KeepsFrom m W W' :=
  ⟨h.size, fun k o hk h0 _ => (h.block k (Array.getElem?_eq_some_iff.1 h0).1 (fun hg => by have := hG k hg; omega)).trans h0⟩
/-- What is known of the blocks for good. -/
structure Gl (N b3 b4 b5 b6 n1 n0 : Nat) (F : Nat → Prop) (A : Option Addr) : Prop where
  nn : n1 ≤ n0
  l3 : N ≤ b3 ∧ b3 < n1
  l4 : N ≤ b4 ∧ b4 < n1
  l5 : N ≤ b5 ∧ b5 < n1
  l6 : N ≤ b6 ∧ b6 < n1
  ba : ∀ a, A = some a → a.block < n1
  fu : ∀ j, F j → N ≤ j ∧ j < n1 ∧ ¬ Used b3 b4 b5 b6 n1 n0 A j
theorem Gl.used {N b3 b4 b5 b6 n1 n0 : Nat} {F : Nat → Prop} {A : Option Addr} (h : Gl N b3 b4 b5 b6 n1 n0 F A) {j : Nat} (hj : n0 ≤ j) : ¬ Used b3 b4 b5 b6 n1 n0 A j := fun hu => by
  have h0 := h.nn; have h1 := h.l3.2; have h2 := h.l4.2; have h3 := h.l5.2; have h4 := h.l6.2
  rcases hu with e | e | e | e | ⟨a, ha, e⟩ | e
  · omega
  · omega
  · omega
  · omega
  · have := h.ba a ha; omega
  · omega
/-- The state between the rounds of the two turns. -/
structure Tv (N b3 b4 b5 b6 n1 n0 : Nat) (F : Nat → Prop) (many : Int) (v : Value) (g : Nat) (A : Option Addr) (c : Nat) (L : List Int) (W : World) (t b10 : Nat) (ms : List Nat) (w : World) : Prop where
  iv : Iv N b3 b4 b5 b6 n1 n0 F many v g A c L w
  pt : Blk w b10 #[.int .i64 (t : Int)] 3
  nt : n0 ≤ b10
  nd : ms.Nodup
  md : ∀ D ∈ ms, n0 ≤ D ∧ w.heap[D]? = some (.deferred (some []))
  bl : Below N W w
theorem Tv.step {N b3 b4 b5 b6 n1 n0 : Nat} {F G : Nat → Prop} {many : Int} {v : Value} {g : Nat} {A : Option Addr} {c : Nat} {L : List Int} {W : World} {t b10 : Nat} {ms : List Nat} {w w' : World} (h : Tv N b3 b4 b5 b6 n1 n0 F many v g A c L W t b10 ms w) (gl : Gl N b3 b4 b5 b6 n1 n0 F A)
    (ho : Only G w w') (hG : ∀ j, G j → F j ∨ n0 ≤ j) (h10 : ¬ G b10) (hD : ∀ D ∈ ms, ¬ G D) (hr : ∃ M, Rc F w' g M) : Tv N b3 b4 b5 b6 n1 n0 F many v g A c L W t b10 ms w' := by
  have hn : N ≤ n0 := by have h1 := gl.nn; have h2 := gl.l3; omega
  refine ⟨h.iv.only ho (fun j hj => ?_) hr, h.pt.only ho h10, h.nt, h.nd, fun D hD' => ⟨(h.md D hD').1, ?_⟩, h.bl.trans (ho.below (fun j hj => ?_) ?_)⟩
  · rcases hG j hj with h1 | h1
    · exact (gl.fu j h1).2.2
    · exact gl.used h1
  · have h1 := (h.md D hD').2
    rw [ho.block D (Array.getElem?_eq_some_iff.1 h1).1 (hD D hD')]; exact h1
  · rcases hG j hj with h1 | h1
    · exact (gl.fu j h1).1
    · omega
  · have := h.iv.p3.lt; have := gl.l3; omega
theorem only_row1 {A B : World} {row : Option Nat} {m : Nat} (hg : A.grownBy B row) (hr : ∀ r, row = some r → m ≤ r ∧ ∃ o : Obj, A.heap[r]? = some o ∧ o.isCells = false) : Only (fun j => m ≤ j) A B := Only.of_grown hg (fun k e => (hr k e).1)
theorem Tv.own {N b3 b4 b5 b6 n1 n0 : Nat} {F : Nat → Prop} {many : Int} {v : Value} {g : Nat} {A : Option Addr} {c : Nat} {L : List Int} {W : World} {t b10 m b11 : Nat} {ms : List Nat} (gl : Gl N b3 b4 b5 b6 n1 n0 F A) (hm : n0 ≤ m) (h10 : b10 < m) (h11 : b11 < m) (hD : ∀ D ∈ ms, D < m) (p : List Int → Prop) :
    OwnFrom m (fun pre W' => Tv N b3 b4 b5 b6 n1 n0 F many v g A c L W t b10 ms W' ∧ Blk W' b11 #[.int .i64 (pre.length : Int)] 3 ∧ p pre) := fun pre X Y row hs hg hr => by
  have ho := only_row1 hg hr
  obtain ⟨h1, h2, h3⟩ := hs
  obtain ⟨M, hM⟩ := h1.iv.rc
  exact ⟨h1.step gl ho (fun j hj => Or.inr (by omega)) (by omega) (fun D h => by have := hD D h; omega) ⟨M, hM.only ho (fun j hj hf => by have := (gl.fu j hj).2.1; have := gl.nn; omega)⟩, h2.only ho (by omega), h3⟩
theorem pre_next {L pre : List Int} {x : Int} (h : pre <+: L) (hlt : pre.length < L.length) (hx : x = L[pre.length]) : pre ++ [x] <+: L := by
  obtain ⟨r, rfl⟩ := h
  cases r with
  | nil => simp at hlt
  | cons y r =>
    rw [List.getElem_append_right (Nat.le_refl _)] at hx
    simp at hx
    subst hx
    exact ⟨r, by simp⟩
theorem pre_other {L pre : List Int} {x : Int} (hlt : pre.length < L.length) (hx : x ≠ L[pre.length]) : ¬ pre ++ [x] <+: L := by
  rintro ⟨r, rfl⟩
  exact hx (by simp)
theorem Tv.turn {N b3 b4 b5 b6 n1 n0 : Nat} {F : Nat → Prop} {many : Int} {v : Value} {g : Nat} {A : Option Addr} {c : Nat} {L : List Int} {W : World} {t b10 Dm : Nat} {ms : List Nat} {w : World} (h : Tv N b3 b4 b5 b6 n1 n0 F many v g A c L W t b10 ms w) (gl : Gl N b3 b4 b5 b6 n1 n0 F A)
    (hD : w.heap[Dm]? = some (.deferred (some []))) (hn : n0 ≤ Dm) (hm : ∀ D ∈ ms, D < Dm) : Tv N b3 b4 b5 b6 n1 n0 F many v g A c L W (t + 1) w.heap.size (Dm :: ms) (w.alloc (.cells #[.int .i64 ((t : Int) + 1)] 3)) := by
  obtain ⟨M, hM⟩ := h.iv.rc
  have hb := bnew w (.cells #[.int .i64 ((t : Int) + 1)] 3)
  have h1 := h.step gl (Only.of_below hb (Nat.le_refl _) (fun _ => False)) (fun _ h => h.elim) (fun h => h) (fun _ _ h => h) ⟨M, hM.below hb (Nat.le_refl _)⟩
  refine ⟨h1.iv, ?_, by have := h.pt.lt; have := h.nt; omega, List.nodup_cons.2 ⟨fun h => by have := hm _ h; omega, h.nd⟩, fun D hD' => ?_, h1.bl⟩
  · have := Blk.new w #[.int .i64 ((t : Int) + 1)] 3
    exact this
  · rcases List.mem_cons.1 hD' with e | e
    · subst e
      exact ⟨hn, (hb.block D (Array.getElem?_eq_some_iff.1 hD).1).trans hD⟩
    · exact h1.md D e
set_option maxRecDepth 100000 in
set_option maxHeartbeats 8000000 in
theorem iterates_walk (D : Option Addr) (q0 : Nat) (l : List (Int × Int)) (many : Int) (W : World) (ha : Rs W 2 D l.length q0 (acL l)) :
    Calls Try.prog 4 #[.slice D l.length q0, .int .i64 many] W (boolTo true W) := by
  have HD := Lib.hid ha
  have hdl := ha.le
  have hdm := ha.max
  unfold maxLen at hdm
  clear ha
  unfold boolTo
  obtain ⟨W2, hW2⟩ : ∃ W2, W2 = (W.alloc (.cells #[.int .i64 many] 3)).alloc (.cells #[.bool false] 4) := ⟨_, rfl⟩
  have P3 : Hid (Blk W2 W.heap.size #[.int .i64 many] 3) := by
    show Blk _ _ _ _
    rw [hW2]; exact (Blk.new W _ _).below (bnew _ _) (by simp)
  have P4 : Hid (Blk W2 (W.heap.size + 1) #[.bool false] 4) := by
    show Blk _ _ _ _
    have := Blk.new (W.alloc (.cells #[.int .i64 many] 3)) #[.bool false] 4
    rw [hW2]; simpa using this
  have BW : Hid (Below W.heap.size W W2) := by show Below _ _ _; rw [hW2]; exact (bnew W _).alloc (by simp) _
  have hzl : W.heap.size + 1 < W2.heap.size := P4.out.lt
  refine (callsIn_wide (n := 30)).1 ?_
  have hro : Fence.wide.round = none := rfl
  have h30 : 1 ≤ 30 := by omega
  refine callsIn_of_wp_marks Try.func4 rfl trivial ?_ rfl
  simp only [Try.ntmps4, List.size_toArray, List.length_cons, List.length_nil, Nat.reduceAdd, Nat.reduceSub, Array.replicate_succ, Array.replicate_zero, List.push_toArray, List.append_toArray, List.nil_append, List.cons_append]
  by_cases h60 : 60 < l.length
  · have i1 : (60 : Int) < (l.length : Int) := by omega
    gi_wp2_with (refine ⟨trivial, ?_⟩; gi_at_call 8; rw [← hW2]; refine (callsIn_wide.2 (known_any _)).mono ?_; rintro e w1 ⟨rfl, hb⟩; have HB := Lib.hid hb; have P41 := Lib.hid (P4.out.below hb P4.out.lt); have hz3 := hb.size; clear hb; obtain ⟨x0, x1⟩ := P41.out.one)
    have B4 := Lib.hid ((BW.out.trans (HB.out.mono BW.out.size)).trans (((Only.refl (fun j => W.heap.size ≤ j) w1).put (ad := ⟨W.heap.size + 1, 0, none⟩) (by show W.heap.size ≤ W.heap.size + 1; omega) (.bool true)).below (fun _ h => h) (by omega)))
    have R4 := Lib.hid ((P41.out.set 0 (.bool true)).cell 0)
    exact ⟨_, res4 rfl R4.out, rfl, B4.out⟩
  have i1 : (l.length : Int) ≤ 60 := by omega
  have NW := Lib.hid (callsIn_wide (n := 29) |>.2 (new_any W2))
  unfold mkPost at NW
  gi_wp2_with (refine ⟨trivial, ?_⟩; gi_at_call 9; rw [← hW2]; refine NW.out.mono ?_; rintro e w1 ⟨g, rfl, hr, hb⟩; have HR1 := Lib.hid hr; have HB1 := Lib.hid hb; have hz1 := hb.size; clear hr hb)
  obtain ⟨w2, hw2⟩ : ∃ w2, w2 = (w1.alloc (.cells #[.pointer (some ⟨g, 0, none⟩)] 24)).alloc (.cells #[.slice none 0 0] 26) := ⟨_, rfl⟩
  have b12 : Below w1.heap.size w1 w2 := by rw [hw2]; exact (bnew w1 _).alloc (by simp) _
  have IT : Hid (It W2.heap.size w1.heap.size (w1.heap.size + 1) (fun j => W2.heap.size ≤ j ∧ j < w1.heap.size) w2 g none 0 []) := by
    refine ⟨⟨(HR1.out.tight).below b12 (Nat.le_refl _), Li.nil _, fun j hj => hj.1, fun a e => (by cases e), by have := b12.size; omega, fun a e => (by cases e)⟩, ?_, ?_, fun j hj => ⟨by have := hj.2; omega, by have := hj.2; omega⟩, fun a e => (by cases e)⟩
    · rw [hw2]; exact (Blk.new w1 _ _).below (bnew _ _) (by simp)
    · have := Blk.new (w1.alloc (.cells #[.pointer (some ⟨g, 0, none⟩)] 24)) #[.slice none 0 0] 26
      rw [hw2]; simpa using this
  have B2 : Hid (Below W2.heap.size W2 w2) := HB1.out.trans (b12.mono hz1)
  rw [← hw2]
  clear hw2 b12 HR1 HB1 NW
  gi_loopw [22] (fun i wr => ∃ (k g : Nat) (F : Nat → Prop) (A : Option Addr) (c : Nat) (L : List Int), k ≤ l.length ∧ i = .int .i64 (k : Int) ∧ L.length ≤ k ∧ It W2.heap.size w1.heap.size (w1.heap.size + 1) F wr g A c L ∧ Below W2.heap.size W2 wr) (fun i _ => l.length - (intOf i).toNat)
  case atStart => exact ⟨0, g, _, none, 0, [], Nat.zero_le _, rfl, Nat.le_refl _, IT.out, B2.out⟩
  case round =>
    obtain ⟨k, g, F, A, c, L, hk, rfl, hLk, hit, hbl⟩ := hrel
    have II := Lib.hid hit; have BL := Lib.hid hbl
    have hNr := hit.bo.sz
    clear hit hbl
    by_cases hlt : k < l.length
    · have j1 : (k : Int) < (l.length : Int) := by omega
      obtain ⟨f0, f1⟩ := acL_get l k hlt
      have RD := HD.out.rd.below (BW.out.trans (BL.out.mono BW.out.size)) (Nat.le_refl _)
      obtain ⟨tb, to_, rfl, ltb, a0⟩ := RD.at_ f0
      obtain ⟨tb', to', e1, _, a1⟩ := RD.at_ f1
      injection e1 with e1; injection e1 with e11 e12; subst e11; subst e12
      rw [← Nat.add_assoc] at a1
      obtain ⟨⟨xa, xn⟩, hx⟩ : ∃ x, x = l[k] := ⟨_, rfl⟩
      rw [← hx] at a0 a1
      simp only at a0 a1
      obtain ⟨v0, hv0⟩ : ∃ v0, v0 = wr.alloc (.cells #[.int .i64 xa, .int .i64 xn] 28) := ⟨_, rfl⟩
      have b0 : Below wr.heap.size wr v0 := by rw [hv0]; exact bnew _ _
      have P8 : Hid (Blk v0 wr.heap.size #[.int .i64 xa, .int .i64 xn] 28) := by show Blk _ _ _ _; rw [hv0]; exact Blk.new _ _ _
      have I0 := Lib.hid (II.out.below b0)
      have BL0 := Lib.hid (BL.out.trans (b0.mono hNr))
      have DO := Lib.hid (do_any I0.out.bo (by omega) xa xn)
      have hlen := stT_len L xa xn
      have l5 := II.out.p5.lt; have l6 := II.out.p6.lt
      unfold doPost at DO
      obtain ⟨x5, _⟩ := II.out.p5.one
      obtain ⟨x6, _⟩ := II.out.p6.one
      clear f0 f1 RD hx b0
      gi_wp2_with (refine ⟨trivial, ?_⟩; gi_at_call 10; rw [← hv0]; refine (callsIn_wide.2 DO.out).mono ?_; rintro r v1 ⟨g', A', c', F', rfl, hbo, hb, ho, hF, hA⟩; have BO1 := Lib.hid hbo; have BL1 := Lib.hid (BL0.out.trans hb); have HF := Lib.hid hF; have HA := Lib.hid hA; have P51 := Lib.hid (I0.out.p5.only ho (fun hf => (I0.out.nf _ hf).1 rfl)); have P61 := Lib.hid (I0.out.p6.only ho (fun hf => (I0.out.nf _ hf).2 rfl)); have hz1' := ho.size; clear hbo hb ho hF hA x5 x6; obtain ⟨x5, y5⟩ := P51.out.one; obtain ⟨x6, y6⟩ := P61.out.one)
      have z0 : wr.heap.size ≤ v0.heap.size := by rw [hv0]; simp
      obtain ⟨i1, o1⟩ := It.stored (by omega) BO1.out P51.out P61.out (fun j hj => by
        rcases HF.out j hj with h | h
        · exact I0.out.nf j h
        · exact ⟨by omega, by omega⟩) (fun a ha => by
        rcases HA.out a ha with h | h
        · exact I0.out.na a h
        · exact ⟨by omega, by omega⟩)
      refine ⟨⟨k + 1, g', F', A', c', stT L xa xn, by omega, by simp, by omega, i1, BL1.out.trans (o1.below (fun j hj => by rcases hj with hj | hj <;> omega) BO1.out.sz)⟩, ?_⟩
      simp [intOf]; omega
    · obtain rfl : k = l.length := by omega
      have hnn : ¬ (l.length : Int) < l.length := by omega
      have HALL := Lib.hid (callsIn_wide (n := 29) |>.2 (all_any II.out.bo.rc))
      unfold seqPost at HALL
      have heq := fun gf lb w => eql_fn gf lb w
      obtain ⟨x5, y5⟩ := II.out.p5.one
      have l5 := II.out.p5.lt; have l6 := II.out.p6.lt
      clear hlt hk IT B2
      gi_wp2_with (refine ⟨trivial, ?_⟩; gi_at_call 12; refine HALL.out.mono ?_; rintro r v1 ⟨sv, rfl, ⟨hs1, hs2, gf, lb, rfl, hent, hseq⟩, hb⟩; have HSQ := Lib.hid hseq; have HEN := Lib.hid hent; have I1 := Lib.hid (II.out.below hb); have BL1 := Lib.hid (BL.out.trans (hb.mono hNr)); have hzv := hb.size; have HBV := Lib.hid hb; clear hb hseq hent x5 y5)
      obtain ⟨F1, hF1⟩ : ∃ F1 : Nat → Prop, F1 = fun j => F j ∧ j < wr.heap.size := ⟨_, rfl⟩
      have R1 : Hid (Rc F1 v1 g L) := by
        show Rc _ _ _ _
        rw [hF1]; exact II.out.bo.rc.tight.below HBV.out (Nat.le_refl _)
      have hzw := BL.out.size
      have GL : Hid (Gl W.heap.size W.heap.size (W.heap.size + 1) w1.heap.size (w1.heap.size + 1) wr.heap.size v1.heap.size F1 A) := by
        refine ⟨hzv, by omega, by omega, by omega, by omega, II.out.bo.bd, fun j hj => ?_⟩
        rw [hF1] at hj
        have h1 := II.out.bo.lo j hj.1
        have h2 := II.out.nf j hj.1
        refine ⟨by omega, hj.2, fun hu => ?_⟩
        rcases hu with e | e | e | e | ⟨a, ha, e⟩ | e
        · omega
        · omega
        · exact h2.1 e
        · exact h2.2 e
        · exact II.out.bo.ap a ha (by rw [e]; exact hj.1)
        · have := hj.2; omega
      have hbw : Below W.heap.size W wr := BW.out.trans (BL.out.mono BW.out.size)
      have IV1 : Hid (Iv W.heap.size W.heap.size (W.heap.size + 1) w1.heap.size (w1.heap.size + 1) wr.heap.size v1.heap.size F1 many (.func (.func gf) #[] lb) g A c L v1) :=
        ⟨⟨L, R1.out⟩, I1.out.bo.li, (P3.out.below BL.out (by omega)).below HBV.out (by omega), (P4.out.below BL.out (by omega)).below HBV.out (by omega), I1.out.p5, I1.out.p6, hs1, hs2, _, _, rfl, HEN.out, HSQ.out⟩
      have T0 : Hid (Tv W.heap.size W.heap.size (W.heap.size + 1) w1.heap.size (w1.heap.size + 1) wr.heap.size v1.heap.size F1 many (.func (.func gf) #[] lb) g A c L W 0 v1.heap.size [] (v1.alloc (.cells #[.int .i64 0] 3))) :=
        ⟨IV1.out.only (Only.of_below (bnew v1 _) (Nat.le_refl _) (fun _ => False)) (fun _ h => h.elim) ⟨L, R1.out.below (bnew v1 _) (Nat.le_refl _)⟩, Blk.new _ _ _, Nat.le_refl _, List.Pairwise.nil, (fun D hD => by simp at hD), (hbw.trans (HBV.out.mono (by omega))).trans ((bnew v1 _).mono (by omega))⟩
      have hLl : L.length ≤ 60 := by omega
      clear hF1 R1 IV1 II I1 BL BL1 HBV HALL HSQ HEN HD hdl hdm hbw hs1 hs2 P3 P4 BW hnn
      refine wpIn_loop_rounds 3 (rounds_by 2 (I := fun t a w => ∃ b10 ms, Fr a W.heap.size (W.heap.size + 1) w1.heap.size (w1.heap.size + 1) gf lb b10 (ms.map mkD) ∧ Tv W.heap.size W.heap.size (W.heap.size + 1) w1.heap.size (w1.heap.size + 1) wr.heap.size v1.heap.size F1 many (.func (.func gf) #[] lb) g A c L W t b10 ms w) ?_ 3 0 _ _ rfl ⟨_, [], ⟨rfl, rfl, rfl, rfl, rfl, rfl, rfl, rfl⟩, T0.out⟩ (by omega))
      clear T0 hW2
      intro t a w ht ⟨b10, ms, hfr, htv⟩
      obtain ⟨f, rfl⟩ := hfr.opened
      have TV := Lib.hid htv
      obtain ⟨x10, y10⟩ := htv.pt.one
      clear hfr htv
      by_cases h2 : t = 2
      · subst h2
        obtain ⟨x4, y4⟩ := TV.out.iv.p4.one
        have KN := Lib.hid (callsIn_wide (n := 29) |>.2 (known_any w))
        unfold boolTo at KN
        gi_wp2_with (refine ⟨trivial, ?_⟩; gi_at_call 8; refine KN.out.mono ?_; rintro r v2 ⟨rfl, hb⟩; have HB2 := Lib.hid hb; have P42 := Lib.hid (TV.out.iv.p4.below hb TV.out.iv.p4.lt); clear hb x4 y4; obtain ⟨x4, y4⟩ := P42.out.one)
        have R4 := Lib.hid ((P42.out.set 0 (.bool true)).cell 0)
        have O4 : Hid (Only (fun j => j = W.heap.size + 1) v2 (v2.setCell ⟨W.heap.size + 1, 0, none⟩ (.bool true))) := only_own (F := fun j => j = W.heap.size + 1) rfl _
        have l4 := GL.out.l4; have hnn := GL.out.nn
        have MD : ∀ D ∈ ms, D ≠ W.heap.size + 1 ∧ (v2.setCell ⟨W.heap.size + 1, 0, none⟩ (.bool true)).heap[D]? = some (.deferred (some [])) := fun D hD => by
          have h1 := (TV.out.md D hD).1
          have h2 := (TV.out.md D hD).2
          have hl := (Array.getElem?_eq_some_iff.1 h2).1
          have h3 := (HB2.out.block D hl).trans h2
          exact ⟨by omega, (O4.out.block D (Array.getElem?_eq_some_iff.1 h3).1 (by omega)).trans h3⟩
        refine leave_marks ms _ TV.out.nd (fun D hD => (MD D hD).2) (fun w' ho => ?_)
        have hl4 : W.heap.size + 1 < (v2.setCell ⟨W.heap.size + 1, 0, none⟩ (.bool true)).heap.size := by
          have := P42.out.lt; have := O4.out.size; omega
        refine ⟨_, res4 (v := .bool true) rfl ((ho.cell (a := ⟨W.heap.size + 1, 0, none⟩) hl4 (fun h => (MD _ h).1 rfl)).trans R4.out), rfl, ?_⟩
        have e1 : Below W.heap.size W v2 := TV.out.bl.trans (HB2.out.mono TV.out.bl.size)
        have e2 := O4.out.below (B := W.heap.size) (fun j hj => by omega) (by have := e1.size; omega)
        exact (e1.trans e2).trans (ho.below (fun D hD => by have := (TV.out.md D hD).1; omega) (by have := (e1.trans e2).size; omega))
      have ht2 : (t : Int) < 2 := by omega
      clear ht
      obtain ⟨w0, hw0⟩ : ∃ w0, w0 = w.alloc (.cells #[.int .i64 0] 3) := ⟨_, rfl⟩
      have hb0 : Below w.heap.size w w0 := by rw [hw0]; exact bnew _ _
      have hz0 : w0.heap.size = w.heap.size + 1 := by rw [hw0]; simp
      have P11 : Hid (Blk w0 w.heap.size #[.int .i64 (([] : List Int).length : Int)] 3) := by show Blk _ _ _ _; rw [hw0]; exact Blk.new _ _ _
      have h10 : b10 < w.heap.size := TV.out.pt.lt
      have hD : ∀ D ∈ ms, D < w.heap.size := fun D h => (Array.getElem?_eq_some_iff.1 (TV.out.md D h).2).1
      have hnw : v1.heap.size ≤ w.heap.size := by have := TV.out.nt; omega
      have T1 : Hid (Tv W.heap.size W.heap.size (W.heap.size + 1) w1.heap.size (w1.heap.size + 1) wr.heap.size v1.heap.size F1 many (.func (.func gf) #[] lb) g A c L W t b10 ms w0) := by
        obtain ⟨M, hM⟩ := TV.out.iv.rc
        exact TV.out.step GL.out (Only.of_below hb0 (Nat.le_refl _) (fun _ => False)) (fun _ h => h.elim) (fun h => h) (fun _ _ h => h) ⟨M, hM.below hb0 (Nat.le_refl _)⟩
      have K0 : Keep wr.heap.size v1.heap.size w w0 := Keep.of_below hb0 hnw
      obtain ⟨hs1, hs2, gf', lb', e, hent, hseq⟩ := T1.out.iv.sq
      injection e with e1 _ e3
      injection e1 with e1
      subst e1; subst e3
      have hS := hseq w0 29 (Keep.refl _ _ _) (by omega)
      have HSQ := Lib.hid hS; have HEN := Lib.hid hent
      obtain ⟨b11, hb11⟩ : ∃ b11, b11 = w.heap.size := ⟨_, rfl⟩
      have N11 : v1.heap.size ≤ b11 := by omega
      have HD11 : Hid (∀ D ∈ ms, D < b11) := fun D h => by have := hD D h; omega
      have H1011 : b10 < b11 := by omega
      rw [← hb11] at P11 hz0
      have HZ0 := Lib.hid hz0
      gi_wp2_with fail
      rw [← hw0, ← hb11]
      clear hw0 hb0 hS hseq hent hb11 hD hz0 h10 hnw K0
      refine wpIn_rangeFunc_ownG hro h30 (gf := gf) (lb := lb) rfl trivial HEN.out HSQ.out Keep.trans (keep_b hs2) (Below.refl _ _) (fun _ => rfl)
        (fun pre W' => Tv W.heap.size W.heap.size (W.heap.size + 1) w1.heap.size (w1.heap.size + 1) wr.heap.size v1.heap.size F1 many (.func (.func gf) #[] lb) g A c L W t b10 ms W' ∧ Blk W' b11 #[.int .i64 (pre.length : Int)] 3 ∧ (pre <+: L ∧ (t = 0 → pre = [] ∨ (pre.length : Int) < many)))
        (fun cd pre W' => (cd = .ret ∧ ¬ pre <+: L) ∨ (cd = .exit 4 ∧ Tv W.heap.size W.heap.size (W.heap.size + 1) w1.heap.size (w1.heap.size + 1) wr.heap.size v1.heap.size F1 many (.func (.func gf) #[] lb) g A c L W t b10 ms W' ∧ Blk W' b11 #[.int .i64 (pre.length : Int)] 3 ∧ (t = 0 ∧ pre ≠ [] ∧ many ≤ (pre.length : Int) ∧ (pre.length = 1 ∨ (pre.length : Int) - 1 < many))))
        (Tv.own GL.out (by have := HZ0.out; omega) (by have := HZ0.out; omega) (by have := HZ0.out; omega) (fun D h => by have := HD11.out D h; have := HZ0.out; omega) _)
        (fun cd pre X Y row hs hg hr => by
          rcases hs with hs | ⟨e, hs⟩
          · exact Or.inl hs
          · exact Or.inr ⟨e, Tv.own GL.out (by have := HZ0.out; omega) (by have := HZ0.out; omega) (by have := HZ0.out; omega) (fun D h => by have := HD11.out D h; have := HZ0.out; omega) (fun pre => t = 0 ∧ pre ≠ [] ∧ many ≤ (pre.length : Int) ∧ (pre.length = 1 ∨ (pre.length : Int) - 1 < many)) pre X Y row hs hg hr⟩)
        ⟨T1.out, P11.out, List.nil_prefix, fun _ => Or.inl rfl⟩
        (fun x => { tmps := #[f 0, f 1, f 2, .pointer (some ⟨W.heap.size, 0, none⟩), .pointer (some ⟨W.heap.size + 1, 0, none⟩), .pointer (some ⟨w1.heap.size, 0, none⟩), .pointer (some ⟨w1.heap.size + 1, 0, none⟩), f 7, f 8, .func (.func gf) #[] lb, .pointer (some ⟨b10, 0, none⟩), .pointer (some ⟨b11, 0, none⟩), .int .i64 x, f 13, f 14, f 15, f 16, f 17, f 18, f 19, f 20, f 21, f 22, f 23, f 24, f 25, f 26, f 27, f 28, f 29, f 30, f 31, f 32, f 33, f 34, f 35, f 36, f 37, f 38, .int .i64 (t : Int), .bool true, f 41, f 42, .func (.func gf) #[] lb, .int .i64 x, f 45, f 46, f 47, f 48, f 49, f 50, f 51, f 52, f 53, f 54, f 55, f 56, f 57, f 58, f 59, f 60, f 61, f 62, f 63, f 64, f 65, f 66, f 67, f 68, f 69, f 70, f 71, f 72, f 73, f 74, f 75, f 76, f 77, f 78, f 79, f 80, f 81, f 82, f 83, f 84, f 85, f 86, f 87, f 88, f 89, f 90, f 91, f 92, f 93, f 94, f 95, f 96, f 97, f 98, f 99], defers := [] }) ?assign ?body ?done ?stop
      case assign =>
        intro l x W' K hK
        gi_wp2
        exact hK
      case body =>
        rintro rl pre x W' ⟨htv, hp11, hpre, hst⟩ hlt
        have TB := Lib.hid htv; have PB := Lib.hid hp11; have HPR := Lib.hid hpre; have HST := Lib.hid hst
        have hlt' : (pre.length : Int) < (L.length : Int) := by omega
        obtain ⟨ab, ao, rfl, lab, a0⟩ := htv.iv.li.at_ hlt
        obtain ⟨x4, y4⟩ := htv.iv.p4.one
        obtain ⟨x5, y5⟩ := htv.iv.p5.one
        obtain ⟨x6, y6⟩ := htv.iv.p6.one
        obtain ⟨x3, y3⟩ := htv.iv.p3.one
        obtain ⟨x10, y10⟩ := htv.pt.one
        obtain ⟨x11, y11⟩ := hp11.one
        have hcap := Rs.max htv.iv.li
        obtain ⟨z, hz⟩ : ∃ z, z = L[pre.length] := ⟨_, rfl⟩
        have HZ := Lib.hid hz
        rw [← hz] at a0
        clear htv hp11 hpre hst hz lab
        have hl4 := TB.out.iv.p4.lt
        by_cases hx : x = z
        · subst hx
          have hne : (x != x) = false := by simp
          have NF : Hid (∀ j, F1 j → j < wr.heap.size) := fun j hj => (GL.out.fu j hj).2.1
          have hnn := GL.out.nn
          have hp60 : (pre.length : Int) < 60 := by omega
          obtain ⟨u1, hu1⟩ : ∃ u1, u1 = W'.setCell ⟨b11, 0, none⟩ (.int .i64 ((pre.length : Int) + 1)) := ⟨_, rfl⟩
          have O1 : Hid (Only (fun j => j = b11) W' u1) := by show Only _ _ _; rw [hu1]; exact only_own (F := fun j => j = b11) rfl _
          have B1 : Hid (Blk u1 b11 #[.int .i64 ((pre.length : Int) + 1)] 3) := by show Blk _ _ _ _; rw [hu1]; exact PB.out.set 0 _
          have TU1 := Lib.hid (TB.out.step GL.out O1.out (fun j hj => Or.inr (by omega)) (by omega) (fun D h => by have := HD11.out D h; omega) (by
            obtain ⟨M, hM⟩ := TB.out.iv.rc
            exact ⟨M, hM.only O1.out (fun j hj e => by have := NF.out j hj; omega)⟩))
          obtain ⟨M1, hM1⟩ := TU1.out.iv.rc
          have US := Lib.hid (use_str hM1 x)
          unfold wrS at US
          obtain ⟨v5, _⟩ := TU1.out.iv.p5.one
          clear hM1
          gi_wp2_with (refine ⟨trivial, ?_⟩; gi_at_call 13; rw [← hu1]; refine (CallsIn.inRound rl (callsIn_wide.2 US.out)).mono ?_; rintro r u2 ⟨rfl, hr, ho⟩; have O2 := Lib.hid ho; have TU2 := Lib.hid (TU1.out.step GL.out ho (fun j hj => Or.inl hj) (fun hf => by have := NF.out _ hf; have := TB.out.nt; omega) (fun D h hf => by have := NF.out _ hf; have := (TB.out.md D h).1; omega) ⟨_, hr⟩); have B2 := Lib.hid (B1.out.only ho (fun hf => by have := NF.out _ hf; omega)); clear hr ho v5 x3 x4 x5 x6 x10 x11 y3 y4 y5 y6 y10 y11 a0)
          obtain ⟨k', hk'⟩ : ∃ k', k' = L.length - 1 := ⟨_, rfl⟩
          have hkl : k' < L.length := by omega
          obtain ⟨ab', ao', e9, _, a0⟩ := TU2.out.iv.li.at_ hkl
          injection e9 with e9
          injection e9 with e91 e92
          subst e91; subst e92
          have i2 : (L.length : Int) - 1 = (k' : Int) := by omega
          have hL60 : (L.length : Int) ≤ 60 := by omega
          have i3 : IntKind.i64.wrap ((L.length : Int) - 1) = (k' : Int) := by rw [i2, IntKind.wrap_i64]; omega
          have i5 : IntKind.i64.wrap (k' : Int) = (k' : Int) := by rw [IntKind.wrap_i64]; omega
          have i4 : (k' : Int) < (L.length : Int) := by omega
          have i6 : (0 : Int) ≤ (k' : Int) := by omega
          obtain ⟨y, hy⟩ : ∃ y, y = L[k'] := ⟨_, rfl⟩
          rw [← hy] at a0
          obtain ⟨v5, _⟩ := TU2.out.iv.p5.one
          obtain ⟨v6, _⟩ := TU2.out.iv.p6.one
          obtain ⟨M2, hM2⟩ := TU2.out.iv.rc
          have RM := Lib.hid (remove_str (hM2.only ((Only.refl (fun _ => False) u2).drew) (fun _ _ h => h)) y)
          unfold wrS at RM
          have hu := And.intro hk' hy
          clear hu hk' hy hM2
          gi_region_with (refine ⟨trivial, ?_⟩; gi_at_call 14; refine (CallsIn.inRound rl (callsIn_wide.2 RM.out)).mono ?_; rintro r u3 ⟨rfl, hr, ho⟩; have O3 := Lib.hid ho; have R3 := Lib.hid hr; clear hr ho)
          all_goals
            have O3' : Only F1 u2 u3 := ((Only.refl F1 u2).drew).trans (O3.out.mono fun _ _ h => Or.inl h)
            have TU3 := Lib.hid (TU2.out.step GL.out O3' (fun j hj => Or.inl hj) (fun hf => by have := NF.out _ hf; have := TB.out.nt; omega) (fun D h hf => by have := NF.out _ hf; have := (TB.out.md D h).1; omega) ⟨_, R3.out⟩)
            have B3 := Lib.hid (B2.out.only O3' (fun hf => by have := NF.out _ hf; omega))
            have HOA : Hid (Only (fun j => F1 j ∨ j = b11) W' u3) := ((O1.out.mono fun _ _ h => Or.inr h).trans (O2.out.mono fun _ _ h => Or.inl (Or.inl h))).trans (O3'.mono fun _ _ h => Or.inl (Or.inl h))
            have KF := Lib.hid (keeps_only (m := w0.heap.size) HOA.out (fun j hj => by
              have := HZ0.out
              rcases hj with hj | hj
              · have := NF.out j hj; omega
              · omega))
            have KP : Hid (Keep wr.heap.size v1.heap.size W' u3) := Keep.of_only HOA.out (fun j hj => by
              rcases hj with hj | hj
              · have := NF.out j hj; omega
              · omega)
            have PN := Lib.hid (pre_next HPR.out hlt HZ.out)
            have HLEN : Hid ((((pre ++ [x]).length : Nat) : Int) = (pre.length : Int) + 1) := by show _ = _; simp
            obtain ⟨x3, _⟩ := TU3.out.iv.p3.one
            obtain ⟨x10, _⟩ := TU3.out.pt.one
            obtain ⟨x11, _⟩ := B3.out.one
            clear O3' a0 v5 v6 RM US hne hcap
            by_cases ht0 : t = 0
            · have hz0 : ((t : Int) == 0) = true := by simp [ht0]
              have HT0 : Hid (t = 0) := ht0
              have HS1 : Hid ((pre ++ [x]).length = 1 ∨ (((pre ++ [x]).length : Nat) : Int) - 1 < many) := by
                rcases HST.out ht0 with h | h
                · exact Or.inl (by rw [h]; rfl)
                · exact Or.inr (by rw [HLEN.out]; omega)
              clear ht0
              by_cases hmy : many ≤ (pre.length : Int) + 1
              · have HM : Hid (many ≤ (pre.length : Int) + 1) := hmy
                gi_wp2_with fail
                exact ⟨KF.out, Or.inr ⟨rfl, TU3.out, by rw [HLEN.out]; exact B3.out, HT0.out, by simp, by rw [HLEN.out]; exact HM.out, HS1.out⟩⟩
              · have HM : Hid (¬ many ≤ (pre.length : Int) + 1) := hmy
                gi_wp2_with fail
                exact ⟨KF.out, KP.out, TU3.out, by rw [HLEN.out]; exact B3.out, PN.out, fun _ => Or.inr (by rw [HLEN.out]; have := HM.out; omega)⟩
            · have hz0 : ((t : Int) == 0) = false := by simp; omega
              have HT0 : Hid (t ≠ 0) := ht0
              clear ht0
              gi_wp2_with fail
              exact ⟨KF.out, KP.out, TU3.out, by rw [HLEN.out]; exact B3.out, PN.out, fun h => absurd h HT0.out⟩
        · have hne : (x != z) = true := by simpa using hx
          have HX : Hid (x ≠ z) := hx
          clear hx
          gi_wp2_with fail
          have hO : Only (fun j => j = W.heap.size + 1) W' (W'.setCell ⟨W.heap.size + 1, 0, none⟩ (.bool false)) := only_own (F := fun j => j = W.heap.size + 1) rfl _
          exact ⟨keeps_only hO (fun j hj => by have := GL.out.l4; have := GL.out.nn; have := HZ0.out; omega), Or.inl ⟨rfl, pre_other hlt (by rw [← HZ.out]; exact HX.out)⟩⟩
      case done =>
        rintro Dm xs W' hDm rfl ⟨htv, hp11, hpre, hst⟩ hK
        have TB := Lib.hid htv; have PB := Lib.hid hp11; have HST := Lib.hid hst
        obtain ⟨x3, y3⟩ := htv.iv.p3.one
        obtain ⟨x6, y6⟩ := htv.iv.p6.one
        obtain ⟨x10, y10⟩ := htv.pt.one
        obtain ⟨x11, y11⟩ := hp11.one
        have HK : Hid (W'.heap[Dm]? = some (.deferred (some []))) := hK
        have HDm : Hid (b11 < Dm) := by show b11 < Dm; have := HZ0.out; omega
        have hxl : (xs.length : Int) ≤ 60 := by omega
        have TN := Lib.hid (TB.out.turn GL.out HK.out (by have := HDm.out; omega) (fun D h => by have := HD11.out D h; have := HDm.out; omega))
        clear htv hp11 hpre hst hK hDm
        by_cases ht0 : t = 0
        · have hz0 : ((t : Int) == 0) = true := by simp [ht0]
          have hz1 : ((t : Int) == 1) = false := by simp [ht0]
          have hmin : min (xs.length : Int) (max 1 many) = (xs.length : Int) := by
            rcases HST.out ht0 with h | h
            · rw [h]; show min (0 : Int) _ = 0; omega
            · omega
          clear ht0
          gi_wp2_with fail
          all_goals exact ⟨by omega, _, Dm :: ms, ⟨rfl, rfl, rfl, rfl, rfl, rfl, rfl, rfl⟩, TN.out⟩
        · have hz0 : ((t : Int) == 0) = false := by simp; omega
          have hz1 : ((t : Int) == 1) = true := by simp; omega
          have hne : ((xs.length : Int) != (xs.length : Int)) = false := by simp
          clear ht0
          gi_wp2_with fail
          all_goals exact ⟨by omega, _, Dm :: ms, ⟨rfl, rfl, rfl, rfl, rfl, rfl, rfl, rfl⟩, TN.out⟩
      case stop =>
        rintro Dm cd pre W' hDm hpre h hK
        rcases h with ⟨rfl, h⟩ | ⟨rfl, htv, hp11, h0, hne, hmany, hone⟩
        · exact absurd hpre h
        · have TB := Lib.hid htv; have PB := Lib.hid hp11
          have hz0 : ((t : Int) == 0) = true := by simp [h0]
          have hz1 : ((t : Int) == 1) = false := by simp [h0]
          obtain ⟨x3, y3⟩ := htv.iv.p3.one
          obtain ⟨x6, y6⟩ := htv.iv.p6.one
          obtain ⟨x10, y10⟩ := htv.pt.one
          obtain ⟨x11, y11⟩ := hp11.one
          have HK : Hid (W'.heap[Dm]? = some (.deferred (some []))) := hK
          have HDm : Hid (b11 < Dm) := by show b11 < Dm; have := HZ0.out; omega
          have TN := Lib.hid (TB.out.turn GL.out HK.out (by have := HDm.out; omega) (fun D h => by have := HD11.out D h; have := HDm.out; omega))
          have hpl : pre.length ≤ L.length := hpre.length_le
          have hp0 : 0 < pre.length := List.length_pos_iff.2 hne
          have hmin : min (L.length : Int) (max 1 many) = (pre.length : Int) := by omega
          have hne' : ((pre.length : Int) != (pre.length : Int)) = false := by simp
          have HPX := Lib.hid (And.intro hone (And.intro hmany hpl))
          clear htv hp11 hpre hK hDm h0 hne hone
          gi_wp2_with fail
          all_goals exact ⟨by omega, _, Dm :: ms, ⟨rfl, rfl, rfl, rfl, rfl, rfl, rfl, rfl⟩, TN.out⟩
end Go.Proofs.Ytfoalfemkpiniaa.Un
