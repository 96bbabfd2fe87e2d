/- Proves words for an iterator over numbers that stands on blocks of its own, and that the law's function all returns true at an order whose iterator goes over the given list. Conditions: as each theorem names them. -/
import Derived.Test.YtfoalfemkpiniaaUb
import Derived.RangeFuncNested
import Derived.RangeFuncBound
import Derived.RangeFuncCalls
import Derived.RangeFuncLeaves
import Derived.RangeFuncBox
import Derived.Shelf.Abstract
import Derived.Shelf.RegionOpen
import Derived.OwnWalkIn
import Derived.TacticsInMore
import Derived.LoopNIn
import Derived.LoopIn
import Derived.Maps.AppendAt
namespace Go.Proofs.Ytfoalfemkpiniaa.Uc
open Go.RowKit Go.Shelf Ap Mi Nw Ua Ub
attribute [local go_sem] Oper.semAt_some

/-- What lies in the blocks from n1 up to n0 stands still. -/
def Keep (n1 n0 : Nat) (W W' : World) : Prop := Only (fun j => ¬ (n1 ≤ j ∧ j < n0)) W W'
section
variable {n1 n0 : Nat} {A B C w w' W : World}
theorem Keep.refl (n1 n0 : Nat) (w : World) : Keep n1 n0 w w := Only.refl _ _
theorem Keep.trans (h : Keep n1 n0 A B) (k : Keep n1 n0 B C) : Keep n1 n0 A C := Only.trans h (Only.mono k (fun _ _ hf => Or.inl hf))
theorem Keep.of_below {m : Nat} (h : Below m A B) (hm : n0 ≤ m) : Keep n1 n0 A B :=
  ⟨h.os, h.tape, h.output, h.size, fun j _ hn => h.block j (by have := Classical.not_not.1 hn; omega)⟩
theorem Keep.of_only {F : Nat → Prop} (h : Only F A B) (hF : ∀ j, F j → ¬ (n1 ≤ j ∧ j < n0)) : Keep n1 n0 A B := Only.mono h (fun j _ hf => hF j hf)
theorem keep_b (hn : n0 ≤ w.heap.size) (W : World) (l : Nat) (o o' : Obj) (hl : w.heap.size ≤ l) (_ : W.heap[l]? = some o) (_ : o.isCells = false) (_ : o.isWalk = false) : Keep n1 n0 W (W.putObj l o') :=
  Only.of_grown (grownBy_putObj' W l o') (fun k e => by cases e; omega)
end
/-- v is an iterator over L, which stands on the blocks from n1 up to n0. -/
def IsSeq (n1 n0 : Nat) (w : World) (v : Value) (L : List Int) : Prop :=
  n1 ≤ n0 ∧ n0 ≤ w.heap.size ∧ ∃ gf lb, v = .func (.func gf) #[] lb ∧ (∀ args w, (callFunc gf args).run Try.prog w = .ok (.enter gf args) w) ∧
    ∀ w' n, Keep n1 n0 w w' → 8 ≤ n → SeqStopsK Fence.wide n Try.prog gf lb (fun x : Int => #[Value.int .i64 x]) (Keep n1 n0) (fun ys => ys = L) (fun pre => pre <+: L) L.length w'
theorem IsSeq.keep {n1 n0 : Nat} {w w' : World} {v : Value} {L : List Int} (h : IsSeq n1 n0 w v L) (k : Keep n1 n0 w w') : IsSeq n1 n0 w' v L := by
  obtain ⟨h1, h2, gf, lb, e, h3, h4⟩ := h
  exact ⟨h1, Nat.le_trans h2 k.size, gf, lb, e, h3, fun w2 n k2 hn => h4 w2 n (k.trans k2) hn⟩
/-- What the method All leaves. -/
def seqPost (w : World) (L : List Int) : Ending → World → Prop := fun e w' => ∃ v, e = .returned v ∧ IsSeq w.heap.size w'.heap.size w' v L ∧ Below w.heap.size w w'
theorem info_int : (Try.prog.info? 3).map (fun i => (i.zero, i.size, i.bytes)) = some (some (.int .i64 0), 1, 8) := by kernel_rfl
theorem eql_fn (gf : FuncId) (lb : Array Value) (w : World) : (binOp .eql 34 (.func (.func gf) #[] lb) .nilFunc).run Try.prog w = .ok (.bool false) w := by
  first
  | rfl
  | (simp [go_sem, Try.underlying34]; done)
theorem iv_snoc' (l : List Int) (x : Int) : iv (l ++ [x]) = iv l ++ [.int .i64 x] := iv_snoc l x
set_option maxRecDepth 100000 in
set_option maxHeartbeats 2000000 in
theorem all_true {w : World} {r : Option Addr} {L : List Int} (hall : Calls Try.prog 12 #[.pointer r] w (seqPost w L)) (hL : L.length ≤ 1000000) {A : Option Addr} {c : Nat} (hw : Li w A L c) :
    Calls Try.prog 21 #[.pointer r, .slice A L.length c] w (boolTo true w) := by
  refine (callsIn_wide (n := 20)).1 ?_
  obtain ⟨i0, hi, hz0, hz1, hz2⟩ := info_parts info_int
  have hro : Fence.wide.round = none := rfl
  have h20 : 1 ≤ 20 := by omega
  refine callsIn_of_wp_marks Try.func21 rfl trivial ?_ rfl
  simp only [Try.ntmps21, List.size_toArray, List.length_cons, List.length_nil, Nat.reduceAdd, Nat.reduceSub, Array.replicate_succ, Array.replicate_zero, List.push_toArray, List.append_toArray, List.nil_append, List.cons_append]
  have heq := fun gf lb w => eql_fn gf lb w
  gi_wp2_with (refine ⟨trivial, ?_⟩; gi_at_call 12; refine (callsIn_wide.2 hall).mono ?_; rintro e w1 ⟨v, rfl, ⟨hs1, hs2, gf, lb, rfl, hent, hseq⟩, hb1⟩)
  have bO := Boxed.new w1 26 (.slice none 0 0)
  have hs0 : w.heap.size ≤ w1.heap.size := hb1.size
  have hb2 : Below w1.heap.size w1 (w1.alloc (.cells #[.slice none 0 0] 26)) := (Below.refl _ w1).alloc (Nat.le_refl _) _
  have K12 : Keep w.heap.size w1.heap.size w1 (w1.alloc (.cells #[.slice none 0 0] 26)) := Keep.of_below hb2 (Nat.le_refl _)
  have HW := Lib.hid hw
  have HB1 := Lib.hid hb1
  clear hw hb1
  refine wpIn_rangeFunc_ownG hro h20 (gf := gf) (lb := lb) rfl trivial hent (hseq _ 19 K12 (by omega)) Keep.trans (keep_b (by simp)) (Below.refl _ _) (fun _ => rfl)
    (fun pre W => (∃ v, Boxed W w1.heap.size 26 v ∧ W.ownsRow w1.heap.size 3 1 v pre.length (pre.map (Value.int .i64)) ∧ True) ∧ Below w1.heap.size w1 W)
    (fun _ _ _ => False)
    (OwnFrom.and (Own.from (holdsRow_own w1.heap.size w1.heap.size 26 3 1 (fun pre : List Int => pre.length) (fun pre : List Int => pre.map (Value.int .i64)) (fun _ _ => True)) _) (ownFrom_below (Nat.le_refl _) (by simp)))
    (fun _ _ _ _ _ hs _ _ => hs)
    ⟨⟨_, bO, World.ownsRow_nil _ _ _ _, trivial⟩, hb2⟩
    (fun x => { tmps := #[.pointer r, .slice A L.length c, undef, undef, .bool false, .func (.func gf) #[] lb, .pointer (some ⟨w1.heap.size, 0, none⟩), .int .i64 x, .pointer r, .func (.func gf) #[] lb, .func (.func gf) #[] lb, .bool false, .func (.func gf) #[] lb, .int .i64 x, undef, undef, undef, undef, undef, undef, undef], defers := [] }) ?assign ?body ?done ?stop
  case assign =>
    intro l x W K hK
    gi_wp2
    exact hK
  case body =>
    rintro l pre x W ⟨⟨v, hv, hrow, _⟩, hB⟩ hlt
    have hc := hv.cell
    have hB' := hB.size
    gi_wp2_with (gi_at_builtin; refine wpListIn_append_own _ rfl _ _ 26 rfl w1.heap.size 3 i0 (.int .i64 0) 1 8 Try.underlying26 hi hz0 hz1 hz2 rfl (by decide) _ _ _ rfl (hrow.alloc _) ⟨W.heap.size, 0, none⟩ 1 1 [.int .i64 x] rfl rfl (cell_one_new _ _ _) (by simp [Value.oneCell']) (by unfold maxLen; omega) (by omega) (by simp; omega) ?_; intro v' w1 hown' hgrow _; obtain ⟨g', cap', rfl⟩ := ownsRow_succ hown'; obtain ⟨hv1, hv2, hr2, hk2, hb2⟩ := hv.appended (by decide) hrow hB.size (Nat.le_refl _) hown' hgrow; have hc1 := hv1.cell; have hf1 := hv1.frozen)
    exact ⟨hk2.from _, Keep.of_below hb2 (Nat.le_refl _), ⟨_, hv2, by simpa using hr2, trivial⟩, hB.trans hb2⟩
  case done =>
    rintro D ys W hD rfl ⟨⟨v, hv, hrow, _⟩, hB⟩ hK
    have hc := hv.cell
    obtain ⟨A', c', rfl, hm, _⟩ := Mine.of_own hrow
    have hbw : Below w.heap.size w W := HB1.out.trans (hB.mono hs0)
    have hs := same_true (n := ys.length) rfl (Rs.mine hm) (HW.out.below hbw (Nat.le_refl _)) hL
    unfold boolTo at hs
    have hD' : D < W.heap.size := (Array.getElem?_eq_some_iff.1 hK).1
    gi_wp2
    refine ⟨trivial, (callsIn_wide.2 hs).mono ?_⟩
    rintro e W3 ⟨rfl, hb3⟩
    have hK3 : W3.heap[D]? = some (.deferred (some [])) := (hb3.block D hD').trans hK
    gi_wp2
    refine ⟨by simp, .inl ⟨_, _, rfl, run_takeDeferred hK3, ?_⟩⟩
    exact ⟨_, results_tmp rfl _ _ _, rfl, (hbw.trans (hb3.mono hbw.size)).trans (belowK_b (w := w) (Nat.le_refl _) W3 D _ _ (by simp at hD; omega) hK3 rfl rfl)⟩
  case stop =>
    rintro D c pre W _ _ h _
    exact h.elim
end Go.Proofs.Ytfoalfemkpiniaa.Uc
