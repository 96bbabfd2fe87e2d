/- Proves the contracts of the methods of the program's order of use, as the laws' walks take them. Conditions: as each theorem names them. -/
import Derived.Test.YtlmljhnogmfcfaaGreatNw
import Derived.Test.YtlmljhnogmfcfaaGreatRg
import Derived.BigQuiet
import Derived.Deep.QuietTactic
import Derived.RangeFuncNested
import Derived.RangeFuncBound
import Derived.RangeFuncCalls
import Derived.RangeFuncLeaves
import Derived.RangeFuncBox
import Derived.Shelf.Abstract
import Derived.Shelf.RegionOpen
import Derived.OwnWalkIn
import Derived.TacticsInMore
import Derived.LoopNIn
import Derived.LoopIn
import Derived.Maps.AppendAt
import Derived.Maps.RangeWalk
import Derived.Maps.OwnSet
import Derived.Maps.OwnOps
import Derived.Shelf.Lay
import Derived.Deep.Cut
import Derived.Shelf.SlMaps.Clone
import Derived.StillTailTactics
import Derived.Laws.MakeOwn
import Derived.OwnWalk
namespace Go.Proofs.YtlmljhnogmfcfaaGreat.Ua
open Go.RowKit Ap Mi Nw

def iv (l : List Int) : List Value := l.map fun n => .int .i64 n
theorem iv_get {l : List Int} {i : Nat} (hi : i < l.length) : (iv l)[i]? = some (.int .i64 l[i]) := by unfold iv; rw [List.getElem?_map, List.getElem?_eq_getElem hi]; rfl
theorem iv_snoc (l : List Int) (n : Int) : iv (l ++ [n]) = iv l ++ [.int .i64 n] := by unfold iv; simp
def Li (w : World) (A : Option Addr) (l : List Int) (c : Nat) : Prop := Rs w 1 A l.length c (iv l)
theorem Li.below {w w' : World} {A : Option Addr} {l : List Int} {c B : Nat} (h : Li w A l c) (hb : Below B w w') (hB : w.heap.size ≤ B) : Li w' A l c := Rs.below h hb hB
theorem Li.only {w w' : World} {A : Option Addr} {l : List Int} {c : Nat} (h : Li w A l c) {F : Nat → Prop} (ho : Only F w w') (hn : ∀ a, A = some a → ¬ F a.block) : Li w' A l c := Rs.only h ho hn
theorem Li.nil (w : World) : Li w none [] 0 := Rs.nil w 1
theorem Li.at_ {w : World} {A : Option Addr} {l : List Int} {c : Nat} (h : Li w A l c) {i : Nat} (hi : i < l.length) : ∃ b o, A = some ⟨b, o, none⟩ ∧ b < w.heap.size ∧ w.cell? ⟨b, o + i, none⟩ = some (.int .i64 l[i]) := Rs.rd h |>.at_ (iv_get hi)
theorem Li.mine {B : Nat} {w : World} {A : Option Addr} {c : Nat} {l : List Int} (h : Mine B 1 w A l.length c (iv l)) : Li w A l c := Rs.mine h
theorem elI : Elm Tryz.prog 129 3 (.int .i64 0) 1 where
 sl := Tryz.underlying129
 info := by kernel_rfl
 small := by
  have h : (Tryz.prog.info? 3).map (·.bytes) = some 8 := by kernel_rfl
  intro i hi; rw [hi] at h; simp at h; omega
 cells := rfl
 pos := by omega

def Sl (n : Int) : Prop := 0 ≤ n ∧ n < 1048576
instance (n : Int) : Decidable (Sl n) := inferInstanceAs (Decidable (_ ∧ _))
def ixOf (l : List Int) (n : Int) : Int := if n ∈ l then (l.idxOf n : Int) else -1
theorem ix_at {l : List Int} {n : Int} {k : Nat} (hk : k < l.length) (he : l[k] = n) (hm : ∀ j (h : j < l.length), j < k → l[j] ≠ n) : ixOf l n = (k : Int) := by
 have hmem : n ∈ l := he ▸ List.getElem_mem hk
 unfold ixOf
 rw [if_pos hmem]
 have h1 := List.idxOf_lt_length_of_mem hmem
 have h2 : l[l.idxOf n] = n := List.getElem_idxOf h1
 rcases Nat.lt_trichotomy (l.idxOf n) k with h3 | h3 | h3
 ·exact absurd h2 (hm _ h1 h3)
 ·rw [h3]
 ·have := List.not_of_lt_findIdx (p := (· == n)) (xs := l) (i := k) (by show k < l.idxOf n; exact h3)
  simp [he] at this
def addT (l : List Int) (n : Int) : List Int := if Sl n ∧ n ∉ l then l ++ [n] else l
def addN (l : List Int) (n : Int) : Int := if ¬ Sl n then 2 else if n ∈ l then 11 else 0
def wo (l : List Int) (n : Int) : List Int := l.filter (fun x => decide (x ≠ n))
def remT (l : List Int) (n : Int) : List Int := if Sl n ∧ n ∈ l then wo l n else l
def remN (l : List Int) (n : Int) : Int := if ¬ Sl n then 2 else if n ∈ l then 0 else 9
def useT (l : List Int) (n : Int) : List Int := if Sl n ∧ n ∈ l then wo l n ++ [n] else l
def oldV (l : List Int) : Int := l.headD 0
def oldN (l : List Int) : Int := if l.length = 0 then 9 else 0
def nextN (l : List Int) (n : Int) : Int := if ¬ Sl n then 2 else if n ∉ l then 9 else if ixOf l n = (l.length : Int) - 1 then 16 else 0
def nextV (l : List Int) (n : Int) : Int := if nextN l n = 0 then l.getD (ixOf l n + 1).toNat 0 else 0

end Go.Proofs.YtlmljhnogmfcfaaGreat.Ua
namespace Go.Proofs.YtlmljhnogmfcfaaGreat.Ub
open Go.RowKit Ap Mi Nw Ua Rg

theorem src_lit {w : World} {t e e' : TypeId} (hk : Tryz.prog.underlying t = some (.slice e)) (cs : Array Value) (n sz : Nat) (hn : cs.size = n * sz) (h1 : ∀ u ∈ cs.toList, u.oneCell' = true) : Src Tryz.prog sz t (.slice (some ⟨w.heap.size, 0, none⟩) n n) n cs.toList (w.alloc (.cells cs e')) :=
 Src.ofSlice _ hk _ n n cs.toList (by simpa using hn) (fun j u hu => by
  rw [Nw.add_lit, Nat.zero_add, cell_of_row _ _ j cs e' (0, 0) (heap_alloc_new w _)]; simpa using hu) h1
theorem only_row {w w' : World} {A : Option Addr} {F : Nat → Prop} (h : w.grownBy w' (A.map (·.block))) (hA : ∀ a, A = some a → F a.block) : Only F w w' :=
 Only.of_grown h (fun k e => by rw [Option.map_eq_some_iff] at e; obtain ⟨a, ha, e⟩ := e; rw [← e]; exact hA a ha)
theorem wo_len (l : List Int) (n : Int) : (wo l n).length ≤ l.length := List.length_filter_le _ _
end Go.Proofs.YtlmljhnogmfcfaaGreat.Ub
namespace Go.Proofs.YtlmljhnogmfcfaaGreat.Uc
open Go.RowKit Go.Shelf Ap Mi Nw Ua Ub
attribute [local go_sem] Oper.semAt_some

def Keep (n1 n0 : Nat) (W W' : World) : Prop := Only (fun j => ¬ (n1 ≤ j ∧ j < n0)) W W'
section
variable {n1 n0 : Nat} {A B C w w' W : World}
theorem Keep.refl (n1 n0 : Nat) (w : World) : Keep n1 n0 w w := Only.refl _ _
theorem Keep.trans (h : Keep n1 n0 A B) (k : Keep n1 n0 B C) : Keep n1 n0 A C := Only.trans h (Only.mono k (fun _ _ hf => Or.inl hf))
theorem Keep.of_below {m : Nat} (h : Below m A B) (hm : n0 ≤ m) : Keep n1 n0 A B :=
 ⟨h.os, h.tape, h.output, h.size, fun j _ hn => h.block j (by have := Classical.not_not.1 hn; omega)⟩
theorem keep_b (hn : n0 ≤ w.heap.size) (W : World) (l : Nat) (o o' : Obj) (hl : w.heap.size ≤ l) (_ : W.heap[l]? = some o) (_ : o.isCells = false) (_ : o.isWalk = false) : Keep n1 n0 W (W.putObj l o') :=
 Only.of_grown (grownBy_putObj' W l o') (fun k e => by cases e; omega)
end
def IsSeq (n1 n0 : Nat) (w : World) (v : Value) (L : List Int) : Prop :=
 n1 ≤ n0 ∧ n0 ≤ w.heap.size ∧ ∃ gf lb, v = .func (.func gf) #[] lb ∧ (∀ args w, (callFunc gf args).run Tryz.prog w = .ok (.enter gf args) w) ∧
  ∀ (α : Type) (f : α → Int) (M : List α), M.map f = L → ∀ w' n, Keep n1 n0 w w' → 8 ≤ n → SeqStopsK Fence.wide n Tryz.prog gf lb (fun x : α => #[Value.int .i64 (f x)]) (Keep n1 n0) (fun ys => ys = M) (fun pre => pre <+: M) M.length w'
theorem IsSeq.keep {n1 n0 : Nat} {w w' : World} {v : Value} {L : List Int} (h : IsSeq n1 n0 w v L) (k : Keep n1 n0 w w') : IsSeq n1 n0 w' v L := by
 obtain ⟨h1, h2, gf, lb, e, h3, h4⟩ := h
 exact ⟨h1, Nat.le_trans h2 k.size, gf, lb, e, h3, fun α f M hM w2 n k2 hn => h4 α f M hM w2 n (k.trans k2) hn⟩
def seqPost (w : World) (L : List Int) : Ending → World → Prop := fun e w' => ∃ v, e = .returned v ∧ IsSeq w.heap.size w'.heap.size w' v L ∧ Below w.heap.size w w'
theorem info_int : (Tryz.prog.info? 3).map (fun i => (i.zero, i.size, i.bytes)) = some (some (.int .i64 0), 1, 8) := by kernel_rfl
set_option maxRecDepth 100000 in
theorem eql_fn (gf : FuncId) (lb : Array Value) (w : World) : (binOp .eql 143 (.func (.func gf) #[] lb) .nilFunc).run Tryz.prog w = .ok (.bool false) w := by
 first
 | rfl
 | (simp [go_sem, Tryz.underlying143]; done)
end Go.Proofs.YtlmljhnogmfcfaaGreat.Uc
namespace Go.Proofs.YtlmljhnogmfcfaaGreat.Ud
open Go.RowKit Go.Shelf Ap Mi Nw Ua Ub Uc
attribute [local go_sem] Oper.semAt_some

def Lay (n1 n0 : Nat) (w : World) (A : Option Addr) (L : List Int) (c : Nat) : Prop := Li w A L c ∧ ∀ a, A = some a → n1 ≤ a.block ∧ a.block < n0
theorem Lay.keep {n1 n0 : Nat} {w w' : World} {A : Option Addr} {L : List Int} {c : Nat} (h : Lay n1 n0 w A L c) (k : Keep n1 n0 w w') : Lay n1 n0 w' A L c :=
 ⟨h.1.only k (fun a ha hn => hn (h.2 a ha)), h.2⟩
set_option maxRecDepth 100000 in
set_option maxHeartbeats 2000000 in
theorem vals_in {α : Type} {f : α → Int} {n : Nat} (hn : 1 ≤ n) {l Bs n1 n0 : Nat} {A : Option Addr} {L : List α} {c : Nat} (hL : L.length ≤ 2000000) {J Jx : List α → World → Prop}
  (hY : ∀ pre x W, J pre W → pre.length < L.length → YieldAt Fence.wide (n - 1) Tryz.prog l #[.int .i64 (f x)] W fun e W' =>
   (e = .returned (.bool true) ∧ J (pre ++ [x]) W' ∧ Keep n1 n0 W W') ∨ (e = .returned (.bool false) ∧ Jx (pre ++ [x]) W'))
  {W : World} (hBs : W.cell? ⟨Bs, 0, none⟩ = some (.slice A L.length c)) (hA : Lay n1 n0 W A (L.map f) c) (h0 : J [] W) :
  CallsIn Fence.wide n Tryz.prog 159 #[.func (.yield l) #[] #[], .pointer (some ⟨Bs, 0, none⟩)] W fun e W' => (∃ v, e = .returned v) ∧ ((∃ ys, ys = L ∧ J ys W') ∨ (∃ pre, pre <+: L ∧ Jx pre W')) := by
 have hml : (L.map f).length = L.length := List.length_map _
 have hcap := Rs.max hA.1
 have hreach : (L.length : Int) ≤ 2000000 := by omega
 refine callsIn_of_wp Tryz.func159 rfl trivial ?_ rfl
 simp only [Tryz.ntmps159, List.size_toArray, List.length_cons, List.length_nil, Nat.reduceAdd, Nat.reduceSub, Array.replicate_succ, Array.replicate_zero, List.push_toArray, List.append_toArray, List.nil_append, List.cons_append]
 gi_wp2
 gi_loopw [7] (fun i wr => ∃ k : Nat, k ≤ L.length ∧ i = .int .i64 k ∧ J (L.take k) wr ∧ Lay n1 n0 wr A (L.map f) c) (fun i _ => L.length - (intOf i).toNat)
 case atStart => exact ⟨0, Nat.zero_le _, rfl, h0, hA⟩
 case round =>
  obtain ⟨k, hk, rfl, hJs, hA'⟩ := hrel
  have HA' := Lib.hid hA'
  by_cases hlt : k < L.length
  ·obtain ⟨b, o, rfl, lb, hc⟩ := hA'.1.at_ (i := k) (by omega)
   rw [List.getElem_map] at hc
   have htk : L.take k ++ [L[k]] = L.take (k + 1) := (List.take_succ_eq_append_getElem hlt).symm
   obtain ⟨x, hx⟩ : ∃ x, x = L[k] := ⟨_, rfl⟩
   rw [← hx] at hc htk
   clear hx hA'
   obtain ⟨fn, tmps, assign, body, hy, hR⟩ := hY _ x wr hJs (by rw [List.length_take]; omega)
   gi_wp2
   refine hR.mono ?_
   rintro e W3 (⟨rfl, hJ3, hk3⟩ | ⟨rfl, hJx3⟩)
   ·gi_wp2
    go_roundw
    case rel => exact ⟨k + 1, by omega, by simp, by rw [← htk]; exact hJ3, HA'.out.keep hk3⟩
    case measure => simp [intOf]; omega
   ·gi_wp2
    refine bodyPost_ret (results_none rfl _ _ _) rfl ?_
    exact ⟨⟨_, rfl⟩, .inr ⟨L.take (k + 1), List.take_prefix _ _, by rw [← htk]; exact hJx3⟩⟩
  ·obtain rfl : k = L.length := by omega
   gi_wp2
   go_end0
   exact ⟨⟨_, rfl⟩, .inl ⟨_, List.take_of_length_le (Nat.le_refl _), hJs⟩⟩
theorem vals_seq {n1 n0 : Nat} {w : World} {A : Option Addr} {L : List Int} {c Bs : Nat} (h1 : n1 ≤ n0) (h2 : n0 ≤ w.heap.size) (hb : n1 ≤ Bs ∧ Bs < n0) (hL : L.length ≤ 2000000)
  (hBs : w.cell? ⟨Bs, 0, none⟩ = some (.slice A L.length c)) (hA : Lay n1 n0 w A L c) :
  IsSeq n1 n0 w (.func (.func 159) #[] #[.pointer (some ⟨Bs, 0, none⟩)]) L := by
 refine ⟨h1, h2, _, _, rfl, enters_of Tryz.func159 (by kernel_rfl) rfl, fun α f M hM w' n k hn => ?_⟩
 subst hM
 rw [List.length_map] at hL hBs
 intro l J Jx W hW _ _ hY h0
 have kW : Keep n1 n0 w W := k.trans (Keep.of_below hW (Nat.le_trans h2 k.size))
 exact vals_in (by omega) hL hY ((Only.cell kW (a := ⟨Bs, 0, none⟩) (by show Bs < _; omega) (fun hn => hn hb)).trans hBs) (hA.keep kW) h0
end Go.Proofs.YtlmljhnogmfcfaaGreat.Ud
namespace Go.Proofs.YtlmljhnogmfcfaaGreat.Uk
open Go.RowKit Go.Maps Mi Nw Ua

def kl (n : Int) : Lit := .int .i64 n
theorem keyed : Keyed Tryz.prog 3 := Maps.int_keyed Tryz.underlying3
def In (n : Int) : Prop := -9223372036854775808 ≤ n ∧ n ≤ 9223372036854775807
theorem in_wf {n : Int} (h : In n) : (Lit.int .i64 n).wf = true := by
 obtain ⟨h1, h2⟩ := h
 simp only [Lit.wf, Bool.and_eq_true, decide_eq_true_eq]
 exact ⟨h1, h2⟩
theorem key_mk {n : Int} (hn : In n) : keyOf Tryz.prog 3 (.int .i64 n) = some (kl n) := Maps.keyOf_int_mk Tryz.underlying3 (in_wf hn)
theorem kl_key (n : Int) : WideAt.IsKeyLit (kl n) := trivial
theorem kl_inj {n m : Int} (h : kl n = kl m) : n = m := by unfold kl at h; injection h
theorem zeroI (w : World) : (zeroValue 3).run Tryz.prog w = .ok (.int .i64 0) w := by kernel_rfl
def Owns (w : World) (b n : Nat) (D : DataW Unit) : Prop := w.ownsMap Tryz.prog 3 (plainElem Tryz.prog 3) b n D
theorem Owns.lt {w : World} {b n : Nat} {D : DataW Unit} (h : Owns w b n D) : b < w.heap.size := World.ownsMap.lt h
theorem Owns.kept {w w' : World} {b n : Nat} {D : DataW Unit} {F : Nat → Prop} (h : Owns w b n D) (ho : Only F w w') (hb : ¬ F b) : Owns w' b n D := by
 have hlt := World.ownsMap.lt h
 obtain ⟨es, clock, h1, h2⟩ := h
 exact ⟨es, clock, by rw [ho.block _ hlt hb]; exact h1, h2⟩
theorem made (w : World) : Owns (w.alloc (.map #[] 0)) w.heap.size 0 (.map []) := World.ownsMap_made _ _ _ _
theorem Owns.tidy {w : World} {b n : Nat} {D : DataW Unit} (h : Owns w b n D) : Tidy D := World.ownsMap.tidy h keyed
section
variable {P : Program} (w : World) {ops : Array Oper} {rest : List Oper} {o : Oper} {a : Act} {Q : Exit → Act → World → Prop}
theorem at_ok (hg : o.guard = none) (m x : Operand) (hop : o.op = Op.lookup 135 m x true) (b n : Nat) (D : DataW Unit) (hm : a.eval m = .map (some b)) (hown : Owns w b n D) (k : Int) (hk : In k) (hx : a.eval x = .int .i64 k)
  (c : Int) (s : Bool) (hc : D.atKey (kl k) (.lit (.int .i64 0)) = .lit (.int .i64 c)) (hs : has D (kl k) = s) (hK : wpList Tryz.prog ops Q rest (a.put o.dst (.tuple #[.int .i64 c, .bool s])) w) :
  wpList Tryz.prog ops Q (o :: rest) a w :=
 wpList_lookup_own_ok_int w hg m x _ hop _ _ .i64 keyed Tryz.underlying135 Tryz.underlying3 (zeroI w) b n D hm hown _ _ hx (key_mk hk) (fun c' e1 _ => by
  rw [hc] at e1
  simp only [DataW.lit.injEq, Lit.int.injEq, true_and] at e1
  rw [← e1, hs]; exact hK)
theorem at_del (hg : o.guard = none) (m x : Operand) (hop : o.op = Op.call { callee := Callee.builtin Builtin.delete, args := #[m, x], argTypes := #[135, 3] }) (b n : Nat) (D : DataW Unit) (hm : a.eval m = .map (some b)) (hown : Owns w b n D) (k : Int) (hk : In k) (hx : a.eval x = .int .i64 k)
  (hK : ∀ w', Owns w' b n (D.del (kl k)) → Only (fun k => k = b) w w' → wpList Tryz.prog ops Q rest (a.put o.dst (.tuple #[])) w') :
  wpList Tryz.prog ops Q (o :: rest) a w :=
 wpList_delete_own w hg m x _ _ hop _ keyed Tryz.underlying135 (plainElem Tryz.prog 3) b n D hm hown _ _ hx (key_mk hk) (fun w' h1 h2 => hK w' h1 (Only.of_grown h2.grown (fun k e => by simp at e; exact e.symm)))
theorem at_len (hg : o.guard = none) (m : Operand) (hop : o.op = Op.call { callee := Callee.builtin Builtin.len, args := #[m], argTypes := #[135] }) (b n : Nat) (D : DataW Unit) (hm : a.eval m = .map (some b)) (hown : Owns w b n D) (z : Nat) (hz : Maps.size D = z)
  (hK : wpList Tryz.prog ops Q rest (a.put o.dst (.int .i64 (z : Int))) w) : wpList Tryz.prog ops Q (o :: rest) a w :=
 wpList_len_own w hg m _ hop _ _ Tryz.underlying135 (plainElem Tryz.prog 3) b n D hm hown (by rw [hz]; exact hK)
end
theorem look_run {w : World} {b n : Nat} {D : DataW Unit} (h : Owns w b n D) {k : Int} (hk : In k) {c : Int} (hc : D.atKey (kl k) (.lit (.int .i64 0)) = .lit (.int .i64 c)) :
  (Instr.lookup 135 (.map (some b)) (.int .i64 k) false).run Tryz.prog w = .ok (.int .i64 c) w := by
 obtain ⟨c', h1, h2, _⟩ := World.ownsMap.lookup_int h keyed Tryz.underlying135 Tryz.underlying3 (zeroI w) (key_mk hk)
 rw [hc] at h2
 simp only [DataW.lit.injEq, Lit.int.injEq, true_and] at h2
 rw [h2]; exact h1
structure Tr (D : DataW Unit) (L : List Int) (i : Int) : Prop where
 tidy : Tidy D
 nd : L.Nodup
 mem : ∀ n, has D (kl n) = decide (n ∈ L)
 sz : Maps.size D = L.length
 val : ∃ f : Int → Int, (∀ n, n ∈ L → D.atKey (kl n) (.lit (.int .i64 0)) = .lit (.int .i64 (f n)) ∧ 0 ≤ f n ∧ f n < i) ∧ L.Pairwise (fun a b => f a < f b)
theorem wo_sub (L : List Int) (n : Int) : (wo L n).Sublist L := List.filter_sublist
theorem mem_wo {L : List Int} {n m : Int} : m ∈ wo L n ↔ m ∈ L ∧ m ≠ n := by unfold wo; simp
theorem wo_none {L : List Int} {n : Int} (h : n ∉ L) : wo L n = L := by
 unfold wo; rw [List.filter_eq_self]; intro a ha; simp; rintro rfl; exact h ha
theorem wo_length {L : List Int} {n : Int} (hd : L.Nodup) (h : n ∈ L) : (wo L n).length + 1 = L.length := by
 have e : wo L n = L.erase n := by
  unfold wo
  rw [List.Nodup.erase_eq_filter hd n]
  congr 1; funext x; by_cases hx : x = n <;> simp [hx]
 rw [e, List.length_erase_of_mem h]
 have := List.length_pos_of_mem h; omega
theorem Tr.next {D : DataW Unit} {L : List Int} {i j : Int} (h : Tr D L i) (hij : i ≤ j) : Tr D L j := by
 obtain ⟨h1, h2, h3, h4, f, h5, h6⟩ := h
 exact ⟨h1, h2, h3, h4, f, fun n hn => ⟨(h5 n hn).1, (h5 n hn).2.1, by have := (h5 n hn).2.2; omega⟩, h6⟩
theorem Tr.put {D : DataW Unit} {L : List Int} {i : Int} (h : Tr D L i) (hi : 0 ≤ i) (n : Int) : Tr (D.put (kl n) (.lit (.int .i64 i))) (wo L n ++ [n]) (i + 1) := by
 obtain ⟨h1, h2, h3, h4, f, h5, h6⟩ := h
 refine ⟨h1.put (kl_key n) _, ?_, fun m => ?_, ?_, fun m => if m = n then i else f m, fun m hm => ?_, ?_⟩
 ·refine List.nodup_append.2 ⟨h2.sublist (wo_sub L n), by simp, fun a ha b hb e => ?_⟩
  rw [List.mem_singleton.1 hb] at e
  exact (mem_wo.1 ha).2 e
 ·by_cases hm : m = n
  ·subst hm; rw [has_put_same h1.isMap (kl_key m)]; simp
  ·rw [has_put_other (fun e => hm (kl_inj e)), h3]
   rw [decide_eq_decide]
   simp [mem_wo, hm]
 ·rw [size_put h1, h3, h4, List.length_append]
  by_cases hn : n ∈ L
  ·have := wo_length h2 hn; simp [hn]; omega
  ·rw [wo_none hn]; simp [hn]
 ·by_cases hmn : m = n
  ·subst hmn
   exact ⟨by rw [atKey_put_same h1.isMap (kl_key m)]; simp, by simp [hi], by simp; omega⟩
  ·have hml : m ∈ L := by
    rcases List.mem_append.1 hm with h | h
    ·exact (mem_wo.1 h).1
    ·exact absurd (List.mem_singleton.1 h) hmn
   obtain ⟨a1, a2, a3⟩ := h5 m hml
   refine ⟨by rw [atKey_put_other (fun e => hmn (kl_inj e)), a1]; simp [hmn], by simp [hmn, a2], by simp [hmn]; omega⟩
 ·refine List.pairwise_append.2 ⟨(h6.sublist (wo_sub L n)).imp_of_mem (fun {a b} ha hb hab => ?_), by simp, fun a ha b hb => ?_⟩
  ·have h1 := (mem_wo.1 ha).2; have h2 := (mem_wo.1 hb).2
   simp [h1, h2, hab]
  ·rw [List.mem_singleton.1 hb]
   have h1 := mem_wo.1 ha
   have := (h5 a h1.1).2.2
   simp [h1.2, this]
theorem Tr.del {D : DataW Unit} {L : List Int} {i : Int} (h : Tr D L i) (n : Int) : Tr (D.del (kl n)) (wo L n) i := by
 obtain ⟨h1, h2, h3, h4, f, h5, h6⟩ := h
 refine ⟨h1.del _, h2.sublist (wo_sub L n), fun m => ?_, ?_, f, fun m hm => ?_, h6.sublist (wo_sub L n)⟩
 ·by_cases hm : m = n
  ·subst hm; rw [has_del_same]; simp [mem_wo]
  ·rw [has_del_other (fun e => hm (kl_inj e)), h3, decide_eq_decide]; simp [mem_wo, hm]
 ·have := size_del (k := kl n) h1
  rw [h3, h4] at this
  by_cases hn : n ∈ L
  ·have e := wo_length h2 hn; simp [hn] at this; omega
  ·rw [wo_none hn]; simp [hn] at this; omega
 ·obtain ⟨hm1, hm2⟩ := mem_wo.1 hm
  rw [atKey_del_other (fun e => hm2 (kl_inj e))]
  exact h5 m hm1
theorem Tr.look {D : DataW Unit} {L : List Int} {i : Int} (h : Tr D L i) (n : Int) : ∃ c : Int, D.atKey (kl n) (.lit (.int .i64 0)) = .lit (.int .i64 c) ∧ has D (kl n) = decide (n ∈ L) := by
 obtain ⟨h1, h2, h3, h4, f, h5, h6⟩ := h
 by_cases hn : n ∈ L
 ·exact ⟨f n, (h5 n hn).1, h3 n⟩
 ·exact ⟨0, atKey_of_not_has (by rw [h3]; simp [hn]) _, h3 n⟩
theorem Tr.lt {D : DataW Unit} {L : List Int} {i : Int} (h : Tr D L i) : ∃ f : Int → Int, (∀ n, n ∈ L → D.atKey (kl n) (.lit (.int .i64 0)) = .lit (.int .i64 (f n))) ∧ ∀ k (hk : k + 1 < L.length), f L[k] < f L[k + 1] := by
 obtain ⟨h1, h2, h3, h4, f, h5, h6⟩ := h
 exact ⟨f, fun n hn => (h5 n hn).1, fun k hk => List.pairwise_iff_getElem.1 h6 k (k + 1) (by omega) hk (by omega)⟩
theorem nd_ne {L : List Int} (hd : L.Nodup) {j k : Nat} (hjk : j < k) (hk : k < L.length) (e : L[j] = L[k]) : False := List.pairwise_iff_getElem.1 hd j k (by omega) hk hjk e
theorem ix_nd {L : List Int} (hd : L.Nodup) {k : Nat} (hk : k < L.length) : ixOf L L[k] = (k : Int) :=
 ix_at hk rfl (fun _ _ hjk e => nd_ne hd hjk hk e)
theorem next_mid {L : List Int} (hd : L.Nodup) (hs : ∀ n ∈ L, Sl n) {k : Nat} (hk : k + 1 < L.length) : nextN L L[k] = 0 ∧ nextV L L[k] = L[k + 1] := by
 have hm : L[k] ∈ L := List.getElem_mem _
 have e := ix_nd hd (show k < L.length by omega)
 have h1 : nextN L L[k] = 0 := by unfold nextN; rw [if_neg (by simpa using hs _ hm), if_neg (by simp), e, if_neg (by omega)]
 refine ⟨h1, ?_⟩
 unfold nextV
 rw [h1, if_pos rfl, e, show ((k : Int) + 1).toNat = k + 1 from by omega, List.getD_eq_getElem?_getD, List.getElem?_eq_getElem hk]; rfl
theorem next_end {L : List Int} (hd : L.Nodup) (hs : ∀ n ∈ L, Sl n) {k : Nat} (hk : k + 1 = L.length) : nextN L L[k] = 16 ∧ nextV L L[k] = 0 := by
 have hm : L[k] ∈ L := List.getElem_mem _
 have e := ix_nd hd (show k < L.length by omega)
 have h1 : nextN L L[k] = 16 := by unfold nextN; rw [if_neg (by simpa using hs _ hm), if_neg (by simp), e, if_pos (by omega)]
 exact ⟨h1, by unfold nextV; rw [h1]; rfl⟩
end Go.Proofs.YtlmljhnogmfcfaaGreat.Uk
namespace Go.Proofs.YtlmljhnogmfcfaaGreat.Wm
open Go.RowKit Go.Maps Mi Nw Ua Uk

def Lk (a b : Int → Int) : Int → List Int → Prop
 | _, [] => True
 | x, y :: l => a x = y ∧ b y = x ∧ Lk a b y l
def lst (x : Int) : List Int → Int
 | [] => x
 | y :: l => lst y l
theorem lst_mem : ∀ (l : List Int) (x : Int), lst x l ∈ x :: l
 | [], x => by simp [lst]
 | y :: l, x => by
  have := lst_mem l y
  unfold lst
  exact List.mem_cons_of_mem _ this
theorem lk_append {a b : Int → Int} : ∀ (l : List Int) (x : Int) (m : List Int), Lk a b x (l ++ m) ↔ Lk a b x l ∧ Lk a b (lst x l) m
 | [], x, m => by simp [Lk, lst]
 | y :: l, x, m => by
  have := lk_append (a := a) (b := b) l y m
  simp only [List.cons_append, Lk, lst, this]
  exact ⟨fun ⟨h1, h2, h3, h4⟩ => ⟨⟨h1, h2, h3⟩, h4⟩, fun ⟨⟨h1, h2, h3⟩, h4⟩ => ⟨h1, h2, h3, h4⟩⟩
theorem lk_congr {a b a' b' : Int → Int} : ∀ (l : List Int) (x : Int), Lk a b x l → (x :: l).Nodup → (∀ u ∈ x :: l, u ≠ lst x l → a' u = a u) → (∀ u ∈ l, b' u = b u) → Lk a' b' x l
 | [], _, _, _, _, _ => trivial
 | y :: l, x, h, hd, ha, hb => by
  obtain ⟨h1, h2, h3⟩ := h
  obtain ⟨d1, d2⟩ := List.nodup_cons.1 hd
  have hx : x ≠ lst x (y :: l) := fun e => d1 (by rw [e]; exact lst_mem l y)
  refine ⟨by rw [ha x (by simp) hx]; exact h1, by rw [hb y (by simp)]; exact h2, lk_congr l y h3 d2 (fun u hu hn => ha u (List.mem_cons_of_mem _ hu) hn) (fun u hu => hb u (List.mem_cons_of_mem _ hu))⟩
theorem lk_all {a b a' b' : Int → Int} : ∀ (l : List Int) (x : Int), Lk a b x l → (∀ u ∈ x :: l, a' u = a u) → (∀ u ∈ l, b' u = b u) → Lk a' b' x l
 | [], _, _, _, _ => trivial
 | y :: l, x, h, ha, hb => by
  obtain ⟨h1, h2, h3⟩ := h
  exact ⟨by rw [ha x (by simp)]; exact h1, by rw [hb y (by simp)]; exact h2, lk_all l y h3 (fun u hu => ha u (List.mem_cons_of_mem _ hu)) (fun u hu => hb u (List.mem_cons_of_mem _ hu))⟩
theorem lk_get {a b : Int → Int} : ∀ (l : List Int) (x : Int), Lk a b x l → ∀ k (hk : k < l.length), a ((x :: l)[k]'(by simp; omega)) = l[k] ∧ b l[k] = (x :: l)[k]'(by simp; omega)
 | [], _, _, _, hk => by simp at hk
 | y :: l, x, h, 0, _ => ⟨h.1, h.2.1⟩
 | y :: l, x, h, k + 1, hk => lk_get l y h.2.2 k (by simpa using hk)
def Ring (a b : Int → Int) (L : List Int) : Prop := Lk a b (-1) (L ++ [-1])
def upd (f : Int → Int) (n v : Int) : Int → Int := fun m => if m = n then v else f m
theorem upd_eq (f : Int → Int) (n v : Int) : upd f n v n = v := by simp [upd]
theorem upd_ne {f : Int → Int} {n v m : Int} (h : m ≠ n) : upd f n v m = f m := by simp [upd, h]
theorem ring_nil {a b : Int → Int} : Ring (upd a (-1) (-1)) (upd b (-1) (-1)) [] := ⟨upd_eq _ _ _, upd_eq _ _ _, trivial⟩
section
variable {a b : Int → Int} {L : List Int}
theorem Ring.last (h : Ring a b L) : b (-1) = lst (-1) L := by
 have := (lk_append (a := a) (b := b) L (-1) [-1]).1 h
 exact this.2.2.1
theorem Ring.push (h : Ring a b L) (hd : L.Nodup) (hm : (-1 : Int) ∉ L) {n : Int} (hn : n ∉ L) (hn1 : n ≠ -1) {p : Int} (hp : b (-1) = p) :
  Ring (upd (upd a p n) n (-1)) (upd (upd b n p) (-1) n) (L ++ [n]) ∧ p ∈ -1 :: L := by
 have e := h.last
 rw [hp] at e
 subst e
 have hpm := lst_mem L (-1)
 refine ⟨?_, hpm⟩
 have hpn : lst (-1) L ≠ n := fun e => by
  rw [e] at hpm
  rcases List.mem_cons.1 hpm with h1 | h1
  ·exact hn1 h1
  ·exact hn h1
 unfold Ring at h ⊢
 rw [List.append_assoc]
 refine (lk_append L (-1) _).2 ⟨lk_congr L (-1) ((lk_append L (-1) _).1 h).1 (List.nodup_cons.2 ⟨hm, hd⟩) (fun u hu hun => ?_) (fun u hu => ?_), ?_, ?_, ?_, ?_, trivial⟩
 ·have : u ≠ n := fun e => by
   subst e
   rcases List.mem_cons.1 hu with h1 | h1
   ·exact hn1 h1
   ·exact hn h1
  rw [upd_ne this, upd_ne hun]
 ·have h1 : u ≠ n := fun e => hn (e ▸ hu)
  have h2 : u ≠ -1 := fun e => hm (e ▸ hu)
  rw [upd_ne h2, upd_ne h1]
 ·rw [upd_ne hpn, upd_eq]
 ·rw [upd_ne hn1, upd_eq]
 ·exact upd_eq _ _ _
 ·exact upd_eq _ _ _
theorem wo_split {n : Int} (hd : L.Nodup) (h : n ∈ L) : ∃ L1 L2, L = L1 ++ n :: L2 ∧ wo L n = L1 ++ L2 ∧ n ∉ L1 ∧ n ∉ L2 := by
 obtain ⟨L1, L2, e⟩ := List.append_of_mem h
 subst e
 obtain ⟨d1, d2, d3⟩ := List.nodup_append.1 hd
 have n1 : n ∉ L1 := fun hn => d3 n hn n (by simp) rfl
 have n2 : n ∉ L2 := (List.nodup_cons.1 d2).1
 refine ⟨L1, L2, rfl, ?_, n1, n2⟩
 have h1 : wo (L1 ++ n :: L2) n = wo L1 n ++ wo (n :: L2) n := by unfold wo; exact List.filter_append _ _
 have h2 : wo (n :: L2) n = wo L2 n := by unfold wo; simp
 rw [h1, h2, wo_none n1, wo_none n2]
theorem Ring.bridge (h : Ring a b L) (hd : L.Nodup) (hm : (-1 : Int) ∉ L) {n : Int} (hn : n ∈ L) {p s : Int} (hp : b n = p) (hs : a n = s) :
  Ring (upd a p s) (upd b s p) (wo L n) ∧ p ∈ -1 :: L ∧ s ∈ -1 :: L := by
 obtain ⟨L1, L2, rfl, e, n1, n2⟩ := wo_split hd hn
 rw [e]
 have hm1 : (-1 : Int) ∉ L1 := fun h => hm (by simp [h])
 have hm2 : (-1 : Int) ∉ L2 := fun h => hm (by simp [h])
 obtain ⟨d1, d2, d3⟩ := List.nodup_append.1 hd
 unfold Ring at h ⊢
 rw [List.append_assoc] at h
 obtain ⟨k1, k2, k3, k4⟩ := (lk_append L1 (-1) _).1 h
 change Lk a b n (L2 ++ [-1]) at k4
 have hpm := lst_mem L1 (-1)
 have e0 : lst (-1) L1 = p := by rw [← hp, k3]
 rw [e0] at hpm k2
 have hpm' : p ∈ -1 :: (L1 ++ n :: L2) := by
  rcases List.mem_cons.1 hpm with h1 | h1
  ·rw [h1]; simp
  ·exact List.mem_cons_of_mem _ (List.mem_append_left _ h1)
 obtain ⟨y, r, hy⟩ : ∃ y r, L2 ++ [-1] = y :: r := by
  cases L2 with
  | nil => exact ⟨_, _, rfl⟩
  | cons z t => exact ⟨_, _, rfl⟩
 rw [List.append_assoc, hy]
 rw [hy] at k4
 obtain ⟨k5, k6, k7⟩ := k4
 rw [hs] at k5
 subst k5
 have hsm : s ∈ L2 ++ [-1] := by rw [hy]; simp
 have hsm' : s ∈ -1 :: (L1 ++ n :: L2) := by
  rcases List.mem_append.1 hsm with h1 | h1
  ·exact List.mem_cons_of_mem _ (List.mem_append_right _ (List.mem_cons_of_mem _ h1))
  ·rw [List.mem_singleton.1 h1]; simp
 refine ⟨(lk_append L1 (-1) _).2 ⟨lk_congr L1 (-1) k1 (List.nodup_cons.2 ⟨hm1, d1⟩) (fun u hu hun => ?_) (fun u hu => ?_), ?_, ?_, ?_⟩, hpm', hsm'⟩
 ·rw [e0] at hun; exact upd_ne hun
 ·refine upd_ne fun e => ?_
  subst e
  rcases List.mem_append.1 hsm with h1 | h1
  ·exact d3 u hu u (List.mem_cons_of_mem _ h1) rfl
  ·exact hm1 (by rw [← List.mem_singleton.1 h1]; exact hu)
 ·rw [e0]; exact upd_eq _ _ _
 ·rw [e0]; exact upd_eq _ _ _
 ·cases L2 with
  | nil =>
   simp only [List.nil_append, List.cons.injEq] at hy
   obtain ⟨_, rfl⟩ := hy
   trivial
  | cons z t =>
   simp only [List.cons_append, List.cons.injEq] at hy
   obtain ⟨rfl, rfl⟩ := hy
   have hz : z ∉ t := (List.nodup_cons.1 (List.nodup_cons.1 d2).2).1
   have key : ∀ u ∈ z :: t, upd a p z u = a u := fun u hu => upd_ne fun e => by
    subst e
    rcases List.mem_cons.1 hpm with h1 | h1
    ·exact hm2 (by rw [← h1]; exact hu)
    ·exact d3 u h1 u (List.mem_cons_of_mem _ hu) rfl
   obtain ⟨j1, j2, j3, _⟩ := (lk_append t z [-1]).1 k7
   refine (lk_append t z [-1]).2 ⟨lk_all t z j1 key (fun u hu => upd_ne fun e => hz (e ▸ hu)), ?_, ?_, trivial⟩
   ·rw [key _ (lst_mem t z)]; exact j2
   ·rw [upd_ne (fun e => hm2 (by rw [e]; simp))]; exact j3
theorem Ring.next (h : Ring a b L) {k : Nat} (hk : k < L.length) : a L[k] = if hk1 : k + 1 < L.length then L[k + 1] else -1 := by
 have := (lk_get (L ++ [-1]) (-1) h (k + 1) (by simp; omega)).1
 rw [List.getElem_cons_succ] at this
 rw [List.getElem_append_left hk] at this
 rw [this]
 split
 ·rename_i h1; exact List.getElem_append_left h1
 ·rename_i h1
  rw [List.getElem_append_right (by omega)]
  simp
theorem Ring.first (h : Ring a b L) : a (-1) = L.headD (-1) := by
 cases L with
 | nil => exact h.1
 | cons x r => exact h.1
end
structure Md (D : DataW Unit) (p : Int → Prop) (k : Nat) (f : Int → Int) : Prop where
 tidy : Tidy D
 mem : ∀ n, has D (kl n) = true ↔ p n
 val : ∀ n, p n → D.atKey (kl n) (.lit (.int .i64 0)) = .lit (.int .i64 (f n))
 sz : Maps.size D = k
section
variable {D : DataW Unit} {p : Int → Prop} {k : Nat} {f : Int → Int}
theorem md_nil : Md (.map []) (fun _ => False) 0 f := ⟨tidy_empty, fun n => by simp [has_eq], fun n h => h.elim, rfl⟩
theorem Md.put_raw (h : Md D p k f) (n v : Int) {k' : Nat} (hk : Maps.size (D.put (kl n) (.lit (.int .i64 v))) = k') : Md (D.put (kl n) (.lit (.int .i64 v))) (fun m => m = n ∨ p m) k' (upd f n v) := by
 obtain ⟨h1, h2, h3, h4⟩ := h
 refine ⟨h1.put (kl_key n) _, fun m => ?_, fun m hm => ?_, hk⟩
 ·by_cases e : m = n
  ·subst e; rw [has_put_same h1.isMap (kl_key m)]; simp
  ·rw [has_put_other (fun h => e (kl_inj h)), h2]; simp [e]
 ·by_cases e : m = n
  ·subst e; rw [atKey_put_same h1.isMap (kl_key m), upd_eq]
  ·rw [atKey_put_other (fun h => e (kl_inj h)), h3 m (hm.resolve_left e), upd_ne e]
theorem Md.put_old (h : Md D p k f) {n : Int} (hn : p n) (v : Int) : Md (D.put (kl n) (.lit (.int .i64 v))) p k (upd f n v) := by
 have hs : Maps.size (D.put (kl n) (.lit (.int .i64 v))) = k := by rw [size_put h.tidy, (h.mem n).2 hn, h.sz]; rfl
 obtain ⟨h1, h2, h3, h4⟩ := h.put_raw n v hs
 have e : ∀ m, (m = n ∨ p m) ↔ p m := fun m => ⟨fun h => h.elim (fun e => e ▸ hn) id, Or.inr⟩
 exact ⟨h1, fun m => (h2 m).trans (e m), fun m hm => h3 m (Or.inr hm), h4⟩
theorem Md.put_new (h : Md D p k f) {n : Int} (hn : ¬ p n) (v : Int) : Md (D.put (kl n) (.lit (.int .i64 v))) (fun m => m = n ∨ p m) (k + 1) (upd f n v) :=
 h.put_raw n v (by
  have : has D (kl n) = false := by cases e : has D (kl n) with
   | false => rfl
   | true => exact absurd ((h.mem n).1 e) hn
  rw [size_put h.tidy, this, h.sz]; rfl)
theorem Md.del (h : Md D p (k + 1) f) {n : Int} (hn : p n) : Md (D.del (kl n)) (fun m => p m ∧ m ≠ n) k f := by
 obtain ⟨h1, h2, h3, h4⟩ := h
 refine ⟨h1.del _, fun m => ?_, fun m hm => ?_, ?_⟩
 ·by_cases e : m = n
  ·subst e; rw [has_del_same]; simp
  ·rw [has_del_other (fun h => e (kl_inj h)), h2]; simp [e]
 ·rw [atKey_del_other (fun h => hm.2 (kl_inj h))]; exact h3 m hm.1
 ·have := size_del (k := kl n) h1
  rw [h4, (h2 n).2 hn] at this
  simp at this; omega
theorem Md.ext (h : Md D p k f) {q : Int → Prop} {k' : Nat} {g : Int → Int} (hp : ∀ m, p m ↔ q m) (hk : k = k') (hf : ∀ m, q m → f m = g m) : Md D q k' g :=
 ⟨h.tidy, fun m => (h.mem m).trans (hp m), fun m hm => by rw [h.val m ((hp m).2 hm), hf m hm], h.sz.trans hk⟩
theorem Md.no (h : Md D p k f) {n : Int} (hn : ¬ p n) : has D (kl n) = false ∧ D.atKey (kl n) (.lit (.int .i64 0)) = .lit (.int .i64 0) := by
 have : has D (kl n) = false := by cases e : has D (kl n) with
  | false => rfl
  | true => exact absurd ((h.mem n).1 e) hn
 exact ⟨this, atKey_of_not_has this _⟩
end
theorem nd_int : ∀ (A B : List Int), A.Nodup → (∀ x ∈ A, x ∈ B) → A.length ≤ B.length
 | [], _, _, _ => Nat.zero_le _
 | a :: r, B, h, hs => by
  have ha := hs a (by simp)
  obtain ⟨h1, h2⟩ := List.nodup_cons.1 h
  have ih := nd_int r (B.erase a) h2 (fun x hx => (List.mem_erase_of_ne (fun e => h1 (by rw [← e]; exact hx))).2 (hs x (by simp [hx])))
  rw [List.length_erase_of_mem ha] at ih
  have := List.length_pos_of_mem ha
  simp only [List.length_cons]
  omega
theorem slots_len {L : List Int} (hd : L.Nodup) (hs : ∀ n ∈ L, Sl n) : L.length ≤ 1048576 := by
 have h := nd_int L ((List.range 1048576).map Int.ofNat) hd (fun x hx => by
  obtain ⟨h1, h2⟩ := hs x hx
  exact List.mem_map.2 ⟨x.toNat, List.mem_range.2 (by omega), by simp; omega⟩)
 rw [List.length_map, List.length_range] at h
 exact h
end Go.Proofs.YtlmljhnogmfcfaaGreat.Wm
namespace Go.Proofs.YtlmljhnogmfcfaaGreat.Wa
open Go.RowKit Go.Maps Ap Mi Nw Ua Uk Wm

def Own (w : World) (b : Nat) (D : DataW Unit) : Prop := Owns w b (Maps.size D) D
theorem Own.of {w : World} {b n : Nat} {D : DataW Unit} (h : Owns w b n D) : Own w b D := by
 obtain ⟨es, clock, h1, h2, _, h4⟩ := h
 refine ⟨es, clock, h1, h2, ?_, h4⟩
 have h5 : Maps.size D = es.size := by rw [h4]; show List.length _ = _; rw [length_sorted]; simp
 omega
theorem Own.lt {w : World} {b : Nat} {D : DataW Unit} (h : Own w b D) : b < w.heap.size := Owns.lt h
theorem Own.kept {w w' : World} {b : Nat} {D : DataW Unit} {F : Nat → Prop} (h : Own w b D) (ho : Only F w w') (hb : ¬ F b) : Own w' b D := Owns.kept h ho hb
section
variable {P : Program} (w : World) {ops : Array Oper} {rest : List Oper} {o : Oper} {a : Act} {Q : Exit → Act → World → Prop}
theorem to_store (hg : o.guard = none) (m x v : Operand) (hop : o.op = Op.mapUpdate 135 m x v) (b : Nat) (D : DataW Unit) (hm : a.eval m = .map (some b)) (hown : Own w b D) (hn : Maps.size D ≤ 2000000) (k : Int) (hk : In k) (hx : a.eval x = .int .i64 k)
  (c : Int) (hci : In c) (hv : a.eval v = .int .i64 c) (hK : ∀ w', Own w' b (D.put (kl k) (.lit (.int .i64 c))) → Only (fun k => k = b) w w' → wpList Tryz.prog ops Q rest (a.put o.dst undef) w') :
  wpList Tryz.prog ops Q (o :: rest) a w :=
 wpList_mapUpdate_own w hg m x v _ hop _ _ keyed Tryz.underlying135 (plainElem Tryz.prog 3) b _ D hm hown (by unfold maxLen; omega) _ _ _ hx hv (key_mk hk) _ _ (plainElem_int Tryz.underlying3 (in_wf hci)) (fun w' h1 h2 => hK w' (Own.of h1) (Only.of_grown h2 (fun k e => by simp at e; exact e.symm)))
theorem to_del (hg : o.guard = none) (m x : Operand) (hop : o.op = Op.call { callee := Callee.builtin Builtin.delete, args := #[m, x], argTypes := #[135, 3] }) (b : Nat) (D : DataW Unit) (hm : a.eval m = .map (some b)) (hown : Own w b D) (k : Int) (hk : In k) (hx : a.eval x = .int .i64 k)
  (hK : ∀ w', Own w' b (D.del (kl k)) → Only (fun k => k = b) w w' → wpList Tryz.prog ops Q rest (a.put o.dst (.tuple #[])) w') :
  wpList Tryz.prog ops Q (o :: rest) a w :=
 at_del w hg m x hop b _ D hm hown k hk hx (fun w' h1 h2 => hK w' (Own.of h1) h2)
end
structure Lo (w : World) (g B A : Nat) (DB DA : DataW Unit) : Prop where
 bk : Blk w g #[.map (some B), .map (some A)] 137
 ob : Own w B DB
 oa : Own w A DA
 ba : B ≠ A
 gb : g ≠ B
 ga : g ≠ A
theorem Lo.kept {w w' : World} {g B A : Nat} {DB DA : DataW Unit} {F : Nat → Prop} (h : Lo w g B A DB DA) (ho : Only F w w') (h1 : ¬ F g) (h2 : ¬ F B) (h3 : ¬ F A) : Lo w' g B A DB DA :=
 ⟨h.bk.only ho h1, h.ob.kept ho h2, h.oa.kept ho h3, h.ba, h.gb, h.ga⟩
def joinPost (w : World) (g B A : Nat) (DB DA : DataW Unit) : Ending → World → Prop := fun e w' => e = .returned (.tuple #[]) ∧ Lo w' g B A DB DA ∧ Only (fun j => j = B ∨ j = A) w w'
set_option maxRecDepth 100000 in
set_option maxHeartbeats 400000 in
theorem join_any {w : World} {g B A : Nat} {DB DA : DataW Unit} (h : Lo w g B A DB DA) (n m : Int) (hn : In n) (hm : In m) (hsb : Maps.size DB ≤ 2000000) (hsa : Maps.size DA ≤ 2000000) :
  Calls Tryz.prog 83 #[.pointer (some ⟨g, 0, none⟩), .int .i64 n, .int .i64 m] w (joinPost w g B A (DB.put (kl m) (.lit (.int .i64 n))) (DA.put (kl n) (.lit (.int .i64 m)))) := by
 have H0 := Lib.hid h
 have HN := Lib.hid hn; have HM := Lib.hid hm
 have HSB := Lib.hid hsb; have HSA := Lib.hid hsa
 obtain ⟨x0, x1, _⟩ := h.bk.two
 unfold joinPost
 obtain ⟨DA', hDA⟩ : ∃ D, D = DA.put (kl n) (.lit (.int .i64 m)) := ⟨_, rfl⟩
 obtain ⟨DB', hDB⟩ : ∃ D, D = DB.put (kl m) (.lit (.int .i64 n)) := ⟨_, rfl⟩
 have HDA := Lib.hid hDA; have HDB := Lib.hid hDB
 rw [← hDA, ← hDB]
 clear h hn hm hsb hsa hDA hDB
 go_enter Tryz.func83, Tryz.ntmps83
 go_upto_region 1 with (at_mapUpdate; refine to_store _ rfl _ _ _ rfl A DA rfl H0.out.oa HSA.out n HN.out rfl m HM.out rfl ?_; rw [← HDA.out]; intro w1 hw1 ho1; have HO1 := Lib.hid ho1; have HW1 := Lib.hid hw1; have HK1 := Lib.hid (H0.out.bk.only ho1 H0.out.ga); have HB1 := Lib.hid (H0.out.ob.kept ho1 H0.out.ba); obtain ⟨y0, y1, _⟩ := HK1.out.two; clear ho1 hw1 x0 x1)
 go_wp2_with (at_mapUpdate; refine to_store _ rfl _ _ _ rfl B DB rfl HB1.out HSB.out m HM.out rfl n HN.out rfl ?_; rw [← HDB.out]; intro w2 hw2 ho2; have HO2 := Lib.hid ho2; have HW2 := Lib.hid hw2; clear ho2 hw2)
 go_end0
 exact ⟨rfl, ⟨HK1.out.only HO2.out H0.out.gb, HW2.out, HW1.out.kept HO2.out (fun e => H0.out.ba e.symm), H0.out.ba, H0.out.gb, H0.out.ga⟩, (HO1.out.mono fun _ _ e => Or.inr e).trans (HO2.out.mono fun _ _ e => Or.inl (Or.inl e))⟩
theorem size_le {w : World} {b : Nat} {D : DataW Unit} (h : Own w b D) (n : Int) (v : DataW Unit) : Maps.size (D.put (kl n) v) ≤ Maps.size D + 1 := by
 rw [size_put (Owns.tidy h)]; split <;> omega
theorem neq_map (p : Option Nat) (w : World) : (binOp .neq 135 (.map p) (.map none)).run Tryz.prog w = .ok (.bool p.isSome) w := by
 simp only [binOp]
 simp [show Op.equal 135 (.map p) (.map none) = Op.equalIn (9999 + 1) 135 (.map p) (.map none) from rfl, run_equalIn_map_nil_sl w 9999 135 _ _ p Tryz.underlying135]
theorem usable_any {w : World} {g B A : Nat} {DB DA : DataW Unit} (h : Lo w g B A DB DA) :
  Calls Tryz.prog 123 #[.pointer (some ⟨g, 0, none⟩)] w fun e w' => e = .returned (.bool true) ∧ w' = w := by
 obtain ⟨x0, x1, _⟩ := h.bk.two
 have hnq := neq_map
 clear h
 go_enter Tryz.func123, Tryz.ntmps123
 go_wp2_with fail
 go_ret
 exact ⟨rfl, rfl⟩
def lokN (n : Int) : Int := if Sl n then 0 else 2
def lokB (L : List Int) (n : Int) : Bool := decide (Sl n ∧ n ∈ L)
def pr (L : List Int) (n : Int) : Prop := n = -1 ∨ n ∈ L
theorem in_sl {n : Int} (h : Sl n) : In n := ⟨by have := h.1; omega, by have := h.2; omega⟩
theorem in_m1 : In (-1) := ⟨by omega, by omega⟩
set_option maxRecDepth 100000 in
theorem look_any {w : World} {g B A k : Nat} {DB DA : DataW Unit} {L : List Int} {a : Int → Int} (h : Lo w g B A DB DA) (hm : Md DA (pr L) k a) (n : Int) :
  Calls Tryz.prog 129 #[.pointer (some ⟨g, 0, none⟩), .int .i64 n] w fun e w' => e = .returned (.tuple #[.bool (lokB L n), .int .i64 (lokN n)]) ∧ w' = w := by
 have H0 := Lib.hid h
 have HU := Lib.hid (usable_any h)
 obtain ⟨x0, x1, _⟩ := h.bk.two
 clear h
 by_cases h0 : 0 ≤ n
 ·by_cases h1 : n < 1048576
  ·have HS : Hid (Sl n) := ⟨h0, h1⟩
   have HV : Hid (∃ c : Int, DA.atKey (kl n) (.lit (.int .i64 0)) = .lit (.int .i64 c)) := by
    by_cases hp : pr L n
    ·exact ⟨_, hm.val n hp⟩
    ·exact ⟨_, (hm.no hp).2⟩
   have HH : Hid (has DA (kl n) = lokB L n) := by
    show _ = _
    unfold lokB
    rw [Bool.eq_iff_iff, hm.mem]
    simp only [decide_eq_true_eq, HS.out, true_and]
    exact ⟨fun h => h.resolve_left (by omega), Or.inr⟩
   have HL : Hid (lokN n = 0) := by show _ = _; unfold lokN; rw [if_pos HS.out]
   obtain ⟨c, hc⟩ := HV.out
   have HC := Lib.hid hc
   rw [HL.out]
   clear HV hc
   go_enter Tryz.func129, Tryz.ntmps129
   go_wp2_with fail
   refine HU.out.mono ?_
   rintro e w1 ⟨rfl, rfl⟩
   go_wp2_with (at_lookup; refine at_ok _ rfl _ _ rfl A _ DA rfl H0.out.oa n (in_sl HS.out) rfl c _ HC.out HH.out ?_)
   go_ret2
   exact ⟨rfl, rfl⟩
  ·have HL : Hid (lokN n = 2 ∧ lokB L n = false) := by
    have hs : ¬ Sl n := fun h => h1 h.2
    exact ⟨by unfold lokN; rw [if_neg hs], by unfold lokB; simp [hs]⟩
   rw [HL.out.1, HL.out.2]
   have h1' : (1048576 : Int) ≤ n := by omega
   clear hm h1
   go_enter Tryz.func129, Tryz.ntmps129
   go_wp2_with fail
   refine HU.out.mono ?_
   rintro e w1 ⟨rfl, rfl⟩
   go_wp2_with fail
   go_ret2
   exact ⟨rfl, rfl⟩
 ·have HL : Hid (lokN n = 2 ∧ lokB L n = false) := by
   have hs : ¬ Sl n := fun h => h0 h.1
   exact ⟨by unfold lokN; rw [if_neg hs], by unfold lokB; simp [hs]⟩
  rw [HL.out.1, HL.out.2]
  have h1' : n < 0 := by omega
  clear hm h0
  go_enter Tryz.func129, Tryz.ntmps129
  go_wp2_with fail
  refine HU.out.mono ?_
  rintro e w1 ⟨rfl, rfl⟩
  go_wp2_with fail
  go_ret2
  exact ⟨rfl, rfl⟩
set_option maxRecDepth 100000 in
theorem need_any {w : World} {g B A k : Nat} {DB DA : DataW Unit} {L : List Int} {a : Int → Int} (h : Lo w g B A DB DA) (hm : Md DA (pr L) k a) (n : Int) :
  Calls Tryz.prog 90 #[.pointer (some ⟨g, 0, none⟩), .int .i64 n] w fun e w' => e = .returned (.int .i64 (remN L n)) ∧ w' = w := by
 have HK := Lib.hid (look_any h hm n)
 clear h hm
 by_cases hs : Sl n
 ·by_cases hl : n ∈ L
  ·have e1 : lokB L n = true := by unfold lokB; simp [hs, hl]
   have e2 : lokN n = 0 := by unfold lokN; rw [if_pos hs]
   have e3 : remN L n = 0 := by unfold remN; rw [if_neg (by simpa using hs), if_pos hl]
   rw [e1, e2] at HK
   rw [e3]
   clear e1 e2 e3 hs hl
   go_enter Tryz.func90, Tryz.ntmps90
   go_wp2_with fail
   refine HK.out.mono ?_
   rintro e w1 ⟨rfl, rfl⟩
   go_wp2_with fail
   go_ret
   exact ⟨rfl, rfl⟩
  ·have e1 : lokB L n = false := by unfold lokB; simp [hl]
   have e2 : lokN n = 0 := by unfold lokN; rw [if_pos hs]
   have e3 : remN L n = 9 := by unfold remN; rw [if_neg (by simpa using hs), if_neg hl]
   rw [e1, e2] at HK
   rw [e3]
   clear e1 e2 e3 hs hl
   go_enter Tryz.func90, Tryz.ntmps90
   go_wp2_with fail
   refine HK.out.mono ?_
   rintro e w1 ⟨rfl, rfl⟩
   go_wp2_with fail
   go_ret
   exact ⟨rfl, rfl⟩
 ·have e1 : lokB L n = false := by unfold lokB; simp [hs]
  have e2 : lokN n = 2 := by unfold lokN; rw [if_neg hs]
  have e3 : remN L n = 2 := by unfold remN; rw [if_pos hs]
  rw [e1, e2] at HK
  rw [e3]
  clear e1 e2 e3 hs
  go_enter Tryz.func90, Tryz.ntmps90
  go_wp2_with fail
  refine HK.out.mono ?_
  rintro e w1 ⟨rfl, rfl⟩
  go_wp2_with fail
  go_ret
  exact ⟨rfl, rfl⟩
set_option maxRecDepth 100000 in
theorem follow_any {w : World} {g B A : Nat} {DB DA : DataW Unit} (h : Lo w g B A DB DA) (n no c x y : Int) (hn : In n) (hc : DA.atKey (kl n) (.lit (.int .i64 0)) = .lit (.int .i64 c)) (hx : (if c = -1 then 0 else c) = x) (hy : (if c = -1 then no else 0) = y) :
  Calls Tryz.prog 137 #[.pointer (some ⟨g, 0, none⟩), .int .i64 n, .int .i64 no] w fun e w' => e = .returned (.tuple #[.int .i64 x, .int .i64 y]) ∧ w' = w := by
 obtain ⟨x0, x1, _⟩ := h.bk.two
 have HLK := look_run h.oa hn hc
 clear hn hc h
 by_cases h1 : c = -1
 ·rw [if_pos h1] at hx hy
  subst hx; subst hy
  have hb : (c == -1) = true := by simpa using h1
  clear h1
  go_enter Tryz.func137, Tryz.ntmps137
  go_wp2_with fail
  go_ret2
  exact ⟨rfl, rfl⟩
 ·rw [if_neg h1] at hx hy
  subst hx; subst hy
  have hb : (c == -1) = false := by simpa using h1
  clear h1
  go_enter Tryz.func137, Tryz.ntmps137
  go_wp2_with fail
  go_ret2
  exact ⟨rfl, rfl⟩
end Go.Proofs.YtlmljhnogmfcfaaGreat.Wa
namespace Go.Proofs.YtlmljhnogmfcfaaGreat.Wb
open Go.RowKit Go.Maps Ap Mi Nw Ua Uk Wm Wa

set_option maxRecDepth 100000 in
set_option maxHeartbeats 400000 in
theorem push_any {w : World} {g B A : Nat} {DB DA : DataW Unit} (h : Lo w g B A DB DA) (n p : Int) (hn : In n) (hp : In p) (hl : DB.atKey (kl (-1)) (.lit (.int .i64 0)) = .lit (.int .i64 p)) (hsb : Maps.size DB ≤ 1999990) (hsa : Maps.size DA ≤ 1999990) :
  Calls Tryz.prog 92 #[.pointer (some ⟨g, 0, none⟩), .int .i64 n] w (joinPost w g B A ((DB.put (kl n) (.lit (.int .i64 p))).put (kl (-1)) (.lit (.int .i64 n))) ((DA.put (kl p) (.lit (.int .i64 n))).put (kl n) (.lit (.int .i64 (-1))))) := by
 have HLK := look_run h.ob in_m1 hl
 obtain ⟨x0, x1, _⟩ := h.bk.two
 have J1 := Lib.hid (join_any h p n hp hn (by omega) (by omega))
 have HZ := Lib.hid (size_le h.ob n (.lit (.int .i64 p))); have HZ' := Lib.hid (size_le h.oa p (.lit (.int .i64 n)))
 have HN := Lib.hid hn; have HS := Lib.hid (And.intro hsb hsa)
 unfold joinPost at J1 ⊢
 clear h hn hp hl hsb hsa
 go_enter Tryz.func92, Tryz.ntmps92
 go_wp2_with fail
 refine J1.out.mono ?_
 rintro e w1 ⟨rfl, hlo, ho⟩
 have HO1 := Lib.hid ho
 have J2 := Lib.hid (join_any hlo n (-1) HN.out in_m1 (by have := HZ.out; have := HS.out.1; omega) (by have := HZ'.out; have := HS.out.2; omega))
 unfold joinPost at J2
 clear hlo ho HLK x0 x1 J1
 go_wp2_with fail
 refine J2.out.mono ?_
 rintro e w2 ⟨rfl, hlo, ho⟩
 have HL2 := Lib.hid hlo; have HO2 := Lib.hid (HO1.out.trans (ho.mono fun _ _ h => Or.inl h))
 clear hlo ho J2
 go_wp2_with fail
 go_end0
 exact ⟨rfl, HL2.out, HO2.out⟩
set_option maxRecDepth 100000 in
set_option maxHeartbeats 400000 in
theorem bridge_any {w : World} {g B A : Nat} {DB DA : DataW Unit} (h : Lo w g B A DB DA) (n p s : Int) (hn : In n) (hp : In p) (hs : In s) (hl : DB.atKey (kl n) (.lit (.int .i64 0)) = .lit (.int .i64 p)) (hl' : DA.atKey (kl n) (.lit (.int .i64 0)) = .lit (.int .i64 s)) (hsb : Maps.size DB ≤ 1999990) (hsa : Maps.size DA ≤ 1999990) :
  Calls Tryz.prog 91 #[.pointer (some ⟨g, 0, none⟩), .int .i64 n] w (joinPost w g B A (DB.put (kl s) (.lit (.int .i64 p))) (DA.put (kl p) (.lit (.int .i64 s)))) := by
 have LK1 : (Instr.lookup 135 (.map (some B)) (.int .i64 n) false).run Tryz.prog w.drew = .ok (.int .i64 p) w.drew := look_run (h.ob.kept (Only.refl (fun _ => False) w).drew (fun h => h)) hn hl
 have LK2 : (Instr.lookup 135 (.map (some A)) (.int .i64 n) false).run Tryz.prog w.drew = .ok (.int .i64 s) w.drew := look_run (h.oa.kept (Only.refl (fun _ => False) w).drew (fun h => h)) hn hl'
 obtain ⟨x0, x1, _⟩ := h.bk.two
 have J1 : Hid (Calls Tryz.prog 83 #[.pointer (some ⟨g, 0, none⟩), .int .i64 p, .int .i64 s] w.drew (joinPost w g B A (DB.put (kl s) (.lit (.int .i64 p))) (DA.put (kl p) (.lit (.int .i64 s))))) := by
  have ho : Only (fun _ => False) w w.drew := (Only.refl (fun _ => False) w).drew
  refine (join_any (h.kept ho (fun h => h) (fun h => h) (fun h => h)) p s hp hs (by omega) (by omega)).mono ?_
  rintro e w' ⟨h1, h2, h3⟩
  exact ⟨h1, h2, (ho.mono fun _ _ hf => hf.elim).trans (h3.mono fun _ _ h => Or.inl h)⟩
 unfold joinPost at J1 ⊢
 clear h hn hp hs hl hl' hsb hsa
 go_enter Tryz.func91, Tryz.ntmps91
 go_still_tail 13, (by kernel_rfl)
 change wpList _ _ _ _ _ w.drew
 go_wp2_with fail
 refine J1.out.mono ?_
 rintro e w2 ⟨rfl, hlo, ho⟩
 have HL2 := Lib.hid hlo; have HO2 := Lib.hid ho
 clear hlo ho J1 LK1 LK2 x0 x1
 go_wp2_with fail
 go_end0
 exact ⟨rfl, HL2.out, HO2.out⟩
end Go.Proofs.YtlmljhnogmfcfaaGreat.Wb
namespace Go.Proofs.YtlmljhnogmfcfaaGreat.Wc
open Go.RowKit Go.Maps Ap Mi Nw Ua Uk Wm Wa

def clonePost (w : World) (D : DataW Unit) : Ending → World → Prop := fun e w' => e = .returned (.map (some w.heap.size)) ∧ Wa.Own w' w.heap.size D ∧ Below w.heap.size w w' ∧ w'.heap.size = w.heap.size + 1
set_option maxRecDepth 100000 in
theorem clone_any {w : World} {b : Nat} {D : DataW Unit} (h : Wa.Own w b D) : Calls Tryz.prog 124 #[.map (some b)] w (clonePost w D) := by
 obtain ⟨es, clock, hb, hfit, hs, hD⟩ := h
 have HP : Hid (clonePost w D (.returned (.map (some w.heap.size))) (w.alloc (.map es clock))) :=
  ⟨rfl, ⟨es, clock, (MapKept.heap_alloc w _).1, hfit, hs, hD⟩, bnew _ _, by simp⟩
 have HB := Lib.hid hb
 have hq := fun w => run_eql_map_nil_sl (P := Tryz.prog) w 135 _ _ (some b) Tryz.underlying135
 clear hb hfit hs hD
 obtain ⟨Q, hQ⟩ : ∃ Q, Q = clonePost w D := ⟨_, rfl⟩
 rw [← hQ] at HP ⊢
 clear hQ
 go_enter Tryz.func124, Tryz.ntmps124
 go_wp2
 rw [run_callFunc_extern (P := Tryz.prog) (f := 158) (fn := Tryz.f158) (by kernel_rfl) (by kernel_rfl) (by kernel_rfl) (by kernel_rfl) (e := Extern.MapsClone.clone) (by kernel_rfl), run_maps_clone_sl w 135 HB.out]
 simp only [Result.andThen]
 rw [Oper.upon_value]
 go_wp2
 rw [run_typeAssert_map_sl _ 135 20 _ _ _ Tryz.underlying135]
 simp only [Result.andThen]
 rw [Oper.upon_value]
 go_wp2
 exact HP.out
end Go.Proofs.YtlmljhnogmfcfaaGreat.Wc
namespace Go.Proofs.YtlmljhnogmfcfaaGreat.Wd
open Go.RowKit Go.Maps Ap Mi Nw Ua Uk Wm Wa Wc

def copyPost (w : World) (DB DA : DataW Unit) : Ending → World → Prop := fun e w' => ∃ g B A, e = .returned (.pointer (some ⟨g, 0, none⟩)) ∧ Lo w' g B A DB DA ∧ w.heap.size ≤ g ∧ w.heap.size ≤ B ∧ w.heap.size ≤ A ∧ Below w.heap.size w w'
theorem copy_end {w0 w1 w2 : World} {DB DA : DataW Unit} (h1 : Wa.Own w1 w0.drew.heap.size DB ∧ Below w0.drew.heap.size w0.drew w1 ∧ w1.heap.size = w0.drew.heap.size + 1) (h2 : Wa.Own w2 w1.heap.size DA ∧ Below w1.heap.size w1 w2 ∧ w2.heap.size = w1.heap.size + 1) :
  copyPost w0 DB DA (.returned (.pointer (some ⟨w2.heap.size, 0, none⟩))) (w2.alloc (.cells #[.map (some w0.heap.size), .map (some w1.heap.size)] 137)) := by
 obtain ⟨a1, a2, a3⟩ := h1
 obtain ⟨b1, b2, b3⟩ := h2
 have a3' : w1.heap.size = w0.heap.size + 1 := a3
 refine ⟨_, _, _, rfl, ⟨Blk.new _ _ _, ?_, ?_, by omega, by omega, by omega⟩, by omega, Nat.le_refl _, by omega, ((Below.refl w0.heap.size w0).drew.trans (a2.trans (b2.mono (by show w0.heap.size ≤ _; omega)))).alloc (by omega) _⟩
 ·exact (a1.kept (Only.of_below b2 (Nat.le_refl _) (fun _ => False)) (fun h => h)).kept ((Only.refl (fun _ => False) _).alloc _) (fun h => h)
 ·exact b1.kept ((Only.refl (fun _ => False) _).alloc _) (fun h => h)
set_option maxRecDepth 100000 in
set_option maxHeartbeats 4000000 in
theorem copy_raw {w : World} {g B A : Nat} {DB DA : DataW Unit} (hlo : Lo w g B A DB DA) : Calls Tryz.prog 79 #[.pointer (some ⟨g, 0, none⟩)] w (copyPost w DB DA) := by
 have HU := Lib.hid (usable_any hlo)
 obtain ⟨x0, x1, _⟩ := hlo.bk.two
 have l0 := hlo.bk.lt
 have CB : Hid (∀ W, Below w.heap.size w W → Calls Tryz.prog 124 #[.map (some B)] W (clonePost W DB)) := fun W hW => clone_any (hlo.ob.kept (Only.of_below hW (Nat.le_refl _) (fun _ => False)) (fun h => h))
 have CA : Hid (∀ W, Below w.heap.size w W → Calls Tryz.prog 124 #[.map (some A)] W (clonePost W DA)) := fun W hW => clone_any (hlo.oa.kept (Only.of_below hW (Nat.le_refl _) (fun _ => False)) (fun h => h))
 unfold clonePost at CA CB
 clear hlo
 go_enter Tryz.func79, Tryz.ntmps79
 go_wp2_with fail
 refine HU.out.mono ?_
 rintro e w0 ⟨rfl, rfl⟩
 go_wp2_with fail
 go_region_with (go_at_call 124; first | (refine (CB.out _ ((Below.refl _ _).drew)).mono ?_; rintro e w1 ⟨rfl, h1, h2, h3⟩; have P1 := Lib.hid (And.intro h1 (And.intro h2 h3)); have y0 := (h2.cell (p := ⟨g, 0, none⟩) l0).trans x0; have y1 := (h2.cell (p := ⟨g, 1, none⟩) l0).trans x1; clear h1 h2 h3) | (refine (CA.out _ ((Below.refl _ _).drew.trans P1.out.2.1)).mono ?_; rintro e w2 ⟨rfl, h1, h2, h3⟩; have P2 := Lib.hid (And.intro h1 (And.intro h2 h3)); clear h1 h2 h3))
 all_goals
  go_wp2_with fail
  go_ret
  exact copy_end P1.out P2.out
end Go.Proofs.YtlmljhnogmfcfaaGreat.Wd
namespace Go.Proofs.YtlmljhnogmfcfaaGreat.Ue
open Go.RowKit Go.Maps Ap Mi Nw Ua Ub Uc Uk Wm Wa Wb Wc

structure Rc (F : Nat → Prop) (w : World) (g : Nat) (L : List Int) : Prop where
 has : ∃ (B A : Nat) (DB DA : DataW Unit) (b a : Int → Int), Lo w g B A DB DA ∧ (F g ∧ F B ∧ F A) ∧ Md DB (pr L) (L.length + 1) b ∧ Md DA (pr L) (L.length + 1) a ∧ Ring a b L
 nd : L.Nodup
 sl : ∀ n ∈ L, Sl n
section
variable {F F' : Nat → Prop} {w w' : World} {g : Nat} {L : List Int}
theorem Lo.lts {w : World} {g B A : Nat} {DB DA : DataW Unit} (h : Lo w g B A DB DA) : g < w.heap.size ∧ B < w.heap.size ∧ A < w.heap.size := ⟨h.bk.lt, h.ob.lt, h.oa.lt⟩
theorem Rc.lt (h : Rc F w g L) : g < w.heap.size := by obtain ⟨B, A, DB, DA, b, a, h1, _⟩ := h.has; exact h1.bk.lt
theorem Rc.inF (h : Rc F w g L) : F g := by obtain ⟨B, A, DB, DA, b, a, _, h1, _⟩ := h.has; exact h1.1
theorem Rc.mono (h : Rc F w g L) (hFG : ∀ j, j < w.heap.size → F j → F' j) : Rc F' w g L := by
 obtain ⟨⟨B, A, DB, DA, b, a, h1, h2, h3⟩, h5, h6⟩ := h
 obtain ⟨l1, l2, l3⟩ := Lo.lts h1
 exact ⟨⟨B, A, DB, DA, b, a, h1, ⟨hFG _ l1 h2.1, hFG _ l2 h2.2.1, hFG _ l3 h2.2.2⟩, h3⟩, h5, h6⟩
theorem Rc.tight (h : Rc F w g L) : Rc (fun j => F j ∧ j < w.heap.size) w g L := h.mono fun _ hj hf => ⟨hf, hj⟩
theorem Rc.only (h : Rc F w g L) (ho : Only F' w w') (hn : ∀ j, F j → ¬ F' j) : Rc F w' g L := by
 obtain ⟨⟨B, A, DB, DA, b, a, h1, h2, h3⟩, h5, h6⟩ := h
 exact ⟨⟨B, A, DB, DA, b, a, h1.kept ho (hn _ h2.1) (hn _ h2.2.1) (hn _ h2.2.2), h2, h3⟩, h5, h6⟩
theorem Rc.below {B : Nat} (h : Rc F w g L) (hb : Below B w w') (hB : w.heap.size ≤ B) : Rc F w' g L :=
 h.only (Only.of_below hb hB (fun _ => False)) (fun _ _ hf => hf)
def wrPost (F : Nat → Prop) (w : World) (g : Nat) (L : List Int) (e0 : Int) : Ending → World → Prop := fun e w' => e = .returned (.int .i64 e0) ∧ Rc (More F w) w' g L ∧ Only F w w'
def mkPost (w : World) (L : List Int) : Ending → World → Prop := fun e w' => ∃ g, e = .returned (.pointer (some ⟨g, 0, none⟩)) ∧ Rc (fun j => w.heap.size ≤ j) w' g L ∧ Below w.heap.size w w'
def lkPost (w : World) (v : Value) : Ending → World → Prop := fun e w' => e = .returned v ∧ Below w.heap.size w w'
theorem lk_same {w : World} {v : Value} {f : Nat} {args : Array Value} (h : Calls Tryz.prog f args w fun e w' => e = .returned v ∧ w' = w) : Calls Tryz.prog f args w (lkPost w v) := by
 refine h.mono ?_
 rintro e w' ⟨rfl, rfl⟩
 exact ⟨rfl, Below.refl _ _⟩
theorem no_m1 (hs : ∀ n ∈ L, Sl n) : (-1 : Int) ∉ L := fun h => by have := (hs _ h).1; omega
theorem pr_in (hs : ∀ n ∈ L, Sl n) {n : Int} (h : n ∈ -1 :: L) : In n := by
 rcases List.mem_cons.1 h with h | h
 ·rw [h]; exact in_m1
 ·exact in_sl (hs _ h)
theorem pr_mem {n : Int} (h : n ∈ -1 :: L) : pr L n := by
 rcases List.mem_cons.1 h with h | h
 ·exact Or.inl h
 ·exact Or.inr h
theorem md_push {DB DA : DataW Unit} {b a : Int → Int} {n p : Int} (hB : Md DB (pr L) (L.length + 1) b) (hA : Md DA (pr L) (L.length + 1) a) (hR : Ring a b L) (hd : L.Nodup) (hs : ∀ n ∈ L, Sl n) (hn : n ∉ L) (hn1 : Sl n) (hp : b (-1) = p) :
  ∃ b' a', Md ((DB.put (kl n) (.lit (.int .i64 p))).put (kl (-1)) (.lit (.int .i64 n))) (pr (L ++ [n])) ((L ++ [n]).length + 1) b' ∧ Md ((DA.put (kl p) (.lit (.int .i64 n))).put (kl n) (.lit (.int .i64 (-1)))) (pr (L ++ [n])) ((L ++ [n]).length + 1) a' ∧ Ring a' b' (L ++ [n]) := by
 have hnm : n ≠ -1 := by have := hn1.1; omega
 have hnp : ¬ pr L n := fun h => h.elim hnm hn
 obtain ⟨hr, hpm⟩ := hR.push hd (no_m1 hs) hn hnm hp
 have e : ∀ m, (m = n ∨ pr L m) ↔ pr (L ++ [n]) m := fun m => by unfold pr; simp only [List.mem_append, List.mem_singleton]; constructor <;> (intro h; rcases h with h | h | h <;> simp [h])
 refine ⟨_, _, ((hB.put_new hnp p).put_old (n := -1) (Or.inr (Or.inl rfl)) n).ext e (by simp) (fun _ _ => rfl), ((hA.put_old (pr_mem hpm) n).put_new hnp (-1)).ext e (by simp) (fun _ _ => rfl), hr⟩
theorem md_again {DB DA : DataW Unit} {b a : Int → Int} {n p : Int} (hB : Md DB (pr L) (L.length + 1) b) (hA : Md DA (pr L) (L.length + 1) a) (hR : Ring a b (wo L n)) (hd : L.Nodup) (hs : ∀ n ∈ L, Sl n) (hn : n ∈ L) (hp : b (-1) = p) :
  ∃ b' a', Md ((DB.put (kl n) (.lit (.int .i64 p))).put (kl (-1)) (.lit (.int .i64 n))) (pr (wo L n ++ [n])) ((wo L n ++ [n]).length + 1) b' ∧ Md ((DA.put (kl p) (.lit (.int .i64 n))).put (kl n) (.lit (.int .i64 (-1)))) (pr (wo L n ++ [n])) ((wo L n ++ [n]).length + 1) a' ∧ Ring a' b' (wo L n ++ [n]) := by
 have hnm : n ≠ -1 := by have := (hs n hn).1; omega
 have hn' : n ∉ wo L n := fun h => (mem_wo.1 h).2 rfl
 have hs' : ∀ m ∈ wo L n, Sl m := fun m h => hs m (mem_wo.1 h).1
 obtain ⟨hr, hpm⟩ := hR.push (hd.sublist (wo_sub L n)) (no_m1 hs') hn' hnm hp
 have e : ∀ m, pr L m ↔ pr (wo L n ++ [n]) m := fun m => by
  unfold pr
  simp only [List.mem_append, List.mem_singleton, mem_wo]
  by_cases h : m = n
  ·subst h; simp [hn]
  ·simp [h]
 have hl := wo_length hd hn
 have hpp : pr L p := by
  rcases List.mem_cons.1 hpm with h | h
  ·exact Or.inl h
  ·exact Or.inr (mem_wo.1 h).1
 refine ⟨_, _, ((hB.put_old (Or.inr hn) p).put_old (n := -1) (Or.inl rfl) n).ext e (by simp; omega) (fun _ _ => rfl), ((hA.put_old hpp n).put_old (Or.inr hn) (-1)).ext e (by simp; omega) (fun _ _ => rfl), hr⟩
theorem md_bridge {DB DA : DataW Unit} {b a : Int → Int} {n p s : Int} (hB : Md DB (pr L) (L.length + 1) b) (hA : Md DA (pr L) (L.length + 1) a) (hR : Ring a b L) (hd : L.Nodup) (hs : ∀ n ∈ L, Sl n) (hn : n ∈ L) (hp : b n = p) (hq : a n = s) :
  ∃ b' a', Md (DB.put (kl s) (.lit (.int .i64 p))) (pr L) (L.length + 1) b' ∧ Md (DA.put (kl p) (.lit (.int .i64 s))) (pr L) (L.length + 1) a' ∧ Ring a' b' (wo L n) ∧ In p ∧ In s := by
 obtain ⟨hr, hpm, hsm⟩ := hR.bridge hd (no_m1 hs) hn hp hq
 exact ⟨_, _, hB.put_old (pr_mem hsm) p, hA.put_old (pr_mem hpm) s, hr, pr_in hs hpm, pr_in hs hsm⟩
theorem md_drop {D : DataW Unit} {b : Int → Int} {n : Int} (hB : Md D (pr L) (L.length + 1) b) (hd : L.Nodup) (hs : ∀ n ∈ L, Sl n) (hn : n ∈ L) : Md (D.del (kl n)) (pr (wo L n)) ((wo L n).length + 1) b := by
 have hl := wo_length hd hn
 have hnm : n ≠ -1 := by have := (hs n hn).1; omega
 have h := Md.del (k := (wo L n).length + 1) (by rw [hl]; exact hB) (n := n) (Or.inr hn)
 refine h.ext (fun m => ?_) rfl (fun _ _ => rfl)
 unfold pr
 rw [mem_wo]
 by_cases e : m = -1
 ·subst e; simp; exact fun h => hnm h.symm
 ·simp [e]
end
section
variable {F : Nat → Prop} {w : World} {g : Nat} {L : List Int}
set_option maxRecDepth 100000 in
theorem new_any (w : World) : Calls Tryz.prog 43 #[] w (mkPost w []) := by
 have hmm := @run_makeMap Tryz.prog
 obtain ⟨v, hv⟩ : ∃ v, v = ((w.alloc (.map #[] 0)).alloc (.map #[] 0)).alloc (.cells #[.map (some w.heap.size), .map (some (w.heap.size + 1))] 137) := ⟨_, rfl⟩
 have HB : Hid (Below w.heap.size w v) := by show Below _ _ _; rw [hv]; exact ((bnew w _).alloc (by simp) _).alloc (by simp; omega) _
 have HL : Hid (Lo v (w.heap.size + 1 + 1) w.heap.size (w.heap.size + 1) (.map []) (.map [])) := by
  have e1 : ((w.alloc (.map #[] 0)).alloc (.map #[] 0)).heap.size = w.heap.size + 1 + 1 := by simp
  have e0 : (w.alloc (.map #[] 0)).heap.size = w.heap.size + 1 := by simp
  refine ⟨?_, ?_, ?_, by omega, by omega, by omega⟩
  ·have := Blk.new ((w.alloc (.map #[] 0)).alloc (.map #[] 0)) #[.map (some w.heap.size), .map (some (w.heap.size + 1))] 137
   rw [e1] at this; rw [hv]; exact this
  ·rw [hv]
   exact Own.of (((made w).kept ((Only.refl (fun _ => False) _).alloc _) (fun h => h)).kept ((Only.refl (fun _ => False) _).alloc _) (fun h => h))
  ·have := made (w.alloc (.map #[] 0))
   rw [e0] at this
   rw [hv]
   exact Own.of (this.kept ((Only.refl (fun _ => False) _).alloc _) (fun h => h))
 have HJ := Lib.hid (join_any HL.out (-1) (-1) in_m1 in_m1 (by show 0 ≤ 2000000; omega) (by show 0 ≤ 2000000; omega))
 unfold joinPost at HJ
 unfold mkPost
 go_enter Tryz.func43, Tryz.ntmps43
 go_wp2_with fail
 rw [← hv]
 clear hv hmm
 refine HJ.out.mono ?_
 rintro e w1 ⟨rfl, hlo, ho⟩
 have HO := Lib.hid hlo
 have HB1 : Hid (Below w.heap.size w w1) := HB.out.trans (ho.below (fun j hj => by rcases hj with hj | hj <;> omega) HB.out.size)
 clear hlo ho HJ
 go_wp2_with fail
 go_ret
 refine ⟨_, rfl, ⟨⟨_, _, _, _, upd id (-1) (-1), upd id (-1) (-1), HO.out, ⟨by show _ ≤ _; omega, Nat.le_refl _, by omega⟩, ?_, ?_, ring_nil⟩, List.Pairwise.nil, by simp⟩, HB1.out⟩
 ·exact ((md_nil (f := id)).put_new (fun h => h) (-1)).ext (fun m => by unfold pr; simp) rfl (fun _ _ => rfl)
 ·exact ((md_nil (f := id)).put_new (fun h => h) (-1)).ext (fun m => by unfold pr; simp) rfl (fun _ _ => rfl)
theorem Rc.sizes (h : Rc F w g L) : L.length ≤ 1048576 := slots_len h.nd h.sl
set_option maxRecDepth 100000 in
theorem add_any (h : Rc F w g L) (n : Int) : Calls Tryz.prog 107 #[.pointer (some ⟨g, 0, none⟩), .int .i64 n] w (wrPost F w g (addT L n) (addN L n)) := by
 have hz := h.sizes
 have HR := Lib.hid h
 obtain ⟨⟨B, A, DB, DA, b, a, hlo, hF, hB, hA, hR⟩, hd, hs⟩ := h
 have HK := Lib.hid (look_any hlo hA n)
 unfold wrPost
 by_cases hsl : Sl n
 ·by_cases hl : n ∈ L
  ·have e1 : lokB L n = true := by unfold lokB; simp [hsl, hl]
   have e2 : lokN n = 0 := by unfold lokN; rw [if_pos hsl]
   have e3 : addN L n = 11 := by unfold addN; rw [if_neg (by simpa using hsl), if_pos hl]
   have e4 : addT L n = L := by unfold addT; rw [if_neg (fun h => h.2 hl)]
   rw [e1, e2] at HK
   rw [e3, e4]
   clear e1 e2 e3 e4 hsl hl hlo hF hB hA hR hd hs hz
   go_enter Tryz.func107, Tryz.ntmps107
   go_wp2_with fail
   refine HK.out.mono ?_
   rintro e w1 ⟨rfl, rfl⟩
   go_wp2_with fail
   go_ret
   exact ⟨rfl, HR.out.mono fun _ _ h => Or.inl h, Only.refl _ _⟩
  ·have e1 : lokB L n = false := by unfold lokB; simp [hl]
   have e2 : lokN n = 0 := by unfold lokN; rw [if_pos hsl]
   have e3 : addN L n = 0 := by unfold addN; rw [if_neg (by simpa using hsl), if_neg hl]
   have e4 : addT L n = L ++ [n] := by unfold addT; rw [if_pos ⟨hsl, hl⟩]
   rw [e1, e2] at HK
   rw [e3, e4]
   obtain ⟨p, hp⟩ : ∃ p, b (-1) = p := ⟨_, rfl⟩
   have hpi : In p := pr_in hs (hR.push hd (no_m1 hs) hl (by have := hsl.1; omega) hp).2
   have HM := Lib.hid (md_push hB hA hR hd hs hl hsl hp)
   have HP := Lib.hid (push_any hlo n p (in_sl hsl) hpi (by rw [hB.val (-1) (Or.inl rfl), hp]) (by rw [hB.sz]; omega) (by rw [hA.sz]; omega))
   unfold joinPost at HP
   have HN : Hid ((L ++ [n]).Nodup ∧ ∀ m ∈ L ++ [n], Sl m) := ⟨List.nodup_append.2 ⟨hd, by simp, fun a ha b hb e => hl (by rw [List.mem_singleton.1 hb] at e; rw [← e]; exact ha)⟩, fun m hm => by
    rcases List.mem_append.1 hm with h | h
    ·exact hs m h
    ·rw [List.mem_singleton.1 h]; exact hsl⟩
   have HF := Lib.hid hF
   clear e1 e2 e3 e4 hsl hl hlo hF hB hA hR hd hs hz hp hpi
   go_enter Tryz.func107, Tryz.ntmps107
   go_wp2_with fail
   refine HK.out.mono ?_
   rintro e w1 ⟨rfl, rfl⟩
   go_wp2_with fail
   refine HP.out.mono ?_
   rintro e w2 ⟨rfl, hlo, ho⟩
   have HL2 := Lib.hid hlo; have HO2 := Lib.hid ho
   clear hlo ho HP HK
   go_wp2_with fail
   go_ret
   obtain ⟨b', a', m1, m2, m3⟩ := HM.out
   exact ⟨rfl, ⟨⟨B, A, _, _, b', a', HL2.out, ⟨Or.inl HF.out.1, Or.inl HF.out.2.1, Or.inl HF.out.2.2⟩, m1, m2, m3⟩, HN.out.1, HN.out.2⟩, HO2.out.mono fun j _ hj => by
    rcases hj with hj | hj
    ·rw [hj]; exact HF.out.2.1
    ·rw [hj]; exact HF.out.2.2⟩
 ·have e1 : lokB L n = false := by unfold lokB; simp [hsl]
  have e2 : lokN n = 2 := by unfold lokN; rw [if_neg hsl]
  have e3 : addN L n = 2 := by unfold addN; rw [if_pos hsl]
  have e4 : addT L n = L := by unfold addT; rw [if_neg (fun h => hsl h.1)]
  rw [e1, e2] at HK
  rw [e3, e4]
  clear e1 e2 e3 e4 hsl hlo hF hB hA hR hd hs hz
  go_enter Tryz.func107, Tryz.ntmps107
  go_wp2_with fail
  refine HK.out.mono ?_
  rintro e w1 ⟨rfl, rfl⟩
  go_wp2_with fail
  go_ret
  exact ⟨rfl, HR.out.mono fun _ _ h => Or.inl h, Only.refl _ _⟩
theorem rem_cases (L : List Int) (n : Int) (h : ¬ (Sl n ∧ n ∈ L)) : remT L n = L ∧ useT L n = L ∧ (remN L n != 0) = true := by
 refine ⟨by unfold remT; rw [if_neg h], by unfold useT; rw [if_neg h], ?_⟩
 unfold remN
 by_cases h1 : Sl n
 ·rw [if_neg (by simpa using h1), if_neg (fun h2 => h ⟨h1, h2⟩)]; rfl
 ·rw [if_pos h1]; rfl
theorem need_rc (h : Rc F w g L) (n : Int) : Calls Tryz.prog 90 #[.pointer (some ⟨g, 0, none⟩), .int .i64 n] w fun e w' => e = .returned (.int .i64 (remN L n)) ∧ w' = w := by
 obtain ⟨⟨B, A, DB, DA, b, a, hlo, hF, hB, hA, hR⟩, hd, hs⟩ := h
 exact need_any hlo hA n
def brPost (F : Nat → Prop) (w : World) (n : Int) (gg : Nat) (L : List Int) : Ending → World → Prop := fun e w' => e = .returned (.tuple #[]) ∧ (∃ (B A : Nat) (DB DA : DataW Unit) (b a : Int → Int), Lo w' gg B A DB DA ∧ (F gg ∧ F B ∧ F A) ∧ Md DB (pr L) (L.length + 1) b ∧ Md DA (pr L) (L.length + 1) a ∧ Ring a b (wo L n)) ∧ Only F w w'
theorem bridge_rc (h : Rc F w g L) (n : Int) (hn : n ∈ L) : Calls Tryz.prog 91 #[.pointer (some ⟨g, 0, none⟩), .int .i64 n] w (brPost F w n g L) := by
 have hz := h.sizes
 obtain ⟨⟨B, A, DB, DA, b, a, hlo, hF, hB, hA, hR⟩, hd, hs⟩ := h
 obtain ⟨b', a', m1, m2, m3, hp, hq⟩ := md_bridge hB hA hR hd hs hn rfl rfl
 refine (bridge_any hlo n (b n) (a n) (in_sl (hs n hn)) hp hq (hB.val n (Or.inr hn)) (hA.val n (Or.inr hn)) (by rw [hB.sz]; omega) (by rw [hA.sz]; omega)).mono ?_
 rintro e w' ⟨rfl, hlo', ho⟩
 refine ⟨rfl, ⟨B, A, _, _, b', a', hlo', hF, m1, m2, m3⟩, ho.mono fun j _ hj => ?_⟩
 rcases hj with hj | hj
 ·rw [hj]; exact hF.2.1
 ·rw [hj]; exact hF.2.2
def wrS (F : Nat → Prop) (w : World) (g : Nat) (L : List Int) (e0 : Int) : Ending → World → Prop := fun e w' => e = .returned (.int .i64 e0) ∧ Rc F w' g L ∧ Only F w w'
theorem wrS_any {F : Nat → Prop} {w : World} {g f : Nat} {L : List Int} {e0 : Int} {args : Array Value} (h : Calls Tryz.prog f args w (wrS F w g L e0)) : Calls Tryz.prog f args w (wrPost F w g L e0) := by
 refine h.mono ?_
 rintro e w' ⟨rfl, h1, h2⟩
 exact ⟨rfl, h1.mono fun _ _ h => Or.inl h, h2⟩
set_option maxRecDepth 100000 in
theorem use_str (h : Rc F w g L) (n : Int) : Calls Tryz.prog 63 #[.pointer (some ⟨g, 0, none⟩), .int .i64 n] w (wrS F w g (useT L n) (remN L n)) := by
 have hz := h.sizes
 have HR := Lib.hid h
 have HK := Lib.hid (need_rc h n)
 unfold wrS
 by_cases hsl : Sl n ∧ n ∈ L
 ·have e3 : remN L n = 0 := by unfold remN; rw [if_neg (by simpa using hsl.1), if_pos hsl.2]
  have e4 : useT L n = wo L n ++ [n] := by unfold useT; rw [if_pos hsl]
  rw [e3] at HK
  rw [e3, e4]
  have HG := Lib.hid (bridge_rc h n hsl.2)
  unfold brPost at HG
  have HNL := Lib.hid hsl
  have HZ := Lib.hid hz
  clear e3 e4 hsl hz h
  go_enter Tryz.func63, Tryz.ntmps63
  go_wp2_with fail
  refine HK.out.mono ?_
  rintro e w1 ⟨rfl, rfl⟩
  go_wp2_with fail
  refine HG.out.mono ?_
  rintro e w2 ⟨rfl, hbr, ho⟩
  have HO2 := Lib.hid ho
  clear ho HG HK
  obtain ⟨B, A, DB, DA, b, a, hlo, hF, hB, hA, hR⟩ := hbr
  obtain ⟨p, hp⟩ : ∃ p, b (-1) = p := ⟨_, rfl⟩
  have hd := HR.out.nd; have hs := HR.out.sl
  have hs' : ∀ m ∈ wo L n, Sl m := fun m h => hs m (mem_wo.1 h).1
  have hpi : In p := pr_in hs' (hR.push (hd.sublist (wo_sub L n)) (no_m1 hs') (fun h => (mem_wo.1 h).2 rfl) (by have := HNL.out.1.1; omega) hp).2
  have HM := Lib.hid (md_again hB hA hR hd hs HNL.out.2 hp)
  have HP := Lib.hid (push_any hlo n p (in_sl HNL.out.1) hpi (by rw [hB.val (-1) (Or.inl rfl), hp]) (by rw [hB.sz]; have := HZ.out; omega) (by rw [hA.sz]; have := HZ.out; omega))
  unfold joinPost at HP
  have HN : Hid ((wo L n ++ [n]).Nodup ∧ ∀ m ∈ wo L n ++ [n], Sl m) := ⟨List.nodup_append.2 ⟨hd.sublist (wo_sub L n), by simp, fun a ha b hb e => by rw [List.mem_singleton.1 hb] at e; exact (mem_wo.1 ha).2 e⟩, fun m hm => by
   rcases List.mem_append.1 hm with h | h
   ·exact hs' m h
   ·rw [List.mem_singleton.1 h]; exact HNL.out.1⟩
  have HF := Lib.hid hF
  clear hlo hF hB hA hR hd hs hs' hp hpi
  go_wp2_with fail
  refine HP.out.mono ?_
  rintro e w3 ⟨rfl, hlo, ho⟩
  have HL3 := Lib.hid hlo; have HO3 := Lib.hid ho
  clear hlo ho HP
  go_wp2_with fail
  go_ret
  obtain ⟨b', a', m1, m2, m3⟩ := HM.out
  exact ⟨rfl, ⟨⟨B, A, _, _, b', a', HL3.out, HF.out, m1, m2, m3⟩, HN.out.1, HN.out.2⟩, HO2.out.trans (HO3.out.mono fun j _ hj => by
   rcases hj with hj | hj
   ·rw [hj]; exact Or.inl HF.out.2.1
   ·rw [hj]; exact Or.inl HF.out.2.2)⟩
 ·obtain ⟨_, e2, e3⟩ := rem_cases L n hsl
  rw [e2]
  obtain ⟨x, hx⟩ : ∃ x, x = remN L n := ⟨_, rfl⟩
  rw [← hx] at HK e3 ⊢
  clear hx e2 hsl h hz
  go_enter Tryz.func63, Tryz.ntmps63
  go_wp2_with fail
  refine HK.out.mono ?_
  rintro e w1 ⟨rfl, rfl⟩
  go_wp2_with fail
  go_ret
  exact ⟨rfl, HR.out, Only.refl _ _⟩
set_option maxRecDepth 100000 in
theorem remove_str (h : Rc F w g L) (n : Int) : Calls Tryz.prog 96 #[.pointer (some ⟨g, 0, none⟩), .int .i64 n] w (wrS F w g (remT L n) (remN L n)) := by
 have hz := h.sizes
 have HR := Lib.hid h
 have HK := Lib.hid (need_rc h n)
 unfold wrS
 by_cases hsl : Sl n ∧ n ∈ L
 ·have e3 : remN L n = 0 := by unfold remN; rw [if_neg (by simpa using hsl.1), if_pos hsl.2]
  have e4 : remT L n = wo L n := by unfold remT; rw [if_pos hsl]
  rw [e3] at HK
  rw [e3, e4]
  have HG := Lib.hid (bridge_rc h n hsl.2)
  unfold brPost at HG
  have HNL := Lib.hid hsl
  clear e3 e4 hsl hz h
  go_enter Tryz.func96, Tryz.ntmps96
  go_wp2_with fail
  refine HK.out.mono ?_
  rintro e w1 ⟨rfl, rfl⟩
  go_wp2_with fail
  refine HG.out.mono ?_
  rintro e w2 ⟨rfl, hbr, ho⟩
  have HO2 := Lib.hid ho
  clear ho HG HK
  obtain ⟨B, A, DB, DA, b, a, hlo, hF, hB, hA, hR⟩ := hbr
  have hd := HR.out.nd; have hs := HR.out.sl
  have HMB := Lib.hid (md_drop hB hd hs HNL.out.2); have HMA := Lib.hid (md_drop hA hd hs HNL.out.2)
  have HF := Lib.hid hF; have HL := Lib.hid hlo; have HRG := Lib.hid hR
  have HN : Hid ((wo L n).Nodup ∧ ∀ m ∈ wo L n, Sl m) := ⟨hd.sublist (wo_sub L n), fun m h => hs m (mem_wo.1 h).1⟩
  obtain ⟨x0, x1, _⟩ := hlo.bk.two
  clear hlo hF hB hA hR hd hs
  obtain ⟨DB', hDB⟩ : ∃ D, D = DB.del (kl n) := ⟨_, rfl⟩
  obtain ⟨DA', hDA⟩ : ∃ D, D = DA.del (kl n) := ⟨_, rfl⟩
  rw [← hDB] at HMB; rw [← hDA] at HMA
  have HDA := Lib.hid hDA; have HDB := Lib.hid hDB
  clear hDA hDB
  go_upto_region 6 with (at_delete; refine to_del _ rfl _ _ rfl B DB rfl HL.out.ob n (in_sl HNL.out.1) rfl ?_; rw [← HDB.out]; intro w3 hw3 ho3; have HO3 := Lib.hid ho3; have HW3 := Lib.hid hw3; have HK3 := Lib.hid (HL.out.bk.only ho3 HL.out.gb); have HA3 := Lib.hid (HL.out.oa.kept ho3 (fun e => HL.out.ba e.symm)); obtain ⟨y0, y1, _⟩ := HK3.out.two; clear ho3 hw3 x0 x1)
  go_wp2_with (at_delete; refine to_del _ rfl _ _ rfl A DA rfl HA3.out n (in_sl HNL.out.1) rfl ?_; rw [← HDA.out]; intro w4 hw4 ho4; have HO4 := Lib.hid ho4; have HW4 := Lib.hid hw4; clear ho4 hw4)
  go_ret
  exact ⟨rfl, ⟨⟨B, A, DB', DA', b, a, ⟨HK3.out.only HO4.out HL.out.ga, HW3.out.kept HO4.out HL.out.ba, HW4.out, HL.out.ba, HL.out.gb, HL.out.ga⟩, HF.out, HMB.out, HMA.out, HRG.out⟩, HN.out.1, HN.out.2⟩, (HO2.out.trans (HO3.out.mono fun j _ hj => Or.inl (by rw [hj]; exact HF.out.2.1))).trans (HO4.out.mono fun j _ hj => Or.inl (by rw [hj]; exact HF.out.2.2))⟩
 ·obtain ⟨e2, _, e3⟩ := rem_cases L n hsl
  rw [e2]
  obtain ⟨x, hx⟩ : ∃ x, x = remN L n := ⟨_, rfl⟩
  rw [← hx] at HK e3 ⊢
  clear hx e2 hsl h hz
  go_enter Tryz.func96, Tryz.ntmps96
  go_wp2_with fail
  refine HK.out.mono ?_
  rintro e w1 ⟨rfl, rfl⟩
  go_wp2_with fail
  go_ret
  exact ⟨rfl, HR.out, Only.refl _ _⟩
theorem use_any (h : Rc F w g L) (n : Int) : Calls Tryz.prog 63 #[.pointer (some ⟨g, 0, none⟩), .int .i64 n] w (wrPost F w g (useT L n) (remN L n)) := wrS_any (use_str h n)
theorem remove_any (h : Rc F w g L) (n : Int) : Calls Tryz.prog 96 #[.pointer (some ⟨g, 0, none⟩), .int .i64 n] w (wrPost F w g (remT L n) (remN L n)) := wrS_any (remove_str h n)
theorem usable_rc (h : Rc F w g L) : Calls Tryz.prog 123 #[.pointer (some ⟨g, 0, none⟩)] w fun e w' => e = .returned (.bool true) ∧ w' = w := by
 obtain ⟨⟨B, A, DB, DA, b, a, hlo, hF, hB, hA, hR⟩, hd, hs⟩ := h
 exact usable_any hlo
theorem first_rc (h : Rc F w g L) : Calls Tryz.prog 137 #[.pointer (some ⟨g, 0, none⟩), .int .i64 (-1), .int .i64 9] w fun e w' => e = .returned (.tuple #[.int .i64 (oldV L), .int .i64 (oldN L)]) ∧ w' = w := by
 obtain ⟨⟨B, A, DB, DA, b, a, hlo, hF, hB, hA, hR⟩, hd, hs⟩ := h
 refine follow_any hlo (-1) 9 (a (-1)) _ _ in_m1 (hA.val _ (Or.inl rfl)) ?_ ?_
 ·rw [hR.first]
  cases L with
  | nil => rfl
  | cons x r =>
   have hx : x ≠ -1 := by have := (hs x (by simp)).1; omega
   show (if x = -1 then 0 else x) = x
   rw [if_neg hx]
 ·rw [hR.first]
  cases L with
  | nil => rfl
  | cons x r =>
   have hx : x ≠ -1 := by have := (hs x (by simp)).1; omega
   show (if x = -1 then (9 : Int) else 0) = oldN (x :: r)
   rw [if_neg hx]; unfold oldN; simp
theorem next_rc (h : Rc F w g L) (n : Int) (hn : n ∈ L) : Calls Tryz.prog 137 #[.pointer (some ⟨g, 0, none⟩), .int .i64 n, .int .i64 16] w fun e w' => e = .returned (.tuple #[.int .i64 (nextV L n), .int .i64 (nextN L n)]) ∧ w' = w := by
 obtain ⟨⟨B, A, DB, DA, b, a, hlo, hF, hB, hA, hR⟩, hd, hs⟩ := h
 obtain ⟨k, hk, rfl⟩ := List.getElem_of_mem hn
 have hr := hR.next hk
 have e : (if a L[k] = -1 then 0 else a L[k]) = nextV L L[k] ∧ (if a L[k] = -1 then 16 else 0) = nextN L L[k] := by
  by_cases h1 : k + 1 < L.length
  ·obtain ⟨e1, e2⟩ := next_mid hd hs h1
   rw [e1, e2, hr, dif_pos h1]
   have hx : L[k + 1] ≠ -1 := by have := (hs _ (List.getElem_mem h1)).1; omega
   rw [if_neg hx, if_neg hx]; exact ⟨rfl, rfl⟩
  ·obtain ⟨e1, e2⟩ := next_end hd hs (show k + 1 = L.length by omega)
   rw [e1, e2, hr, dif_neg h1]
   exact ⟨rfl, rfl⟩
 exact follow_any hlo L[k] 16 (a L[k]) _ _ (in_sl (hs _ hn)) (hA.val _ (Or.inr hn)) e.1 e.2
set_option maxRecDepth 100000 in
theorem oldest_same (h : Rc F w g L) : Calls Tryz.prog 103 #[.pointer (some ⟨g, 0, none⟩)] w fun e w' => e = .returned (.tuple #[.int .i64 (oldV L), .int .i64 (oldN L)]) ∧ w' = w := by
 have HU := Lib.hid (usable_rc h)
 have HF := Lib.hid (first_rc h)
 obtain ⟨x, hx⟩ : ∃ x, x = oldV L := ⟨_, rfl⟩
 obtain ⟨y, hy⟩ : ∃ y, y = oldN L := ⟨_, rfl⟩
 rw [← hx, ← hy] at HF ⊢
 clear hx hy h
 go_enter Tryz.func103, Tryz.ntmps103
 go_wp2_with fail
 refine HU.out.mono ?_
 rintro e w1 ⟨rfl, rfl⟩
 go_wp2_with fail
 refine HF.out.mono ?_
 rintro e w1 ⟨rfl, rfl⟩
 go_wp2_with fail
 go_ret2
 exact ⟨rfl, rfl⟩
set_option maxRecDepth 100000 in
theorem next_same (h : Rc F w g L) (n : Int) : Calls Tryz.prog 161 #[.pointer (some ⟨g, 0, none⟩), .int .i64 n] w fun e w' => e = .returned (.tuple #[.int .i64 (nextV L n), .int .i64 (nextN L n)]) ∧ w' = w := by
 have HK := Lib.hid (need_rc h n)
 by_cases hsl : Sl n ∧ n ∈ L
 ·have e3 : remN L n = 0 := by unfold remN; rw [if_neg (by simpa using hsl.1), if_pos hsl.2]
  rw [e3] at HK
  have HF := Lib.hid (next_rc h n hsl.2)
  obtain ⟨x, hx⟩ : ∃ x, x = nextV L n := ⟨_, rfl⟩
  obtain ⟨y, hy⟩ : ∃ y, y = nextN L n := ⟨_, rfl⟩
  rw [← hx, ← hy] at HF ⊢
  clear hx hy h e3 hsl
  go_enter Tryz.func161, Tryz.ntmps161
  go_wp2_with fail
  refine HK.out.mono ?_
  rintro e w1 ⟨rfl, rfl⟩
  go_wp2_with fail
  refine HF.out.mono ?_
  rintro e w1 ⟨rfl, rfl⟩
  go_wp2_with fail
  go_ret2
  exact ⟨rfl, rfl⟩
 ·obtain ⟨_, _, e3⟩ := rem_cases L n hsl
  have e4 : nextN L n = remN L n := by
   unfold nextN remN
   by_cases h1 : Sl n
   ·have h2 : n ∉ L := fun h2 => hsl ⟨h1, h2⟩
    rw [if_neg (show ¬ ¬ Sl n from fun h => h h1), if_pos h2, if_neg (show ¬ ¬ Sl n from fun h => h h1), if_neg h2]
   ·rw [if_pos h1, if_pos h1]
  have e5 : nextV L n = 0 := by unfold nextV; rw [e4, if_neg (by simpa using e3)]
  rw [e4, e5]
  obtain ⟨x, hx⟩ : ∃ x, x = remN L n := ⟨_, rfl⟩
  rw [← hx] at HK e3 ⊢
  clear hx e4 e5 hsl h
  go_enter Tryz.func161, Tryz.ntmps161
  go_wp2_with fail
  refine HK.out.mono ?_
  rintro e w1 ⟨rfl, rfl⟩
  go_wp2_with fail
  go_ret2
  exact ⟨rfl, rfl⟩
theorem next_any (h : Rc F w g L) (n : Int) : Calls Tryz.prog 161 #[.pointer (some ⟨g, 0, none⟩), .int .i64 n] w (lkPost w (.tuple #[.int .i64 (nextV L n), .int .i64 (nextN L n)])) := lk_same (next_same h n)
theorem len_same (h : Rc F w g L) : Calls Tryz.prog 160 #[.pointer (some ⟨g, 0, none⟩)] w fun e w' => e = .returned (.int .i64 (L.length : Int)) ∧ w' = w := by
 have HU := Lib.hid (usable_rc h)
 have hz := h.sizes
 obtain ⟨⟨B, A, DB, DA, b, a, hlo, hF, hB, hA, hR⟩, hd, hs⟩ := h
 have hml : (Builtin.len_ #[135] 3 #[.map (some A)]).run Tryz.prog w = .ok (.int .i64 ((L.length + 1 : Nat) : Int)) w := by
  have := World.ownsMap.len hlo.oa Tryz.underlying135 3
  rw [hA.sz] at this; exact this
 obtain ⟨x0, x1, _⟩ := hlo.bk.two
 have hzi : (L.length : Int) ≤ 1048576 := by omega
 clear hlo hF hB hA hR hd hs hz
 go_enter Tryz.func160, Tryz.ntmps160
 go_wp2_with fail
 refine HU.out.mono ?_
 rintro e w1 ⟨rfl, rfl⟩
 go_wp2_with fail
 go_ret
 exact ⟨retI (by first | (simp; done) | omega | (simp; omega)), rfl⟩
end
def ev (L : List Int) (j : Nat) : Int := if j < L.length then 0 else if L.length = 0 then 9 else 16
theorem ev_old (L : List Int) : oldV L = L.getD 0 0 ∧ oldN L = ev L 0 := by
 cases L with
 | nil => exact ⟨rfl, rfl⟩
 | cons x r => exact ⟨rfl, by unfold oldN ev; simp⟩
theorem ev_next {L : List Int} (hd : L.Nodup) (hs : ∀ n ∈ L, Sl n) {j : Nat} (hj : j < L.length) : nextV L (L.getD j 0) = L.getD (j + 1) 0 ∧ nextN L (L.getD j 0) = ev L (j + 1) := by
 have e : L.getD j 0 = L[j] := by rw [List.getD_eq_getElem?_getD, List.getElem?_eq_getElem hj]; rfl
 rw [e]
 by_cases h : j + 1 < L.length
 ·obtain ⟨h1, h2⟩ := next_mid hd hs h
  rw [h1, h2]
  exact ⟨by rw [List.getD_eq_getElem?_getD, List.getElem?_eq_getElem h]; rfl, by unfold ev; rw [if_pos h]⟩
 ·have h' : j + 1 = L.length := by omega
  obtain ⟨h1, h2⟩ := next_end hd hs h'
  rw [h1, h2]
  exact ⟨by rw [List.getD_eq_getElem?_getD, List.getElem?_eq_none (by omega)]; rfl, by unfold ev; rw [if_neg h, if_neg (by omega)]⟩
theorem make_list (n : Nat) (w : World) (h : n ≤ 1048576) : ∃ w1, (Instr.makeSlice 129 (.int .i64 0) (.int .i64 (n : Int))).run Tryz.prog w = .ok (.slice (some ⟨w.heap.size, 0, none⟩) 0 n) w1 ∧ Mine w.heap.size 1 w1 (some ⟨w.heap.size, 0, none⟩) 0 n [] ∧ w.grownBy w1 none := by
 obtain ⟨i, hi1, hz0, hz1, hz2⟩ := info_parts info_int
 obtain ⟨w1, h1, h2, h3⟩ := run_make_own (P := Tryz.prog) w w.heap.size 129 3 i (.int .i64 0) 1 Tryz.underlying129 hi1 hz0 hz1 .i64 .i64 n (by rw [hz2]; omega) (by unfold maxLen; omega) (Nat.le_refl _)
 obtain ⟨A', c', e, hm, _⟩ := Mine.of_own h2
 injection e with e1 e2 e3
 subst e1; subst e3
 exact ⟨w1, h1, hm, h3⟩
def listPost (w : World) (L : List Int) : Ending → World → Prop := fun e w' => ∃ A c, e = .returned (.slice A L.length c) ∧ Mine w.heap.size 1 w' A L.length c (iv L) ∧ Below w.heap.size w w'
section
variable {F : Nat → Prop} {w : World} {g : Nat} {L : List Int}
set_option maxRecDepth 100000 in
set_option maxHeartbeats 1000000 in
theorem list_any (h : Rc F w g L) : Calls Tryz.prog 127 #[.pointer (some ⟨g, 0, none⟩)] w (listPost w L) := by
 have HLN := Lib.hid (len_same h)
 have HRC := Lib.hid h
 have hz := h.sizes
 have hzi : (L.length : Int) ≤ 1048576 := by omega
 obtain ⟨w1, hmk, hm, hg⟩ := make_list L.length w hz
 have B1 : Hid (Below w.heap.size w w1) := (Below.refl _ w).grown hg (Nat.le_refl _) (fun j e => by cases e)
 have M1 := Lib.hid hm
 have H1 := Lib.hid (h.below B1.out (Nat.le_refl _))
 have hz1 := B1.out.size
 have OL := Lib.hid (oldest_same H1.out)
 rw [(ev_old L).1, (ev_old L).2] at OL
 unfold listPost
 clear h hm hg
 go_enter Tryz.func127, Tryz.ntmps127
 go_wp2_with fail
 refine HLN.out.mono ?_
 rintro e w0 ⟨rfl, rfl⟩
 go_wp2_with fail
 refine OL.out.mono ?_
 rintro e w2 ⟨rfl, rfl⟩
 clear hmk HLN OL
 go_wp2_with fail
 go_loopw [3, 4, 5] (fun v x e wr => ∃ (j : Nat) (X : Option Addr) (d : Nat), j ≤ L.length ∧ v = .slice X j d ∧ x = .int .i64 (L.getD j 0) ∧ e = .int .i64 (ev L j) ∧ Mine w0.heap.size 1 wr X j d (iv (L.take j)) ∧ Below w0.heap.size w0 wr) (fun v _ _ _ => match v with | .slice _ j _ => L.length - j | _ => 0)
 case atStart => exact ⟨0, _, _, Nat.zero_le _, rfl, rfl, rfl, M1.out, B1.out⟩
 case round =>
  obtain ⟨j, X, d, hj, rfl, rfl, rfl, hm, hb⟩ := hrel
  have MM := Lib.hid hm; have BB := Lib.hid hb
  have HHr := Lib.hid (HRC.out.below hb (Nat.le_refl _))
  have hzr := hb.size
  clear hm hb
  by_cases hlt : j < L.length
  ·have ee : ev L j = 0 := if_pos hlt
   obtain ⟨x, hx⟩ : ∃ x, x = L.getD j 0 := ⟨_, rfl⟩
   have EN := Lib.hid (ev_next HHr.out.nd HHr.out.sl hlt)
   have TK : Hid (L.take (j + 1) = L.take j ++ [x]) := by show _ = _; rw [List.take_succ_eq_append_getElem hlt, hx, List.getD_eq_getElem?_getD, List.getElem?_eq_getElem hlt]; rfl
   rw [ee, ← hx]
   rw [← hx] at EN
   clear ee hx
   go_wp2_with (at_builtin; (refine wpList_mine rfl _ _ elI _ rfl rfl (MM.out.below (bnew wr (.cells #[.int .i64 x] 3)) (Nat.le_refl _)) _ rfl 1 _ (src_lit Tryz.underlying129 #[.int .i64 x] 1 1 rfl (by simp [Value.oneCell'])) (by omega) (by omega) (by simp; omega) ?_))
   intro A5 c5 w5 m5 g5 _
   have M5 : Hid (Mine w0.heap.size 1 w5 A5 (j + 1) c5 (iv (L.take (j + 1)))) := by
    show Mine _ _ _ _ _ _ _
    rw [TK.out, iv_snoc]; exact m5
   have BB5 : Hid (Below w0.heap.size w0 w5) := (BB.out.trans ((bnew wr (.cells #[.int .i64 x] 3)).mono (by omega))).trans ((only_row (F := fun j => w0.heap.size ≤ j) g5 (fun a ha => (MM.out.base ha).1)).below (fun _ h => h) (by simp; omega))
   have HH5 := Lib.hid (HRC.out.below BB5.out (Nat.le_refl _))
   have NX := Lib.hid (next_same HH5.out x)
   rw [EN.out.1, EN.out.2] at NX
   clear m5 g5
   go_wp2_with fail
   refine NX.out.mono ?_
   rintro r w6 ⟨rfl, rfl⟩
   clear NX
   go_wp2_with fail
   go_roundw
   case rel => exact ⟨j + 1, A5, c5, by omega, by first | rfl | go_num, rfl, rfl, M5.out, BB5.out⟩
   case measure => simp; omega
  ·obtain rfl : j = L.length := by omega
   have ee : (ev L L.length == 0) = false := by unfold ev; rw [if_neg (by omega)]; split <;> rfl
   have MM2 : Hid (Mine w0.heap.size 1 wr X L.length d (iv L)) := by show Mine _ _ _ _ _ _ _; have := MM.out; rw [List.take_of_length_le (Nat.le_refl _)] at this; exact this
   obtain ⟨e0, he0⟩ : ∃ e0, e0 = ev L L.length := ⟨_, rfl⟩
   obtain ⟨x0, hx0⟩ : ∃ x0, x0 = L.getD L.length 0 := ⟨_, rfl⟩
   rw [← he0] at ee ⊢
   rw [← hx0]
   clear he0 hx0 MM hlt hj
   go_wp2_with fail
   go_ret
   exact ⟨X, d, rfl, MM2.out, BB.out⟩
theorem values_any {w : World} {n0 : Nat} {A : Option Addr} {c : Nat} {L : List Int} (hL : L.length ≤ 2000000) (hn : n0 ≤ w.heap.size) (h : Mine n0 1 w A L.length c (iv L)) :
  Calls Tryz.prog 126 #[.slice A L.length c] w fun e w' => (∃ v, e = .returned v ∧ IsSeq n0 w'.heap.size w' v L) ∧ Below w.heap.size w w' := by
 have HB := Lib.hid (bnew w (.cells #[.slice A L.length c] 129))
 have HI : Hid (IsSeq n0 (w.alloc (.cells #[.slice A L.length c] 129)).heap.size (w.alloc (.cells #[.slice A L.length c] 129)) (.func (.func 159) #[] #[.pointer (some ⟨w.heap.size, 0, none⟩)]) L) := by
  have e1 : (w.alloc (.cells #[.slice A L.length c] 129)).heap.size = w.heap.size + 1 := by simp
  refine Ud.vals_seq (A := A) (c := c) (by omega) (Nat.le_refl _) ⟨hn, by omega⟩ hL ((Blk.new w _ _).cell 0) ⟨(Li.mine h).below HB.out (Nat.le_refl _), fun a ha => ⟨(h.base ha).1, by have := (h.base ha).2.1; omega⟩⟩
 clear h hn hL
 go_enter Tryz.func126, Tryz.ntmps126
 go_wp2_with fail
 go_ret
 exact ⟨⟨_, rfl, HI.out⟩, HB.out⟩
set_option maxRecDepth 100000 in
theorem all_any (h : Rc F w g L) : Calls Tryz.prog 86 #[.pointer (some ⟨g, 0, none⟩)] w (seqPost w L) := by
 have HL := Lib.hid (list_any h)
 have HZ := Lib.hid h.sizes
 unfold listPost at HL
 unfold seqPost
 clear h
 go_enter Tryz.func86, Tryz.ntmps86
 go_wp2_with fail
 refine HL.out.mono ?_
 rintro e w1 ⟨A, c, rfl, hm, hb⟩
 have HV := Lib.hid (values_any (by have := HZ.out; omega) hb.size hm)
 have HB := Lib.hid hb
 clear hm hb HL
 go_wp2_with fail
 refine HV.out.mono ?_
 rintro e w2 ⟨⟨v, rfl, hs⟩, hb⟩
 have HS := Lib.hid hs; have HB2 := Lib.hid (bstep HB.out hb)
 clear hs hb HV
 go_wp2_with fail
 go_ret
 exact ⟨_, rfl, HS.out, HB2.out⟩
theorem copy_any (h : Rc F w g L) : Calls Tryz.prog 79 #[.pointer (some ⟨g, 0, none⟩)] w (mkPost w L) := by
 obtain ⟨⟨B, A, DB, DA, b, a, hlo, hF, hB, hA, hR⟩, hd, hs⟩ := h
 refine (Wd.copy_raw hlo).mono ?_
 rintro e w' ⟨g', B', A', rfl, hlo', h1, h2, h3, hb⟩
 exact ⟨g', rfl, ⟨⟨B', A', DB, DA, b, a, hlo', ⟨h1, h2, h3⟩, hB, hA, hR⟩, hd, hs⟩, hb⟩
end
def zeroC : Array Value := #[.map none, .map none]
def Idle (w : World) (p : Option Addr) : Prop := p = none ∨ ∃ g, p = some ⟨g, 0, none⟩ ∧ Blk w g zeroC 137
theorem Idle.below {w w' : World} {p : Option Addr} (h : Idle w p) (hb : Below w.heap.size w w') : Idle w' p := by
 rcases h with h | ⟨g, h, h1⟩
 ·exact Or.inl h
 ·exact Or.inr ⟨g, h, h1.below hb h1.lt⟩
section
variable {w : World} {p : Option Addr}
end
end Go.Proofs.YtlmljhnogmfcfaaGreat.Ue
