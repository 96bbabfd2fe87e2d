/- Proves the contracts of the methods List and Copy of the program's heap of deadlines, and of its methods at nil and zero heaps. Conditions: as each theorem names them. -/
import Derived.Test.YtlmljhnogmfcfaaGreatNw
import Derived.Test.YtlmljhnogmfcfaaGreatRg
import Derived.BigQuiet
import Derived.Deep.QuietTactic
import Derived.StillTailTactics
import Derived.Deep.Cut
import Derived.Deep.RegionHeld3
import Derived.Maps.RangeWalk
import Derived.Maps.OwnSet
import Derived.Maps.OwnOps
import Derived.Shelf.Lay
import Derived.Shelf.SlMaps.Clone
import Derived.Laws.MakeOwn
import Derived.OwnWalk
import Derived.Deep.RegionWith
namespace Go.Proofs.YtlmljhnogmfcfaaGreat.Ya
open Go.RowKit Ap Mi Nw

abbrev Td := Int × Int
def tv (l : List Td) : List Value := l.flatMap fun x => [.int .i64 x.1, .int .u64 x.2]
theorem tv_len : ∀ (l : List Td), (tv l).length = l.length * 2
 | [] => rfl
 | x :: r => by
  have := tv_len r
  unfold tv at this ⊢
  rw [List.flatMap_cons, List.length_append, this]; simp; omega
theorem tv_get : ∀ (l : List Td) (k : Nat) (hk : k < l.length), (tv l)[k * 2]? = some (.int .i64 l[k].1) ∧ (tv l)[k * 2 + 1]? = some (.int .u64 l[k].2)
 | [], _, hk => by simp at hk
 | x :: r, 0, _ => ⟨rfl, rfl⟩
 | x :: r, k + 1, hk => by
  have := tv_get r k (by simpa using hk)
  rw [show (k + 1) * 2 = k * 2 + 1 + 1 from by omega]
  unfold tv at this ⊢
  rw [List.flatMap_cons]
  exact this
theorem tv_one (l : List Td) : ∀ u ∈ tv l, u.oneCell' = true := fun u hu => by
 obtain ⟨x, _, h⟩ := List.mem_flatMap.1 hu
 simp only [List.mem_cons, List.not_mem_nil, or_false] at h
 rcases h with h | h <;> (rw [h]; rfl)
theorem tv_append (l m : List Td) : tv (l ++ m) = tv l ++ tv m := List.flatMap_append
theorem tv_take : ∀ (l : List Td) (k : Nat), (tv l).take (k * 2) = tv (l.take k)
 | [], k => by simp [tv]
 | x :: r, 0 => by simp [tv]
 | x :: r, k + 1 => by
  have := tv_take r k
  rw [show (k + 1) * 2 = k * 2 + 1 + 1 from by omega]
  show List.take (k * 2 + 1 + 1) (.int .i64 x.1 :: .int .u64 x.2 :: tv r) = .int .i64 x.1 :: .int .u64 x.2 :: tv (r.take k)
  rw [List.take_succ_cons, List.take_succ_cons, this]
theorem tv_drop : ∀ (l : List Td) (k : Nat), (tv l).drop (k * 2) = tv (l.drop k)
 | [], k => by simp [tv]
 | x :: r, 0 => by simp [tv]
 | x :: r, k + 1 => by
  have := tv_drop r k
  rw [show (k + 1) * 2 = k * 2 + 1 + 1 from by omega]
  show List.drop (k * 2 + 1 + 1) (.int .i64 x.1 :: .int .u64 x.2 :: tv r) = tv (r.drop k)
  rw [List.drop_succ_cons, List.drop_succ_cons, this]
def Lt (w : World) (A : Option Addr) (l : List Td) (c : Nat) : Prop := Rs w 2 A l.length c (tv l)
theorem Lt.below {w w' : World} {A : Option Addr} {l : List Td} {c B : Nat} (h : Lt w A l c) (hb : Below B w w') (hB : w.heap.size ≤ B) : Lt w' A l c := Rs.below h hb hB
theorem Lt.only {w w' : World} {A : Option Addr} {l : List Td} {c : Nat} (h : Lt w A l c) {F : Nat → Prop} (ho : Only F w w') (hn : ∀ a, A = some a → ¬ F a.block) : Lt w' A l c := Rs.only h ho hn
theorem Lt.nil (w : World) : Lt w none [] 0 := Rs.nil w 2
theorem Lt.at_ {w : World} {A : Option Addr} {l : List Td} {c : Nat} (h : Lt w A l c) {i : Nat} (hi : i < l.length) : ∃ b o, A = some ⟨b, o, none⟩ ∧ b < w.heap.size ∧ w.cell? ⟨b, o + i * 2, none⟩ = some (.int .i64 l[i].1) ∧ w.cell? ⟨b, o + i * 2 + 1, none⟩ = some (.int .u64 l[i].2) := by
 obtain ⟨h0, h1⟩ := tv_get l i hi
 obtain ⟨b, o, e, lb, c0⟩ := (Rs.rd h).at_ h0
 obtain ⟨b', o', e', _, c1⟩ := (Rs.rd h).at_ h1
 rw [e] at e'
 injection e' with e'; injection e' with e1 e2
 subst e1; subst e2
 exact ⟨b, o, e, lb, c0, by rw [Nat.add_assoc]; exact c1⟩
theorem Lt.mine {B : Nat} {w : World} {A : Option Addr} {c : Nat} {l : List Td} (h : Mine B 2 w A l.length c (tv l)) : Lt w A l c := Rs.mine h
theorem elT : Elm Tryz.prog 112 116 (.agg #[.int .i64 0, .int .u64 0]) 2 where
 sl := Tryz.underlying112
 info := by kernel_rfl
 small := by
  have h : (Tryz.prog.info? 116).map (·.bytes) = some 16 := by kernel_rfl
  intro i hi; rw [hi] at h; simp at h; omega
 cells := rfl
 pos := by omega
theorem rs_pre {w : World} {sz : Nat} {A : Option Addr} {n c : Nat} {xs : List Value} (h : Rs w sz A n c xs) {k : Nat} (hk : k ≤ n) : Rs w sz A k c (xs.take (k * sz)) := by
 have hm : k * sz ≤ n * sz := Nat.mul_le_mul_right _ hk
 have hl := h.len
 refine ⟨fun h0 => ?_, by rw [List.length_take]; omega, Nat.le_trans hk h.le, h.max, h.non⟩
 rw [List.length_take] at h0
 obtain ⟨b, o, e, lb, hc⟩ := h.rd (by omega)
 exact ⟨b, o, e, lb, fun j hj => by rw [List.getElem_take]; exact hc j (by rw [List.length_take] at hj; omega)⟩
theorem rs_cut {w : World} {sz : Nat} {A : Option Addr} {n c : Nat} {xs : List Value} (h : Rs w sz A n c xs) {k : Nat} (hk : k ≤ n) : Rs w sz (cutM A sz k c) (n - k) (c - k) (xs.drop (k * sz)) := by
 have hle := h.le
 have hl := h.len
 refine ⟨fun h0 => ?_, by rw [List.length_drop, hl, Nat.sub_mul], by omega, by have := h.max; omega, fun e => ?_⟩
 ·rw [List.length_drop] at h0
  obtain ⟨b, o, e, lb, hc⟩ := h.rd (by omega)
  subst e
  have hkn : k < n := by
   rcases Nat.lt_or_ge k n with h1 | h1
   ·exact h1
   ·have := Nat.mul_le_mul_right sz h1; omega
  refine ⟨b, o + k * sz, by unfold cutM; rw [if_neg (by omega)]; simp [Nw.add_lit], lb, fun j hj => ?_⟩
  rw [List.length_drop] at hj
  rw [List.getElem_drop, Nat.add_assoc]
  exact hc (k * sz + j) (by omega)
 ·unfold cutM at e
  split at e
  ·omega
  ·rw [Option.map_eq_none_iff] at e; rw [h.non e]; omega
theorem Lt.pre {w : World} {A : Option Addr} {l : List Td} {c : Nat} (h : Lt w A l c) {k : Nat} (hk : k ≤ l.length) : Rs w 2 A k c (tv (l.take k)) := by rw [← tv_take]; exact rs_pre h hk
theorem Lt.cut {w : World} {A : Option Addr} {l : List Td} {c : Nat} (h : Lt w A l c) {k : Nat} (hk : k ≤ l.length) : Rs w 2 (cutM A 2 k c) (l.length - k) (c - k) (tv (l.drop k)) := by rw [← tv_drop]; exact rs_cut h hk

def bf (x y : Td) : Prop := x.2 < y.2 ∨ (x.2 = y.2 ∧ x.1 < y.1)
instance (x y : Td) : Decidable (bf x y) := inferInstanceAs (Decidable (_ ∨ _))
theorem bf_irr (x : Td) : ¬ bf x x := by unfold bf; omega
theorem bf_trans {x y z : Td} (h : bf x y) (k : bf y z) : bf x z := by unfold bf at *; omega
theorem bf_tot {x y : Td} (h : ¬ bf x y) : x = y ∨ bf y x := by
 unfold bf at *
 by_cases h1 : x.2 = y.2
 ·by_cases h2 : x.1 = y.1
  ·exact Or.inl (Prod.ext h2 h1)
  ·right; omega
 ·right; omega
end Go.Proofs.YtlmljhnogmfcfaaGreat.Ya
namespace Go.Proofs.YtlmljhnogmfcfaaGreat.Yb
open Go.RowKit Ap Mi Nw Ya

def Sl (n : Int) : Prop := 0 ≤ n ∧ n < 1048576
instance (n : Int) : Decidable (Sl n) := inferInstanceAs (Decidable (_ ∧ _))
def Tm (a : Int) : Prop := 0 ≤ a ∧ a < 18446744073709551616
def isDue (d now : Int) : Prop := d ≠ 18446744073709551615 ∧ d ≤ now
instance (d now : Int) : Decidable (isDue d now) := inferInstanceAs (Decidable (_ ∧ _))
def ns (l : List Td) : List Int := l.map (·.1)
theorem ns_len (l : List Td) : (ns l).length = l.length := by unfold ns; simp
theorem ns_get {l : List Td} {k : Nat} (hk : k < (ns l).length) : (ns l)[k] = (l[k]'(by rw [ns_len] at hk; exact hk)).1 := List.getElem_map _
theorem mem_ns {l : List Td} {n : Int} : n ∈ ns l ↔ ∃ x ∈ l, x.1 = n := by unfold ns; simp [List.mem_map]
def kx (l : List Td) (n : Int) : Int := if n ∈ ns l then ((ns l).idxOf n : Int) else -1
theorem kx_pos {l : List Td} {n : Int} (h : n ∈ ns l) : ∃ k : Nat, kx l n = (k : Int) ∧ ∃ hk : k < l.length, l[k].1 = n := by
 unfold kx
 rw [if_pos h]
 have h1 := List.idxOf_lt_length_of_mem h
 exact ⟨_, rfl, by rw [ns_len] at h1; exact h1, (ns_get h1).symm.trans (List.getElem_idxOf h1)⟩
end Go.Proofs.YtlmljhnogmfcfaaGreat.Yb
namespace Go.Proofs.YtlmljhnogmfcfaaGreat.Yc
open Ya Yb

theorem tw_le (p : Td → Bool) (l : List Td) : (l.takeWhile p).length ≤ l.length := (List.takeWhile_prefix p).length_le
def putK (l : List Td) (x : Td) : Nat := (l.takeWhile (fun y => decide (bf y x))).length
def ins (l : List Td) (x : Td) : List Td := l.take (putK l x) ++ x :: l.drop (putK l x)
theorem ins_nil (x : Td) : ins [] x = [x] := rfl
theorem ins_cons (y : Td) (r : List Td) (x : Td) : ins (y :: r) x = if bf y x then y :: ins r x else x :: y :: r := by
 unfold ins putK
 by_cases h : bf y x
 ·rw [List.takeWhile_cons_of_pos (by simpa using h), if_pos h]; simp
 ·rw [List.takeWhile_cons_of_neg (by simpa using h), if_neg h]; simp
theorem putK_le (l : List Td) (x : Td) : putK l x ≤ l.length := tw_le _ _
theorem ins_len (l : List Td) (x : Td) : (ins l x).length = l.length + 1 := by
 have := putK_le l x
 unfold ins; simp; omega
theorem mem_ins {x y : Td} : ∀ {l : List Td}, y ∈ ins l x ↔ y = x ∨ y ∈ l
 | [] => by rw [ins_nil]; simp
 | z :: r => by
  have := mem_ins (x := x) (y := y) (l := r)
  rw [ins_cons]
  split
  ·simp only [List.mem_cons, this]
   constructor <;> (intro h; rcases h with h | h | h <;> simp [h])
  ·simp
theorem ins_perm (x : Td) : ∀ l : List Td, (ins l x).Perm (x :: l)
 | [] => by rw [ins_nil]
 | z :: r => by
  rw [ins_cons]
  split
  ·exact ((ins_perm x r).cons z).trans (List.Perm.swap x z r)
  ·exact List.Perm.refl _
theorem ins_sorted {x : Td} : ∀ {l : List Td}, l.Pairwise bf → (∀ y ∈ l, y ≠ x) → (ins l x).Pairwise bf
 | [], _, _ => by rw [ins_nil]; simp
 | z :: r, h, hne => by
  obtain ⟨h1, h2⟩ := List.pairwise_cons.1 h
  rw [ins_cons]
  split
  ·rename_i hz
   refine List.pairwise_cons.2 ⟨fun y hy => ?_, ins_sorted h2 (fun y hy => hne y (List.mem_cons_of_mem _ hy))⟩
   rcases mem_ins.1 hy with e | e
   ·rw [e]; exact hz
   ·exact h1 y e
  ·rename_i hz
   have hxz : bf x z := by
    rcases bf_tot hz with e | e
    ·exact absurd e (hne z (by simp))
    ·exact e
   refine List.pairwise_cons.2 ⟨fun y hy => ?_, h⟩
   rcases List.mem_cons.1 hy with e | e
   ·rw [e]; exact hxz
   ·exact bf_trans hxz (h1 y e)
def wo (l : List Td) (n : Int) : List Td := l.filter (fun x => decide (x.1 ≠ n))
theorem mem_wo {l : List Td} {n : Int} {x : Td} : x ∈ wo l n ↔ x ∈ l ∧ x.1 ≠ n := by unfold wo; simp
theorem wo_none {l : List Td} {n : Int} (h : n ∉ ns l) : wo l n = l := by
 unfold wo; rw [List.filter_eq_self]; intro x hx; simp; intro e; exact h (mem_ns.2 ⟨x, hx, e⟩)
theorem wo_sub (l : List Td) (n : Int) : (wo l n).Sublist l := List.filter_sublist
theorem ns_sub {l m : List Td} (h : l.Sublist m) : (ns l).Sublist (ns m) := h.map _
theorem not_wo (l : List Td) (n : Int) : n ∉ ns (wo l n) := fun h => by
 obtain ⟨x, hx, e⟩ := mem_ns.1 h
 exact (mem_wo.1 hx).2 e
theorem erase_wo : ∀ {l : List Td} {n : Int} {k : Nat}, (ns l).Nodup → ∀ (hk : k < l.length), l[k].1 = n → l.take k ++ l.drop (k + 1) = wo l n
 | [], _, _, _, hk, _ => by simp at hk
 | x :: r, n, 0, hd, _, he => by
  obtain ⟨d1, d2⟩ := List.nodup_cons.1 (show (x.1 :: ns r).Nodup from hd)
  simp only [List.getElem_cons_zero] at he
  subst he
  have : wo (x :: r) x.1 = wo r x.1 := by unfold wo; simp
  rw [this, wo_none d1]; simp
 | x :: r, n, k + 1, hd, hk, he => by
  obtain ⟨d1, d2⟩ := List.nodup_cons.1 (show (x.1 :: ns r).Nodup from hd)
  have hk' : k < r.length := by simpa using hk
  have he' : r[k].1 = n := by simpa using he
  have ih := erase_wo d2 hk' he'
  have hx : x.1 ≠ n := fun e => d1 (by rw [e, ← he']; exact mem_ns.2 ⟨_, List.getElem_mem hk', rfl⟩)
  have : wo (x :: r) n = x :: wo r n := by unfold wo; simp [hx]
  rw [this, ← ih]; simp
theorem wo_len {l : List Td} {n : Int} (hd : (ns l).Nodup) (h : n ∈ ns l) : (wo l n).length + 1 = l.length := by
 obtain ⟨k, _, hk, he⟩ := kx_pos h
 rw [← erase_wo hd hk he]
 simp; omega
structure Srt (L : List Td) : Prop where
 pw : L.Pairwise bf
 nd : (ns L).Nodup
 sl : ∀ x ∈ L, Sl x.1
 tm : ∀ x ∈ L, Tm x.2
theorem Srt.nil : Srt [] := ⟨List.Pairwise.nil, List.Pairwise.nil, by simp, by simp⟩
theorem Srt.sub {L M : List Td} (h : Srt L) (hs : M.Sublist L) : Srt M :=
 ⟨h.pw.sublist hs, h.nd.sublist (ns_sub hs), fun x hx => h.sl x (hs.subset hx), fun x hx => h.tm x (hs.subset hx)⟩
theorem Srt.out {L : List Td} (h : Srt L) (n : Int) : Srt (wo L n) := h.sub (wo_sub L n)
theorem Srt.take {L : List Td} (h : Srt L) (k : Nat) : Srt (L.take k) := h.sub (List.take_sublist _ _)
theorem Srt.drop {L : List Td} (h : Srt L) (k : Nat) : Srt (L.drop k) := h.sub (List.drop_sublist _ _)
theorem Srt.insd {L : List Td} (h : Srt L) {n a : Int} (hn : n ∉ ns L) (hs : Sl n) (ht : Tm a) : Srt (ins L (n, a)) := by
 refine ⟨ins_sorted h.pw (fun y hy e => hn (mem_ns.2 ⟨y, hy, by rw [e]⟩)), ?_, fun x hx => ?_, fun x hx => ?_⟩
 ·have : (ns (ins L (n, a))).Perm (n :: ns L) := (ins_perm (n, a) L).map _
  exact this.nodup_iff.2 (List.nodup_cons.2 ⟨hn, h.nd⟩)
 ·rcases mem_ins.1 hx with e | e
  ·rw [e]; exact hs
  ·exact h.sl x e
 ·rcases mem_ins.1 hx with e | e
  ·rw [e]; exact ht
  ·exact h.tm x e
theorem nd_int : ∀ (A B : List Int), A.Nodup → (∀ x ∈ A, x ∈ B) → A.length ≤ B.length
 | [], _, _, _ => Nat.zero_le _
 | a :: r, B, h, hs => by
  have ha := hs a (by simp)
  obtain ⟨h1, h2⟩ := List.nodup_cons.1 h
  have ih := nd_int r (B.erase a) h2 (fun x hx => (List.mem_erase_of_ne (fun e => h1 (by rw [← e]; exact hx))).2 (hs x (by simp [hx])))
  rw [List.length_erase_of_mem ha] at ih
  have := List.length_pos_of_mem ha
  simp only [List.length_cons]
  omega
theorem Srt.len {L : List Td} (h : Srt L) : L.length ≤ 1048576 := by
 have h1 := nd_int (ns L) ((List.range 1048576).map Int.ofNat) h.nd (fun x hx => by
  obtain ⟨y, hy, e⟩ := mem_ns.1 hx
  obtain ⟨h1, h2⟩ := h.sl y hy
  exact List.mem_map.2 ⟨x.toNat, List.mem_range.2 (by omega), by simp; omega⟩)
 rw [List.length_map, List.length_range, ns_len] at h1
 exact h1
def dueK (l : List Td) (now : Int) : Nat := (l.takeWhile (fun y => decide (isDue y.2 now))).length
theorem dueK_le (l : List Td) (now : Int) : dueK l now ≤ l.length := tw_le _ _
theorem due_mono {x y : Td} {now : Int} (hy : Tm y.2) (h : bf x y) (hd : ¬ isDue x.2 now) : ¬ isDue y.2 now := by
 unfold isDue bf Tm at *
 omega
theorem due_take : ∀ {L : List Td} {now : Int}, Srt L → (∀ x ∈ L.take (dueK L now), isDue x.2 now) ∧ ∀ x ∈ L.drop (dueK L now), ¬ isDue x.2 now
 | [], now, _ => by simp
 | x :: r, now, h => by
  obtain ⟨p1, p2⟩ := List.pairwise_cons.1 h.pw
  have hr : Srt r := h.sub (List.sublist_cons_self _ _)
  obtain ⟨i1, i2⟩ := due_take (now := now) hr
  unfold dueK at i1 i2 ⊢
  by_cases hd : isDue x.2 now
  ·rw [List.takeWhile_cons_of_pos (by simpa using hd)]
   simp only [List.length_cons, List.take_succ_cons, List.drop_succ_cons, List.mem_cons]
   exact ⟨fun y hy => hy.elim (fun e => e ▸ hd) (i1 y), i2⟩
  ·rw [List.takeWhile_cons_of_neg (by simpa using hd)]
   simp only [List.length_nil, List.take_zero, List.not_mem_nil, false_imp_iff, implies_true, List.drop_zero, true_and, List.mem_cons]
   intro y hy
   rcases hy with e | e
   ·rw [e]; exact hd
   ·exact due_mono (hr.tm y e) (p1 y e) hd
def putT (l : List Td) (n a : Int) : List Td := if Sl n ∧ n ∉ ns l then ins l (n, a) else l
def putN (l : List Td) (n : Int) : Int := if ¬ Sl n then 2 else if n ∈ ns l then 11 else 0
def remT (l : List Td) (n : Int) : List Td := if Sl n ∧ n ∈ ns l then wo l n else l
def remN (l : List Td) (n : Int) : Int := if ¬ Sl n then 2 else if n ∈ ns l then 0 else 9
def tmOf : List Td → Int → Int
 | [], _ => 0
 | x :: r, n => if x.1 = n then x.2 else tmOf r n
def remA (l : List Td) (n : Int) : Int := if Sl n ∧ n ∈ ns l then tmOf l n else 0
def movT (l : List Td) (n a : Int) : List Td := if Sl n ∧ n ∈ ns l then ins (wo l n) (n, a) else l
theorem tmOf_at : ∀ {l : List Td} {n : Int} {k : Nat}, (ns l).Nodup → ∀ (hk : k < l.length), l[k].1 = n → tmOf l n = l[k].2
 | [], _, _, _, hk, _ => by simp at hk
 | x :: r, n, 0, _, _, he => by
  simp only [List.getElem_cons_zero] at he
  show (if x.1 = n then x.2 else tmOf r n) = _
  rw [if_pos he]; rfl
 | x :: r, n, k + 1, hd, hk, he => by
  obtain ⟨d1, d2⟩ := List.nodup_cons.1 (show (x.1 :: ns r).Nodup from hd)
  have hk' : k < r.length := by simpa using hk
  have he' : r[k].1 = n := by simpa using he
  have hx : x.1 ≠ n := fun e => d1 (by rw [e, ← he']; exact mem_ns.2 ⟨_, List.getElem_mem hk', rfl⟩)
  show (if x.1 = n then x.2 else tmOf r n) = _
  rw [if_neg hx, tmOf_at d2 hk' he']; rfl
theorem Srt.put {L : List Td} (h : Srt L) (n : Int) {a : Int} (ht : Tm a) : Srt (putT L n a) := by
 unfold putT; split
 ·rename_i hc; exact h.insd hc.2 hc.1 ht
 ·exact h
theorem Srt.rem {L : List Td} (h : Srt L) (n : Int) : Srt (remT L n) := by
 unfold remT; split
 ·exact h.out n
 ·exact h
end Go.Proofs.YtlmljhnogmfcfaaGreat.Yc
namespace Go.Proofs.YtlmljhnogmfcfaaGreat.Yd
open Go.RowKit Ap Mi Nw Rg Ya Yb Yc

theorem cut_lit (b o K c : Nat) : cutM (some ⟨b, o, none⟩) 2 K c = if c = K then some ⟨b, o, none⟩ else some ⟨b, o + K * 2, none⟩ := by
 unfold cutM; split <;> simp [Nw.add_lit]
theorem src_lit {w : World} {t e e' : TypeId} (hk : Tryz.prog.underlying t = some (.slice e)) (cs : Array Value) (n sz : Nat) (hn : cs.size = n * sz) (h1 : ∀ u ∈ cs.toList, u.oneCell' = true) : Src Tryz.prog sz t (.slice (some ⟨w.heap.size, 0, none⟩) n n) n cs.toList (w.alloc (.cells cs e')) :=
 Src.ofSlice _ hk _ n n cs.toList (by simpa using hn) (fun j u hu => by
  rw [Nw.add_lit, Nat.zero_add, cell_of_row _ _ j cs e' (0, 0) (heap_alloc_new w _)]; simpa using hu) h1
theorem only_row {w w' : World} {A : Option Addr} {F : Nat → Prop} (h : w.grownBy w' (A.map (·.block))) (hA : ∀ a, A = some a → F a.block) : Only F w w' :=
 Only.of_grown h (fun k e => by rw [Option.map_eq_some_iff] at e; obtain ⟨a, ha, e⟩ := e; rw [← e]; exact hA a ha)
end Go.Proofs.YtlmljhnogmfcfaaGreat.Yd
namespace Go.Proofs.YtlmljhnogmfcfaaGreat.Zm
open Ya Yb Yc

def A (Q : List Td) (k : Nat) : Td := Q.getD k (0, 0)
theorem A_get {Q : List Td} {k : Nat} (h : k < Q.length) : A Q k = Q[k] := by unfold A; simp [h]
theorem A_mem {Q : List Td} {k : Nat} (h : k < Q.length) : A Q k ∈ Q := by rw [A_get h]; exact List.getElem_mem h
theorem A_set {Q : List Td} {i k : Nat} {y : Td} (hi : i < Q.length) : A (Q.set i y) k = if k = i then y else A Q k := by
 unfold A
 simp only [List.getD_eq_getElem?_getD, List.getElem?_set]
 by_cases h : k = i
 ·subst h; simp [hi]
 ·rw [if_neg (fun e => h e.symm), if_neg h]
theorem A_take {Q : List Td} {n k : Nat} (hk : k < n) : A (Q.take n) k = A Q k := by
 unfold A
 simp only [List.getD_eq_getElem?_getD, List.getElem?_take, if_pos hk]
theorem A_app {Q : List Td} {k : Nat} {x : Td} (h : k < Q.length) : A (Q ++ [x]) k = A Q k := by
 unfold A
 simp only [List.getD_eq_getElem?_getD, List.getElem?_append_left h]
theorem A_last {Q : List Td} {x : Td} : A (Q ++ [x]) Q.length = x := by
 unfold A
 simp
def par (k : Nat) : Nat := (k - 1) / 2
theorem par_lt {k : Nat} (h : 0 < k) : par k < k := by unfold par; omega
def HeapQ (Q : List Td) : Prop := ∀ j, 0 < j → j < Q.length → ¬ bf (A Q j) (A Q (par j))
structure Hole (Q : List Td) (i : Nat) : Prop where
 rest : ∀ j, 0 < j → j < Q.length → j ≠ i → par j ≠ i → ¬ bf (A Q j) (A Q (par j))
 over : 0 < i → ∀ j, 0 < j → j < Q.length → par j = i → ¬ bf (A Q j) (A Q (par i))
theorem le_trans {x y z : Td} (h : ¬ bf y x) (k : ¬ bf z y) : ¬ bf z x := by unfold bf at *; omega
theorem lt_not {x y : Td} (h : bf x y) : ¬ bf y x := by unfold bf at *; omega
theorem HeapQ.nil : HeapQ [] := fun j _ h => by simp at h
theorem HeapQ.min {Q : List Td} (h : HeapQ Q) : ∀ k, k < Q.length → ¬ bf (A Q k) (A Q 0)
 | 0, _ => bf_irr _
 | k + 1, hk => by
  have hp := par_lt (show 0 < k + 1 by omega)
  exact le_trans (HeapQ.min h (par (k + 1)) (by omega)) (h (k + 1) (by omega) hk)
termination_by k => k
theorem HeapQ.take {Q : List Td} (h : HeapQ Q) (n : Nat) : HeapQ (Q.take n) := fun j h0 hj => by
 rw [List.length_take] at hj
 have := par_lt h0
 rw [A_take (by omega), A_take (by omega)]
 exact h j h0 (by omega)
theorem HeapQ.hole {Q : List Td} (h : HeapQ Q) {i : Nat} (hi : i < Q.length) (y : Td) : Hole (Q.set i y) i where
 rest j h0 hj h1 h2 := by
  rw [List.length_set] at hj
  rw [A_set hi, A_set hi, if_neg h1, if_neg h2]
  exact h j h0 hj
 over hi0 j h0 hj h1 := by
  rw [List.length_set] at hj
  have h2 := par_lt h0
  have h3 := par_lt hi0
  rw [A_set hi, A_set hi, if_neg (by omega), if_neg (by omega)]
  have k1 := h j h0 hj
  rw [h1] at k1
  exact le_trans (h i hi0 hi) k1
theorem Hole.take {Q : List Td} {i n : Nat} (h : Hole Q i) (hi : i < n) : Hole (Q.take n) i where
 rest j h0 hj h1 h2 := by
  rw [List.length_take] at hj
  have := par_lt h0
  rw [A_take (by omega), A_take (by omega)]
  exact h.rest j h0 (by omega) h1 h2
 over hi0 j h0 hj h1 := by
  rw [List.length_take] at hj
  have := par_lt h0
  have := par_lt hi0
  rw [A_take (by omega), A_take (by omega)]
  exact h.over hi0 j h0 (by omega) h1
theorem HeapQ.push {Q : List Td} (h : HeapQ Q) (x : Td) : Hole (Q ++ [x]) Q.length where
 rest j h0 hj h1 h2 := by
  rw [List.length_append, List.length_singleton] at hj
  have := par_lt h0
  rw [A_app (by omega), A_app (by omega)]
  exact h j h0 (by omega)
 over hi0 j h0 hj h1 := by
  rw [List.length_append, List.length_singleton] at hj
  have := par_lt h0
  omega
def swp (Q : List Td) (i j : Nat) : List Td := (Q.set i (A Q j)).set j (A Q i)
theorem swp_len (Q : List Td) (i j : Nat) : (swp Q i j).length = Q.length := by unfold swp; simp
theorem swp_at {Q : List Td} {i j k : Nat} (hi : i < Q.length) (hj : j < Q.length) : A (swp Q i j) k = if k = j then A Q i else if k = i then A Q j else A Q k := by
 unfold swp
 rw [A_set (by rw [List.length_set]; exact hj), A_set hi]
theorem swp_perm {Q : List Td} {i j : Nat} (hi : i < Q.length) (hj : j < Q.length) : (swp Q i j).Perm Q := by
 unfold swp
 rw [A_get hi, A_get hj]
 exact List.set_set_perm hi hj
theorem Hole.up {Q : List Td} {i : Nat} (h : Hole Q i) (hi : i < Q.length) (h0 : 0 < i) : Hole (swp Q i (par i)) (par i) := by
 have hp := par_lt h0
 have hpl : par i < Q.length := by omega
 refine ⟨fun j j0 hj j1 j2 => ?_, fun p0 j j0 hj j1 => ?_⟩
 ·rw [swp_len] at hj
  rw [swp_at hi hpl, swp_at hi hpl, if_neg j1, if_neg j2]
  have e : j ≠ i := fun e => j2 (by rw [e])
  rw [if_neg e]
  by_cases e2 : par j = i
  ·rw [if_pos e2]
   exact h.over h0 j j0 hj e2
  ·rw [if_neg e2]; exact h.rest j j0 hj e e2
 ·rw [swp_len] at hj
  have hpp := par_lt p0
  have jp := par_lt j0
  rw [swp_at hi hpl, swp_at hi hpl, if_neg (show ¬ j = par i by omega), if_neg (show ¬ par (par i) = par i by omega), if_neg (show ¬ par (par i) = i by omega)]
  have k1 := h.rest (par i) p0 hpl (by omega) (by omega)
  by_cases e : j = i
  ·rw [if_pos e]; exact k1
  ·rw [if_neg e]
   have k2 := h.rest j j0 hj e (by omega)
   rw [j1] at k2
   exact le_trans k1 k2
theorem Hole.down {Q : List Td} {i c : Nat} (h : Hole Q i) (hi : i < Q.length) (c0 : 0 < c) (hc : c < Q.length) (hpc : par c = i) (hb : bf (A Q c) (A Q i)) (hm : ∀ d, 0 < d → d < Q.length → par d = i → ¬ bf (A Q d) (A Q c)) : Hole (swp Q i c) c := by
 have hlt := par_lt c0
 refine ⟨fun j j0 hj j1 j2 => ?_, fun _ j j0 hj j1 => ?_⟩
 ·rw [swp_len] at hj
  have jp := par_lt j0
  rw [swp_at hi hc, swp_at hi hc, if_neg j1, if_neg j2]
  by_cases e2 : par j = i
  ·rw [if_pos e2, if_neg (show ¬ j = i by omega)]
   exact hm j j0 hj e2
  ·rw [if_neg e2]
   by_cases e : j = i
   ·subst e
    rw [if_pos rfl]
    exact h.over j0 c c0 hc hpc
   ·rw [if_neg e]; exact h.rest j j0 hj e e2
 ·rw [swp_len] at hj
  have jp := par_lt j0
  rw [swp_at hi hc, swp_at hi hc, if_neg (show ¬ j = c by omega), if_neg (show ¬ j = i by omega), if_neg (show ¬ par c = c by omega), if_pos hpc]
  have := h.rest j j0 hj (by omega) (by omega)
  rw [j1] at this
  exact this
theorem Hole.done {Q : List Td} {i : Nat} (h : Hole Q i) (hu : 0 < i → ¬ bf (A Q i) (A Q (par i))) (hd : ∀ d, 0 < d → d < Q.length → par d = i → ¬ bf (A Q d) (A Q i)) : HeapQ Q := fun j j0 hj => by
 by_cases e : j = i
 ·subst e; exact hu j0
 ·by_cases e2 : par j = i
  ·rw [e2]; exact hd j j0 hj e2
  ·exact h.rest j j0 hj e e2
def mu (Q : List Td) (i : Nat) : Nat := if bf (A Q i) (A Q (par i)) then Q.length + 1 + i else Q.length - i
theorem mu_up {Q : List Td} {i : Nat} (h0 : 0 < i) (hb : bf (A Q i) (A Q (par i))) : mu (swp Q i (par i)) (par i) < mu Q i := by
 have hp := par_lt h0
 unfold mu
 rw [if_pos hb, swp_len]
 split <;> omega
theorem mu_down {Q : List Td} {i c : Nat} (hi : i < Q.length) (c0 : 0 < c) (hc : c < Q.length) (hpc : par c = i) (hn : ¬ bf (A Q i) (A Q (par i))) (hb : bf (A Q c) (A Q i)) : mu (swp Q i c) c < mu Q i := by
 have hlt := par_lt c0
 unfold mu
 rw [if_neg hn, swp_len, if_neg, hpc.symm]
 ·omega
 ·rw [swp_at hi hc, swp_at hi hc, if_pos rfl, if_neg (show ¬ par c = c by omega), if_pos hpc]
  exact lt_not hb
def Plc (f : Int → Int) (Q : List Td) : Prop := ∀ k, k < Q.length → f (A Q k).1 = (k : Int)
def PlcX (f : Int → Int) (Q : List Td) (i : Nat) : Prop := ∀ k, k < Q.length → k ≠ i → f (A Q k).1 = (k : Int)
theorem nd_at {Q : List Td} (hd : (ns Q).Nodup) {j k : Nat} (hj : j < Q.length) (hk : k < Q.length) (e : (A Q j).1 = (A Q k).1) : j = k := by
 rw [A_get hj, A_get hk] at e
 have hj' : j < (ns Q).length := by rw [ns_len]; exact hj
 have hk' : k < (ns Q).length := by rw [ns_len]; exact hk
 have h1 : (ns Q)[j] = (ns Q)[k] := by rw [ns_get hj', ns_get hk']; exact e
 exact (List.getElem_inj hd).1 h1
theorem ns_perm {Q R : List Td} (h : Q.Perm R) : (ns Q).Perm (ns R) := h.map _
theorem ns_nd {Q R : List Td} (h : Q.Perm R) (hd : (ns R).Nodup) : (ns Q).Nodup := (ns_perm h).nodup_iff.2 hd
theorem ns_mem {Q R : List Td} (h : Q.Perm R) (n : Int) : n ∈ ns Q ↔ n ∈ ns R := (ns_perm h).mem_iff
theorem A_ns {Q : List Td} {k : Nat} (h : k < Q.length) : (A Q k).1 ∈ ns Q := mem_ns.2 ⟨_, A_mem h, rfl⟩
theorem ns_A {Q : List Td} {n : Int} (h : n ∈ ns Q) : ∃ k, k < Q.length ∧ (A Q k).1 = n := by
 obtain ⟨x, hx, e⟩ := mem_ns.1 h
 obtain ⟨k, hk, ek⟩ := List.getElem_of_mem hx
 exact ⟨k, hk, by rw [A_get hk, ek]; exact e⟩
theorem set_perm {Q : List Td} {i : Nat} {n : Int} (hd : (ns Q).Nodup) (hi : i < Q.length) (e : (A Q i).1 = n) (y : Td) : (Q.set i y).Perm (y :: wo Q n) := by
 rw [A_get hi] at e
 rw [List.set_eq_take_append_cons_drop, if_pos hi, ← erase_wo hd hi e]
 exact List.perm_middle
theorem wo_perm {Q R : List Td} (h : Q.Perm R) (n : Int) : (wo Q n).Perm (wo R n) := h.filter _
def cutQ (Q : List Td) (i : Nat) : List Td := (Q.set i (A Q (Q.length - 1))).take (Q.length - 1)
theorem cutQ_len {Q : List Td} (i : Nat) : (cutQ Q i).length = Q.length - 1 := by unfold cutQ; rw [List.length_take, List.length_set]; omega
theorem cutQ_at {Q : List Td} {i k : Nat} (hi : i < Q.length) (hk : k < Q.length - 1) : A (cutQ Q i) k = if k = i then A Q (Q.length - 1) else A Q k := by
 unfold cutQ; rw [A_take hk, A_set hi]
theorem cutQ_perm {Q : List Td} {i : Nat} {n : Int} (hd : (ns Q).Nodup) (hi : i < Q.length) (e : (A Q i).1 = n) : (cutQ Q i).Perm (wo Q n) := by
 obtain ⟨R, z, rfl⟩ : ∃ R z, Q = R ++ [z] := by
  refine ⟨Q.dropLast, Q.getLast (fun h => by subst h; simp at hi), (List.dropLast_concat_getLast _).symm⟩
 have hl : (R ++ [z]).length - 1 = R.length := by simp
 rw [A_get hi] at e
 unfold cutQ
 rw [hl, A_last, ← erase_wo hd hi e]
 rw [List.length_append, List.length_singleton] at hi
 rcases Nat.lt_or_ge i R.length with h1 | h1
 ·rw [List.set_append_left _ _ h1, List.take_left' (by simp), List.set_eq_take_append_cons_drop, if_pos h1, List.take_append_of_le_length (by omega), List.drop_append_of_le_length (by omega), ← List.append_assoc]
  exact List.perm_middle.trans (List.perm_append_singleton z _).symm
 ·obtain rfl : i = R.length := by omega
  rw [List.set_append_right _ _ (Nat.le_refl _), List.take_left' rfl, List.take_left' rfl, List.drop_of_length_le (by simp), List.append_nil]
theorem HeapQ.cut {Q : List Td} (h : HeapQ Q) {i : Nat} (hi : i < Q.length - 1) : Hole (cutQ Q i) i := (h.hole (by omega) _).take hi
theorem cut_last {Q : List Td} {i : Nat} (hi : i = Q.length - 1) : cutQ Q i = Q.take i := by
 unfold cutQ
 subst hi
 rw [List.take_set_of_le (Nat.le_refl _)]
theorem heap_head {Q L : List Td} (h : HeapQ Q) (hp : Q.Perm L) (hs : L.Pairwise bf) (h0 : 0 < Q.length) : ∃ x r, L = x :: r ∧ A Q 0 = x := by
 cases L with
 | nil => have := hp.length_eq; rw [List.length_nil] at this; omega
 | cons x r =>
  refine ⟨x, r, rfl, ?_⟩
  obtain ⟨p1, p2⟩ := List.pairwise_cons.1 hs
  have hm := hp.mem_iff.1 (A_mem h0)
  rcases List.mem_cons.1 hm with e | e
  ·exact e
  ·have h1 := p1 _ e
   obtain ⟨k, hk, ek⟩ := List.getElem_of_mem (hp.mem_iff.2 (List.mem_cons_self (a := x) (l := r)))
   have := h.min k hk
   rw [A_get hk, ek] at this
   exact absurd h1 this
end Go.Proofs.YtlmljhnogmfcfaaGreat.Zm
namespace Go.Proofs.YtlmljhnogmfcfaaGreat.Zk
open Go.RowKit Go.Maps Mi Nw

def In (n : Int) : Prop := -9223372036854775808 ≤ n ∧ n ≤ 9223372036854775807
def kl (n : Int) : Lit := .int .i64 n
theorem keyed : Keyed Tryz.prog 3 := Maps.int_keyed Tryz.underlying3
theorem in_wf {n : Int} (h : In n) : (Lit.int .i64 n).wf = true := by
 obtain ⟨h1, h2⟩ := h
 simp only [Lit.wf, Bool.and_eq_true, decide_eq_true_eq]
 exact ⟨h1, h2⟩
theorem key_mk {n : Int} (hn : In n) : keyOf Tryz.prog 3 (.int .i64 n) = some (kl n) := Maps.keyOf_int_mk Tryz.underlying3 (in_wf hn)
theorem kl_key (n : Int) : WideAt.IsKeyLit (kl n) := trivial
theorem kl_inj {n m : Int} (h : kl n = kl m) : n = m := by unfold kl at h; injection h
theorem zeroI (w : World) : (zeroValue 3).run Tryz.prog w = .ok (.int .i64 0) w := by kernel_rfl
def Owns (w : World) (b n : Nat) (D : DataW Unit) : Prop := w.ownsMap Tryz.prog 3 (plainElem Tryz.prog 3) b n D
theorem Owns.lt {w : World} {b n : Nat} {D : DataW Unit} (h : Owns w b n D) : b < w.heap.size := World.ownsMap.lt h
theorem Owns.kept {w w' : World} {b n : Nat} {D : DataW Unit} {F : Nat → Prop} (h : Owns w b n D) (ho : Only F w w') (hb : ¬ F b) : Owns w' b n D := by
 have hlt := World.ownsMap.lt h
 obtain ⟨es, clock, h1, h2⟩ := h
 exact ⟨es, clock, by rw [ho.block _ hlt hb]; exact h1, h2⟩
theorem made (w : World) : Owns (w.alloc (.map #[] 0)) w.heap.size 0 (.map []) := World.ownsMap_made _ _ _ _
theorem Owns.tidy {w : World} {b n : Nat} {D : DataW Unit} (h : Owns w b n D) : Tidy D := World.ownsMap.tidy h keyed
section
variable {P : Program} (w : World) {ops : Array Oper} {rest : List Oper} {o : Oper} {a : Act} {Q : Exit → Act → World → Prop}
theorem at_ok (hg : o.guard = none) (m x : Operand) (hop : o.op = Op.lookup 135 m x true) (b n : Nat) (D : DataW Unit) (hm : a.eval m = .map (some b)) (hown : Owns w b n D) (k : Int) (hk : In k) (hx : a.eval x = .int .i64 k)
  (c : Int) (s : Bool) (hc : D.atKey (kl k) (.lit (.int .i64 0)) = .lit (.int .i64 c)) (hs : has D (kl k) = s) (hK : wpList Tryz.prog ops Q rest (a.put o.dst (.tuple #[.int .i64 c, .bool s])) w) :
  wpList Tryz.prog ops Q (o :: rest) a w :=
 wpList_lookup_own_ok_int w hg m x _ hop _ _ .i64 keyed Tryz.underlying135 Tryz.underlying3 (zeroI w) b n D hm hown _ _ hx (key_mk hk) (fun c' e1 _ => by
  rw [hc] at e1
  simp only [DataW.lit.injEq, Lit.int.injEq, true_and] at e1
  rw [← e1, hs]; exact hK)
theorem at_del (hg : o.guard = none) (m x : Operand) (hop : o.op = Op.call { callee := Callee.builtin Builtin.delete, args := #[m, x], argTypes := #[135, 3] }) (b n : Nat) (D : DataW Unit) (hm : a.eval m = .map (some b)) (hown : Owns w b n D) (k : Int) (hk : In k) (hx : a.eval x = .int .i64 k)
  (hK : ∀ w', Owns w' b n (D.del (kl k)) → Only (fun k => k = b) w w' → wpList Tryz.prog ops Q rest (a.put o.dst (.tuple #[])) w') :
  wpList Tryz.prog ops Q (o :: rest) a w :=
 wpList_delete_own w hg m x _ _ hop _ keyed Tryz.underlying135 (plainElem Tryz.prog 3) b n D hm hown _ _ hx (key_mk hk) (fun w' h1 h2 => hK w' h1 (Only.of_grown h2.grown (fun k e => by simp at e; exact e.symm)))
theorem at_len (hg : o.guard = none) (m : Operand) (hop : o.op = Op.call { callee := Callee.builtin Builtin.len, args := #[m], argTypes := #[135] }) (b n : Nat) (D : DataW Unit) (hm : a.eval m = .map (some b)) (hown : Owns w b n D) (z : Nat) (hz : Maps.size D = z)
  (hK : wpList Tryz.prog ops Q rest (a.put o.dst (.int .i64 (z : Int))) w) : wpList Tryz.prog ops Q (o :: rest) a w :=
 wpList_len_own w hg m _ hop _ _ Tryz.underlying135 (plainElem Tryz.prog 3) b n D hm hown (by rw [hz]; exact hK)
end
def upd (f : Int → Int) (n v : Int) : Int → Int := fun m => if m = n then v else f m
theorem upd_eq (f : Int → Int) (n v : Int) : upd f n v n = v := by simp [upd]
theorem upd_ne {f : Int → Int} {n v m : Int} (h : m ≠ n) : upd f n v m = f m := by simp [upd, h]
structure Md (D : DataW Unit) (p : Int → Prop) (k : Nat) (f : Int → Int) : Prop where
 tidy : Tidy D
 mem : ∀ n, has D (kl n) = true ↔ p n
 val : ∀ n, p n → D.atKey (kl n) (.lit (.int .i64 0)) = .lit (.int .i64 (f n))
 sz : Maps.size D = k
section
variable {D : DataW Unit} {p : Int → Prop} {k : Nat} {f : Int → Int}
theorem md_nil : Md (.map []) (fun _ => False) 0 f := ⟨tidy_empty, fun n => by simp [has_eq], fun n h => h.elim, rfl⟩
theorem Md.put_raw (h : Md D p k f) (n v : Int) {k' : Nat} (hk : Maps.size (D.put (kl n) (.lit (.int .i64 v))) = k') : Md (D.put (kl n) (.lit (.int .i64 v))) (fun m => m = n ∨ p m) k' (upd f n v) := by
 obtain ⟨h1, h2, h3, h4⟩ := h
 refine ⟨h1.put (kl_key n) _, fun m => ?_, fun m hm => ?_, hk⟩
 ·by_cases e : m = n
  ·subst e; rw [has_put_same h1.isMap (kl_key m)]; simp
  ·rw [has_put_other (fun h => e (kl_inj h)), h2]; simp [e]
 ·by_cases e : m = n
  ·subst e; rw [atKey_put_same h1.isMap (kl_key m), upd_eq]
  ·rw [atKey_put_other (fun h => e (kl_inj h)), h3 m (hm.resolve_left e), upd_ne e]
theorem Md.put_old (h : Md D p k f) {n : Int} (hn : p n) (v : Int) : Md (D.put (kl n) (.lit (.int .i64 v))) p k (upd f n v) := by
 have hs : Maps.size (D.put (kl n) (.lit (.int .i64 v))) = k := by rw [size_put h.tidy, (h.mem n).2 hn, h.sz]; rfl
 obtain ⟨h1, h2, h3, h4⟩ := h.put_raw n v hs
 have e : ∀ m, (m = n ∨ p m) ↔ p m := fun m => ⟨fun h => h.elim (fun e => e ▸ hn) id, Or.inr⟩
 exact ⟨h1, fun m => (h2 m).trans (e m), fun m hm => h3 m (Or.inr hm), h4⟩
theorem Md.put_new (h : Md D p k f) {n : Int} (hn : ¬ p n) (v : Int) : Md (D.put (kl n) (.lit (.int .i64 v))) (fun m => m = n ∨ p m) (k + 1) (upd f n v) :=
 h.put_raw n v (by
  have : has D (kl n) = false := by cases e : has D (kl n) with
   | false => rfl
   | true => exact absurd ((h.mem n).1 e) hn
  rw [size_put h.tidy, this, h.sz]; rfl)
theorem Md.del (h : Md D p (k + 1) f) {n : Int} (hn : p n) : Md (D.del (kl n)) (fun m => p m ∧ m ≠ n) k f := by
 obtain ⟨h1, h2, h3, h4⟩ := h
 refine ⟨h1.del _, fun m => ?_, fun m hm => ?_, ?_⟩
 ·by_cases e : m = n
  ·subst e; rw [has_del_same]; simp
  ·rw [has_del_other (fun h => e (kl_inj h)), h2]; simp [e]
 ·rw [atKey_del_other (fun h => hm.2 (kl_inj h))]; exact h3 m hm.1
 ·have := size_del (k := kl n) h1
  rw [h4, (h2 n).2 hn] at this
  simp at this; omega
theorem Md.ext (h : Md D p k f) {q : Int → Prop} {k' : Nat} {g : Int → Int} (hp : ∀ m, p m ↔ q m) (hk : k = k') (hf : ∀ m, q m → f m = g m) : Md D q k' g :=
 ⟨h.tidy, fun m => (h.mem m).trans (hp m), fun m hm => by rw [h.val m ((hp m).2 hm), hf m hm], h.sz.trans hk⟩
theorem Md.no (h : Md D p k f) {n : Int} (hn : ¬ p n) : has D (kl n) = false ∧ D.atKey (kl n) (.lit (.int .i64 0)) = .lit (.int .i64 0) := by
 have : has D (kl n) = false := by cases e : has D (kl n) with
  | false => rfl
  | true => exact absurd ((h.mem n).1 e) hn
 exact ⟨this, atKey_of_not_has this _⟩
end
def Own (w : World) (b : Nat) (D : DataW Unit) : Prop := Owns w b (Maps.size D) D
theorem Own.of {w : World} {b n : Nat} {D : DataW Unit} (h : Owns w b n D) : Own w b D := by
 obtain ⟨es, clock, h1, h2, _, h4⟩ := h
 refine ⟨es, clock, h1, h2, ?_, h4⟩
 have h5 : Maps.size D = es.size := by rw [h4]; show List.length _ = _; rw [length_sorted]; simp
 omega
theorem Own.lt {w : World} {b : Nat} {D : DataW Unit} (h : Own w b D) : b < w.heap.size := Owns.lt h
theorem Own.kept {w w' : World} {b : Nat} {D : DataW Unit} {F : Nat → Prop} (h : Own w b D) (ho : Only F w w') (hb : ¬ F b) : Own w' b D := Owns.kept h ho hb
section
variable {P : Program} (w : World) {ops : Array Oper} {rest : List Oper} {o : Oper} {a : Act} {Q : Exit → Act → World → Prop}
theorem to_store (hg : o.guard = none) (m x v : Operand) (hop : o.op = Op.mapUpdate 135 m x v) (b : Nat) (D : DataW Unit) (hm : a.eval m = .map (some b)) (hown : Own w b D) (hn : Maps.size D ≤ 2000000) (k : Int) (hk : In k) (hx : a.eval x = .int .i64 k)
  (c : Int) (hci : In c) (hv : a.eval v = .int .i64 c) (hK : ∀ w', Own w' b (D.put (kl k) (.lit (.int .i64 c))) → Only (fun k => k = b) w w' → wpList Tryz.prog ops Q rest (a.put o.dst undef) w') :
  wpList Tryz.prog ops Q (o :: rest) a w :=
 wpList_mapUpdate_own w hg m x v _ hop _ _ keyed Tryz.underlying135 (plainElem Tryz.prog 3) b _ D hm hown (by unfold maxLen; omega) _ _ _ hx hv (key_mk hk) _ _ (plainElem_int Tryz.underlying3 (in_wf hci)) (fun w' h1 h2 => hK w' (Own.of h1) (Only.of_grown h2 (fun k e => by simp at e; exact e.symm)))
theorem to_del (hg : o.guard = none) (m x : Operand) (hop : o.op = Op.call { callee := Callee.builtin Builtin.delete, args := #[m, x], argTypes := #[135, 3] }) (b : Nat) (D : DataW Unit) (hm : a.eval m = .map (some b)) (hown : Own w b D) (k : Int) (hk : In k) (hx : a.eval x = .int .i64 k)
  (hK : ∀ w', Own w' b (D.del (kl k)) → Only (fun k => k = b) w w' → wpList Tryz.prog ops Q rest (a.put o.dst (.tuple #[])) w') :
  wpList Tryz.prog ops Q (o :: rest) a w :=
 at_del w hg m x hop b _ D hm hown k hk hx (fun w' h1 h2 => hK w' (Own.of h1) h2)
end
theorem neq_map (p : Option Nat) (w : World) : (binOp .neq 135 (.map p) (.map none)).run Tryz.prog w = .ok (.bool p.isSome) w := by
 simp only [binOp]
 simp [show Op.equal 135 (.map p) (.map none) = Op.equalIn (9999 + 1) 135 (.map p) (.map none) from rfl, run_equalIn_map_nil_sl w 9999 135 _ _ p Tryz.underlying135]
end Go.Proofs.YtlmljhnogmfcfaaGreat.Zk
namespace Go.Proofs.YtlmljhnogmfcfaaGreat.Za
open Go.RowKit Ap Mi Nw Ya Yb Yc Zk Zm

def cmpI (a b : Int) : Int := if a < b then -1 else if b < a then 1 else 0
theorem nanT_any (a : Int) (w : World) : Calls Tryz.prog 156 #[.int .u64 a] w fun e w' => e = .returned (.bool false) ∧ w' = w := by
 have h : (a != a) = false := by simp
 go_enter Tryz.func156, Tryz.ntmps156
 go_wp2_with fail
 go_ret
 exact ⟨rfl, rfl⟩
theorem nanI_any (a : Int) (w : World) : Calls Tryz.prog 193 #[.int .i64 a] w fun e w' => e = .returned (.bool false) ∧ w' = w := by
 have h : (a != a) = false := by simp
 go_enter Tryz.func193, Tryz.ntmps193
 go_wp2_with fail
 go_ret
 exact ⟨rfl, rfl⟩
theorem cmpT_any (a b : Int) (w : World) : Calls Tryz.prog 116 #[.int .u64 a, .int .u64 b] w fun e w' => e = .returned (.int .i64 (cmpI a b)) ∧ w' = w := by
 by_cases h1 : a < b
 ·have HC : Hid (cmpI a b = -1) := by show _ = _; unfold cmpI; rw [if_pos h1]
  rw [HC.out]
  go_enter Tryz.func116, Tryz.ntmps116
  go_wp2_with (go_at_call 156; refine (nanT_any _ _).mono ?_; rintro e w' ⟨rfl, rfl⟩)
  go_ret
  exact ⟨rfl, rfl⟩
 ·by_cases h2 : b < a
  ·have HC : Hid (cmpI a b = 1) := by show _ = _; unfold cmpI; rw [if_neg h1, if_pos h2]
   rw [HC.out]
   go_enter Tryz.func116, Tryz.ntmps116
   go_wp2_with (go_at_call 156; refine (nanT_any _ _).mono ?_; rintro e w' ⟨rfl, rfl⟩)
   go_ret
   exact ⟨rfl, rfl⟩
  ·have HC : Hid (cmpI a b = 0) := by show _ = _; unfold cmpI; rw [if_neg h1, if_neg h2]
   rw [HC.out]
   go_enter Tryz.func116, Tryz.ntmps116
   go_wp2_with (go_at_call 156; refine (nanT_any _ _).mono ?_; rintro e w' ⟨rfl, rfl⟩)
   go_ret
   exact ⟨rfl, rfl⟩
theorem cmpI_any (a b : Int) (w : World) : Calls Tryz.prog 179 #[.int .i64 a, .int .i64 b] w fun e w' => e = .returned (.int .i64 (cmpI a b)) ∧ w' = w := by
 by_cases h1 : a < b
 ·have HC : Hid (cmpI a b = -1) := by show _ = _; unfold cmpI; rw [if_pos h1]
  rw [HC.out]
  go_enter Tryz.func179, Tryz.ntmps179
  go_wp2_with (go_at_call 193; refine (nanI_any _ _).mono ?_; rintro e w' ⟨rfl, rfl⟩)
  go_ret
  exact ⟨rfl, rfl⟩
 ·by_cases h2 : b < a
  ·have HC : Hid (cmpI a b = 1) := by show _ = _; unfold cmpI; rw [if_neg h1, if_pos h2]
   rw [HC.out]
   go_enter Tryz.func179, Tryz.ntmps179
   go_wp2_with (go_at_call 193; refine (nanI_any _ _).mono ?_; rintro e w' ⟨rfl, rfl⟩)
   go_ret
   exact ⟨rfl, rfl⟩
  ·have HC : Hid (cmpI a b = 0) := by show _ = _; unfold cmpI; rw [if_neg h1, if_neg h2]
   rw [HC.out]
   go_enter Tryz.func179, Tryz.ntmps179
   go_wp2_with (go_at_call 193; refine (nanI_any _ _).mono ?_; rintro e w' ⟨rfl, rfl⟩)
   go_ret
   exact ⟨rfl, rfl⟩
def cmpV (x y : Td) : Int := if x.2 < y.2 then -1 else if y.2 < x.2 then 1 else cmpI x.1 y.1
theorem cmpV_lt (x y : Td) : cmpV x y < 0 ↔ bf x y := by
 unfold cmpV cmpI bf
 repeat' split
 all_goals first | (constructor <;> intro h <;> omega) | omega
def tO (x : Td) : Obj := .cells #[.int .i64 x.1, .int .u64 x.2] 116
def tA (x : Td) : Value := .agg #[.int .i64 x.1, .int .u64 x.2]
theorem compare_any (x y : Td) (w : World) : Calls Tryz.prog 169 #[tA x, tA y] w fun e w' => e = .returned (.int .i64 (cmpV x y)) ∧ w' = (w.alloc (tO x)).alloc (tO y) := by
 obtain ⟨n, a⟩ := x
 obtain ⟨m, b⟩ := y
 unfold tA tO
 simp only
 have CT := fun W => cmpT_any a b W
 have CI := fun W => cmpI_any n m W
 by_cases h1 : a < b
 ·have e1 : cmpI a b = -1 := by unfold cmpI; rw [if_pos h1]
  have e2 : cmpV (n, a) (m, b) = -1 := by unfold cmpV; rw [if_pos h1]
  rw [e1] at CT
  rw [e2]
  clear h1 e1 e2
  go_enter Tryz.func169, Tryz.ntmps169
  go_wp2_with (go_at_call 116; refine (CT _).mono ?_; rintro e w' ⟨rfl, rfl⟩)
  go_ret
  exact ⟨rfl, rfl⟩
 ·by_cases h2 : b < a
  ·have e1 : cmpI a b = 1 := by unfold cmpI; rw [if_neg h1, if_pos h2]
   have e2 : cmpV (n, a) (m, b) = 1 := by unfold cmpV; rw [if_neg h1, if_pos h2]
   rw [e1] at CT
   rw [e2]
   clear h1 h2 e1 e2
   go_enter Tryz.func169, Tryz.ntmps169
   go_wp2_with (go_at_call 116; refine (CT _).mono ?_; rintro e w' ⟨rfl, rfl⟩)
   go_ret
   exact ⟨rfl, rfl⟩
  ·have e1 : cmpI a b = 0 := by unfold cmpI; rw [if_neg h1, if_neg h2]
   have e2 : cmpV (n, a) (m, b) = cmpI n m := by unfold cmpV; rw [if_neg h1, if_neg h2]
   rw [e1] at CT
   rw [e2]
   clear h1 h2 e1 e2
   obtain ⟨r, hr⟩ : ∃ r, r = cmpI n m := ⟨_, rfl⟩
   rw [← hr] at CI ⊢
   clear hr
   go_enter Tryz.func169, Tryz.ntmps169
   go_wp2_with (first | (go_at_call 116; refine (CT _).mono ?_; rintro e w' ⟨rfl, rfl⟩) | (go_at_call 179; refine (CI _).mono ?_; rintro e w' ⟨rfl, rfl⟩))
   go_ret
   exact ⟨rfl, rfl⟩
theorem cdue_any (d n : Int) (w : World) : Calls Tryz.prog 112 #[.int .u64 d, .int .u64 n] w fun e w' => e = .returned (.bool (decide (isDue d n))) ∧ w' = w := by
 by_cases h : d = 18446744073709551615
 ·have HD : Hid (¬ isDue d n) := fun k => k.1 h
  have hb : (d != 18446744073709551615) = false := by simpa using h
  clear h
  go_enter Tryz.func112, Tryz.ntmps112
  go_wp2_with fail
  go_ret
  exact ⟨retB (by simp [HD.out]), rfl⟩
 ·have hb : (d != 18446744073709551615) = true := by simpa using h
  by_cases k : d ≤ n
  ·have HD : Hid (isDue d n) := ⟨h, k⟩
   have k' : n ≥ d := k
   clear h
   go_enter Tryz.func112, Tryz.ntmps112
   go_wp2_with fail
   go_ret
   exact ⟨retB (by simp [HD.out]), rfl⟩
  ·have HD : Hid (¬ isDue d n) := fun j => k j.2
   have k' : ¬ n ≥ d := k
   clear h
   go_enter Tryz.func112, Tryz.ntmps112
   go_wp2_with fail
   go_ret
   exact ⟨retB (by simp [HD.out]), rfl⟩
end Go.Proofs.YtlmljhnogmfcfaaGreat.Za
namespace Go.Proofs.YtlmljhnogmfcfaaGreat.Zl
open Go.RowKit Go.Maps Ap Mi Nw Ya Yb Yc Zk Zm Za

structure Lo (w : World) (g : Nat) (A : Option Addr) (c B : Nat) (D : DataW Unit) (Q : List Td) : Prop where
 bk : Blk w g #[.slice A Q.length c, .map (some B)] 140
 ob : Own w B D
 mi : Mine 0 2 w A Q.length c (tv Q)
 gb : g ≠ B
 ra : ∀ a, A = some a → a.block ≠ g ∧ a.block ≠ B
section
variable {w w' : World} {g c B : Nat} {A : Option Addr} {D : DataW Unit} {Q : List Td}
theorem Lo.kept (h : Lo w g A c B D Q) {F : Nat → Prop} (ho : Only F w w') (h1 : ¬ F g) (h2 : ¬ F B) (h3 : ∀ a, A = some a → ¬ F a.block) : Lo w' g A c B D Q :=
 ⟨h.bk.only ho h1, h.ob.kept ho h2, h.mi.only ho h3, h.gb, h.ra⟩
theorem Lo.below (h : Lo w g A c B D Q) {N : Nat} (hb : Below N w w') (hN : w.heap.size ≤ N) : Lo w' g A c B D Q :=
 h.kept (Only.of_below hb hN (fun _ => False)) (fun h => h) (fun h => h) (fun _ _ h => h)
theorem Lo.drewN (h : Lo w g A c B D Q) (n : Nat) : Lo (w.drewN n) g A c B D Q := h.kept ((Only.refl (fun _ => False) w).drewN n) (fun h => h) (fun h => h) (fun _ _ h => h)
theorem Lo.at_ (h : Lo w g A c B D Q) {i : Nat} (hi : i < Q.length) : ∃ b o, A = some ⟨b, o, none⟩ ∧ b < w.heap.size ∧ w.cell? ⟨b, o + i * 2, none⟩ = some (.int .i64 (Zm.A Q i).1) ∧ w.cell? ⟨b, o + i * 2 + 1, none⟩ = some (.int .u64 (Zm.A Q i).2) := by
 rw [A_get hi]
 exact (Lt.mine h.mi).at_ hi
theorem usable_any {n : Nat} (h : Blk w g #[.slice A n c, .map (some B)] 140) : Calls Tryz.prog 111 #[.pointer (some ⟨g, 0, none⟩)] w fun e w' => e = .returned (.bool true) ∧ w' = w := by
 obtain ⟨x0, x1, _⟩ := h.two
 have hnq := neq_map
 clear h
 go_enter Tryz.func111, Tryz.ntmps111
 go_wp2_with fail
 go_ret
 exact ⟨rfl, rfl⟩
set_option maxRecDepth 100000 in
theorem before_any (h : Lo w g A c B D Q) {i j : Nat} (hi : i < Q.length) (hj : j < Q.length) :
  Calls Tryz.prog 144 #[.pointer (some ⟨g, 0, none⟩), .int .i64 (i : Int), .int .i64 (j : Int)] w fun e w' => e = .returned (.bool (decide (bf (Zm.A Q i) (Zm.A Q j)))) ∧ Below w.heap.size w w' := by
 obtain ⟨x0, x1, _⟩ := h.bk.two
 have lg := h.bk.lt
 obtain ⟨b, o, rfl, lb, i0, i1⟩ := h.at_ hi
 obtain ⟨b', o', e, _, j0, j1⟩ := h.at_ hj
 injection e with e; injection e with e1 e2
 subst e1; subst e2
 have HLT := Lib.hid (cmpV_lt (Zm.A Q i) (Zm.A Q j))
 have HC : Hid (∀ W, Calls Tryz.prog 169 #[tA (Zm.A Q i), tA (Zm.A Q j)] W fun e w' => e = .returned (.int .i64 (cmpV (Zm.A Q i) (Zm.A Q j))) ∧ w' = (W.alloc (tO (Zm.A Q i))).alloc (tO (Zm.A Q j))) := fun W => compare_any _ _ W
 have hiI : (i : Int) < (Q.length : Int) := by omega
 have hjI : (j : Int) < (Q.length : Int) := by omega
 obtain ⟨x, hx⟩ : ∃ x, x = Zm.A Q i := ⟨_, rfl⟩
 obtain ⟨y, hy⟩ : ∃ y, y = Zm.A Q j := ⟨_, rfl⟩
 rw [← hx, ← hy] at HC HLT ⊢
 rw [← hx] at i0 i1
 rw [← hy] at j0 j1
 obtain ⟨v, hv⟩ : ∃ v, v = cmpV x y := ⟨_, rfl⟩
 rw [← hv] at HC HLT
 clear h hx hy hv hi hj
 unfold tA at HC
 go_enter Tryz.func144, Tryz.ntmps144
 go_wp2_with fail
 go_still_tail 14, (by kernel_rfl)
 change wpList _ _ _ _ _ w.drew
 go_wp2_with (go_at_call 169; refine (HC.out _).mono ?_; rintro e w' ⟨rfl, rfl⟩)
 go_ret
 exact ⟨retB (by rw [decide_eq_decide]; exact HLT.out), (((Below.refl w.heap.size w).drew).alloc (by simp) _).alloc (by simp) _⟩
def notePost (w : World) (g : Nat) (A : Option Addr) (c B : Nat) (D : DataW Unit) (Q : List Td) : Ending → World → Prop := fun e w' => e = .returned (.tuple #[]) ∧ Lo w' g A c B D Q ∧ Only (fun j => j = B) w w'
set_option maxRecDepth 100000 in
theorem note_any (h : Lo w g A c B D Q) {i : Nat} (hi : i < Q.length) (hin : In (Zm.A Q i).1) (hl : Q.length ≤ 2000000) (hsz : Maps.size D ≤ 2000000) :
  Calls Tryz.prog 145 #[.pointer (some ⟨g, 0, none⟩), .int .i64 (i : Int)] w (notePost w g A c B (D.put (kl (Zm.A Q i).1) (.lit (.int .i64 (i : Int)))) Q) := by
 obtain ⟨x0, x1, _⟩ := h.bk.two
 have lg := h.bk.lt
 obtain ⟨b, o, rfl, lb, i0, i1⟩ := h.at_ hi
 have hiI : (i : Int) < (Q.length : Int) := by omega
 have HD := Lib.hid (h.drewN 1)
 have HI : Hid (In (i : Int)) := ⟨by omega, by omega⟩
 have HN := Lib.hid hin
 have HS := Lib.hid hsz
 obtain ⟨n, hn⟩ : ∃ n, n = (Zm.A Q i).1 := ⟨_, rfl⟩
 rw [← hn] at i0 HN ⊢
 unfold notePost
 obtain ⟨D', hD⟩ : ∃ D', D' = D.put (kl n) (.lit (.int .i64 (i : Int))) := ⟨_, rfl⟩
 have HDE := Lib.hid hD
 rw [← hD]
 clear h hn hi hin hl hsz hD i1
 go_enter Tryz.func145, Tryz.ntmps145
 go_still_tail 13, (by kernel_rfl)
 change wpList _ _ _ _ _ w.drew
 go_wp2_with (at_mapUpdate; refine to_store _ rfl _ _ _ rfl B D rfl HD.out.ob HS.out n HN.out rfl (i : Int) HI.out rfl ?_; rw [← HDE.out]; intro w2 hw2 ho2; have HO2 := Lib.hid ho2; have HW2 := Lib.hid hw2; clear ho2 hw2)
 go_end0
 exact ⟨rfl, ⟨HD.out.bk.only HO2.out HD.out.gb, HW2.out, HD.out.mi.only HO2.out (fun a ha => (HD.out.ra a ha).2), HD.out.gb, HD.out.ra⟩, ((Only.refl (fun _ => False) w).drew.mono (fun _ _ h => h.elim)).trans (HO2.out.mono fun _ _ e => Or.inl e)⟩
end
end Go.Proofs.YtlmljhnogmfcfaaGreat.Zl
namespace Go.Proofs.YtlmljhnogmfcfaaGreat.Zs
open Go.RowKit Go.Maps Ap Mi Nw Ya Yb Yc Zk Zm Za Zl

def cI (w : World) (b j : Nat) : Int := match w.cell? ⟨b, j, none⟩ with
 | some v => intOf v
 | none => 0
def rdQ (w : World) (b o n : Nat) : List Td := (List.range n).map fun k => (cI w b (o + k * 2), cI w b (o + k * 2 + 1))
theorem rdQ_eq {w : World} {g c b o B : Nat} {D : DataW Unit} {Q : List Td} {n : Nat} (h : Lo w g (some ⟨b, o, none⟩) c B D Q) (hn : Q.length = n) : rdQ w b o n = Q := by
 subst hn
 refine List.ext_getElem (by simp [rdQ]) fun k h1 h2 => ?_
 obtain ⟨b', o', e, _, e1, e2⟩ := h.at_ h2
 injection e with e; injection e with ea eb
 subst ea; subst eb
 have e3 : (rdQ w b o Q.length)[k] = (cI w b (o + k * 2), cI w b (o + k * 2 + 1)) := by simp only [rdQ, List.getElem_map, List.getElem_range]
 rw [e3, ← A_get h2]
 have e4 : cI w b (o + k * 2) = (Zm.A Q k).1 := by unfold cI; rw [e1]; rfl
 have e5 : cI w b (o + k * 2 + 1) = (Zm.A Q k).2 := by unfold cI; rw [e2]; rfl
 rw [e4, e5]
theorem Lo_cells {w : World} {g c b o B : Nat} {D : DataW Unit} {Q : List Td} (h : Lo w g (some ⟨b, o, none⟩) c B D Q) {i : Nat} (hi : i < Q.length) :
  w.cell? ⟨b, o + i * 2, none⟩ = some (.int .i64 (Zm.A Q i).1) ∧ w.cell? ⟨b, o + i * 2 + 1, none⟩ = some (.int .u64 (Zm.A Q i).2) ∧ w.frozen? ⟨b, o + i * 2, none⟩ = false ∧ w.frozen? ⟨b, o + i * 2 + 1, none⟩ = false := by
 obtain ⟨h0, h1⟩ := tv_get Q i hi
 obtain ⟨a1, a2⟩ := mine_cell h.mi h0
 obtain ⟨b1, b2⟩ := mine_cell h.mi h1
 rw [A_get hi]
 exact ⟨a1, by rw [Nat.add_assoc]; exact b1, a2, by rw [Nat.add_assoc]; exact b2⟩
theorem Lo_inb {w : World} {g c b o B : Nat} {D : DataW Unit} {Q : List Td} (h : Lo w g (some ⟨b, o, none⟩) c B D Q) : b < w.heap.size := (h.mi.base rfl).2.1
theorem tv_set : ∀ (Q : List Td) (i : Nat) (y : Td), ((tv Q).set (i * 2) (.int .i64 y.1)).set (i * 2 + 1) (.int .u64 y.2) = tv (Q.set i y)
 | [], i, y => by simp [tv]
 | x :: r, 0, y => rfl
 | x :: r, i + 1, y => by
  have := tv_set r i y
  rw [show (i + 1) * 2 = i * 2 + 1 + 1 from by omega]
  show List.set (List.set (.int .i64 x.1 :: .int .u64 x.2 :: tv r) (i * 2 + 1 + 1) (.int .i64 y.1)) (i * 2 + 1 + 1 + 1) (.int .u64 y.2) = .int .i64 x.1 :: .int .u64 x.2 :: tv (r.set i y)
  rw [List.set_cons_succ, List.set_cons_succ, List.set_cons_succ, List.set_cons_succ, this]
def putW (w : World) (b o i : Nat) (y : Td) : World := (w.setCell ⟨b, o + i * 2, none⟩ (.int .i64 y.1)).setCell ⟨b, o + i * 2 + 1, none⟩ (.int .u64 y.2)
theorem put_lo {w : World} {g c b o B : Nat} {D : DataW Unit} {Q : List Td} (h : Lo w g (some ⟨b, o, none⟩) c B D Q) {i : Nat} (hi : i < Q.length) (y : Td) :
  Lo (putW w b o i y) g (some ⟨b, o, none⟩) c B D (Q.set i y) ∧ Only (fun j => j = b) w (putW w b o i y) := by
 have ho : Only (fun j => j = b) w (putW w b o i y) := ((Only.refl (fun j => j = b) w).put (ad := ⟨b, o + i * 2, none⟩) rfl _).put (ad := ⟨b, o + i * 2 + 1, none⟩) rfl _
 obtain ⟨r1, r2⟩ := h.ra _ rfl
 have hl := tv_len Q
 have hm := (h.mi.store (i * 2) (by omega) (.int .i64 y.1)).store (i * 2 + 1) (by rw [List.length_set]; omega) (.int .u64 y.2)
 rw [tv_set] at hm
 refine ⟨⟨?_, h.ob.kept ho (fun e => r2 e.symm), ?_, h.gb, h.ra⟩, ho⟩
 ·rw [List.length_set]; exact h.bk.only ho (fun e => r1 e.symm)
 ·rw [List.length_set]; exact hm
theorem swap_lo {w : World} {g c b o B : Nat} {D : DataW Unit} {R : List Td} (h : Lo w g (some ⟨b, o, none⟩) c B D R) {K T : Nat} (hK : K < R.length) (hT : T < R.length) :
  Lo (putW (putW w b o K (Zm.A R T)) b o T (Zm.A R K)).drew g (some ⟨b, o, none⟩) c B D (swp R K T) ∧ Only (fun j => j = B ∨ j = b) w (putW (putW w b o K (Zm.A R T)) b o T (Zm.A R K)).drew := by
 obtain ⟨a1, a2⟩ := put_lo h hK (Zm.A R T)
 obtain ⟨b1, b2⟩ := put_lo a1 (i := T) (by rw [List.length_set]; exact hT) (Zm.A R K)
 exact ⟨b1.drewN 1, ((a2.trans (b2.mono fun _ _ e => Or.inl e)).drewN 1).mono fun _ _ e => Or.inr e⟩
def siftPost (w : World) (g b o c B : Nat) (p : Int → Prop) (k : Nat) (x : Td) (Q : List Td) : Ending → World → Prop := fun e w' => ∃ D' Q' f' k', e = .returned (.tuple #[]) ∧ Lo w' g (some ⟨b, o, none⟩) c B D' Q' ∧ Q'.Perm Q ∧ HeapQ Q' ∧ Plc f' Q' ∧ Md D' (fun m => m = x.1 ∨ p m) k' f' ∧ (p x.1 → k' = k) ∧ (¬ p x.1 → k' = k + 1) ∧ Only (fun j => j = B ∨ j = b) w w'
theorem in_sl {n : Int} (h : Sl n) : In n := ⟨by have := h.1; omega, by have := h.2; omega⟩
structure St (w : World) (g b o c B : Nat) (p : Int → Prop) (k : Nat) (x : Td) (Q : List Td) (wr : World) (K : Nat) (R : List Td) (D : DataW Unit) (f : Int → Int) : Prop where
 lt : K < R.length
 len : R.length = Q.length
 perm : R.Perm Q
 hole : Hole R K
 at_ : Zm.A R K = x
 plc : PlcX f R K
 md : Md D p k f
 lo : Lo wr g (some ⟨b, o, none⟩) c B D R
 on : Only (fun j => j = B ∨ j = b) w wr
section
variable {w wr w3 : World} {g b o c B k K : Nat} {p : Int → Prop} {x : Td} {Q R : List Td} {D : DataW Unit} {f : Int → Int}
theorem St.key (S : St w g b o c B p k x Q wr K R D f) (hp : ∀ m ∈ ns Q, m ≠ x.1 → p m) (hd : (ns Q).Nodup) {T : Nat} (hT : T < R.length) (hTK : T ≠ K) : p (Zm.A R T).1 := by
 refine hp _ ((ns_mem S.perm _).1 (A_ns hT)) (fun e => hTK ?_)
 refine nd_at (ns_nd S.perm hd) hT S.lt ?_
 rw [e, S.at_]
theorem St.next (S : St w g b o c B p k x Q wr K R D f) (hp : ∀ m ∈ ns Q, m ≠ x.1 → p m) (hd : (ns Q).Nodup) {T : Nat} (hT : T < R.length) (hTK : T ≠ K) (hole : Hole (swp R K T) T)
  (lo : Lo w3 g (some ⟨b, o, none⟩) c B (D.put (kl (Zm.A (swp R K T) K).1) (.lit (.int .i64 (K : Int)))) (swp R K T)) (on : Only (fun j => j = B ∨ j = b) w w3) :
  St w g b o c B p k x Q w3 T (swp R K T) (D.put (kl (Zm.A (swp R K T) K).1) (.lit (.int .i64 (K : Int)))) (upd f (Zm.A (swp R K T) K).1 (K : Int)) := by
 have e1 : Zm.A (swp R K T) K = Zm.A R T := by rw [swp_at S.lt hT, if_neg (fun e => hTK e.symm), if_pos rfl]
 have hk := S.key hp hd hT hTK
 refine ⟨by rw [swp_len]; exact hT, by rw [swp_len]; exact S.len, (swp_perm S.lt hT).trans S.perm, hole, ?_, fun j hj hjT => ?_, ?_, lo, on⟩
 ·rw [swp_at S.lt hT, if_pos rfl]; exact S.at_
 ·rw [swp_len] at hj
  rw [e1]
  by_cases e : j = K
  ·subst e; rw [e1, upd_eq]
  ·rw [swp_at S.lt hT, if_neg hjT, if_neg e, upd_ne (fun h => hjT (nd_at (ns_nd S.perm hd) hj hT h))]
   exact S.plc j hj e
 ·rw [e1]; exact S.md.put_old hk _
theorem St.end_ (S : St w g b o c B p k x Q wr K R D f) (hd : (ns Q).Nodup) (hh : HeapQ R)
  (lo : Lo w3 g (some ⟨b, o, none⟩) c B (D.put (kl (Zm.A R K).1) (.lit (.int .i64 (K : Int)))) R) (on : Only (fun j => j = B ∨ j = b) w w3) : siftPost w g b o c B p k x Q (.returned (.tuple #[])) w3 := by
 have hpl : Plc (upd f (Zm.A R K).1 (K : Int)) R := fun j hj => by
  by_cases e : j = K
  ·subst e; exact upd_eq _ _ _
  ·rw [upd_ne (fun h => e (nd_at (ns_nd S.perm hd) hj S.lt h))]
   exact S.plc j hj e
 rw [S.at_] at lo hpl
 refine ⟨_, R, _, _, rfl, lo, S.perm, hh, hpl, S.md.put_raw _ _ rfl, fun hx => (S.md.put_old hx _).sz, fun hx => (S.md.put_new hx _).sz, on⟩
end
structure Ch (R : List Td) (K T M : Nat) : Prop where
 ge : 2 * K + 1 ≤ M
 le : M ≤ 2 * K + 3
 tl : T < R.length
 ch : T = K ∨ (2 * K + 1 ≤ T ∧ T ≤ 2 * K + 2 ∧ bf (Zm.A R T) (Zm.A R K))
 mn : ∀ d, 2 * K + 1 ≤ d → d < M → d < R.length → ¬ bf (Zm.A R d) (Zm.A R T)
section
variable {R : List Td} {K T M : Nat}
theorem Ch.start (h : K < R.length) : Ch R K K (2 * K + 1) := ⟨Nat.le_refl _, by omega, h, Or.inl rfl, fun d h1 h2 => by omega⟩
theorem Ch.yes (h : Ch R K T M) (hm : M ≤ 2 * K + 2) (hl : M < R.length) (hb : bf (Zm.A R M) (Zm.A R T)) : Ch R K M (M + 1) := by
 have hg := h.ge
 refine ⟨by omega, by omega, hl, Or.inr ⟨hg, hm, ?_⟩, fun d h1 h2 h3 => ?_⟩
 ·rcases h.ch with e | ⟨_, _, e⟩
  ·rw [e] at hb; exact hb
  ·exact bf_trans hb e
 ·by_cases e : d = M
  ·subst e; exact bf_irr _
  ·have := h.mn d h1 (by omega) h3
   intro hdm
   exact this (bf_trans hdm hb)
theorem Ch.no (h : Ch R K T M) (hm : M ≤ 2 * K + 2) (hb : ¬ bf (Zm.A R M) (Zm.A R T)) : Ch R K T (M + 1) := by
 have hg := h.ge
 refine ⟨by omega, by omega, h.tl, h.ch, fun d h1 h2 h3 => ?_⟩
 by_cases e : d = M
 ·subst e; exact hb
 ·exact h.mn d h1 (by omega) h3
theorem Ch.all (h : Ch R K T M) (hm : ¬ (M ≤ 2 * K + 2 ∧ M < R.length)) : ∀ d, 0 < d → d < R.length → par d = K → ¬ bf (Zm.A R d) (Zm.A R T) := fun d h0 h1 h2 => by
 have := h.ge; have := h.le
 unfold par at h2
 exact h.mn d (by omega) (by omega) h1
theorem Ch.done {w : World} {g b o c B k : Nat} {p : Int → Prop} {x : Td} {Q : List Td} {D : DataW Unit} {f : Int → Int} {wr : World} (h : Ch R K T M) (S : St w g b o c B p k x Q wr K R D f) (hn : ¬ bf (Zm.A R K) (Zm.A R (par K))) (hm : ¬ (M ≤ 2 * K + 2 ∧ M < R.length)) (e : T = K) : HeapQ R :=
 S.hole.done (fun _ => hn) (fun d h0 h1 h2 => by have := h.all hm d h0 h1 h2; rw [e] at this; exact this)
theorem Ch.down {w : World} {g b o c B k : Nat} {p : Int → Prop} {x : Td} {Q : List Td} {D : DataW Unit} {f : Int → Int} {wr : World} (h : Ch R K T M) (S : St w g b o c B p k x Q wr K R D f) (hn : ¬ bf (Zm.A R K) (Zm.A R (par K))) (hm : ¬ (M ≤ 2 * K + 2 ∧ M < R.length)) (e : T ≠ K) :
  Hole (swp R K T) T ∧ mu (swp R K T) T < mu R K := by
 rcases h.ch with e' | ⟨t1, t2, tb⟩
 ·exact absurd e' e
 ·have hp : par T = K := by unfold par; omega
  exact ⟨S.hole.down S.lt (by omega) h.tl hp tb (h.all hm), mu_down S.lt (by omega) h.tl hp hn tb⟩
end
set_option maxRecDepth 100000 in
set_option maxHeartbeats 4000000 in
theorem sift_any {w : World} {g b o c B i k : Nat} {D : DataW Unit} {Q : List Td} {p : Int → Prop} {f : Int → Int} (h : Lo w g (some ⟨b, o, none⟩) c B D Q) (hi : i < Q.length) (hd : (ns Q).Nodup) (hs : ∀ x ∈ Q, Sl x.1)
  (hm : Md D p k f) (hp : ∀ m ∈ ns Q, m ≠ (Zm.A Q i).1 → p m) (hf : PlcX f Q i) (ho : Hole Q i) (hk : k ≤ 1999990) (hl : Q.length ≤ 1999990) :
  Calls Tryz.prog 143 #[.slice (some ⟨b, o, none⟩) Q.length c, .int .i64 (i : Int), .func (.func 144) #[.pointer (some ⟨g, 0, none⟩)] #[], .func (.func 145) #[.pointer (some ⟨g, 0, none⟩)] #[]] w (siftPost w g b o c B p k (Zm.A Q i) Q) := by
 obtain ⟨x, hx⟩ : ∃ x, x = Zm.A Q i := ⟨_, rfl⟩
 rw [← hx] at hp ⊢
 have ST0 := Lib.hid (St.mk (w := w) (k := k) (x := x) hi rfl (List.Perm.refl _) ho hx.symm hf hm h (Only.refl _ _))
 obtain ⟨n, hn⟩ : ∃ n, n = Q.length := ⟨_, rfl⟩
 have HN := Lib.hid hn
 rw [← hn] at hl ⊢
 have HP := Lib.hid hp; have HD := Lib.hid hd; have HS := Lib.hid hs; have HKL := Lib.hid hk
 clear h hi hd hs hm hp hf ho hx hk hn
 go_enter Tryz.func143, Tryz.ntmps143
 go_wp2_with fail
 go_loopw [1] (fun u wr => ∃ K : Nat, u = .int .i64 (K : Int) ∧ ∃ R D1 f1, Hid (St w g b o c B p k x Q wr K R D1 f1)) (fun u wr => mu (rdQ wr b o n) (intOf u).toNat)
 case atStart => exact ⟨i, rfl, Q, D, f, ST0⟩
 case round =>
  obtain ⟨K, rfl, R, D1, f1, S1⟩ := hrel
  have hRn : R.length = n := by rw [HN.out]; exact S1.out.len
  have hKn : K < n := by rw [← hRn]; exact S1.out.lt
  have hKI : (K : Int) < (n : Int) := by omega
  have hPn : par K < n := by unfold par; omega
  have hq : ((K : Int) - 1).tdiv 2 = (par K : Int) := by
   unfold par
   rcases Nat.eq_zero_or_pos K with e | e
   ·subst e; rfl
   ·rw [Int.tdiv_eq_ediv_of_nonneg (by omega)]; omega
  have HB1 := Lib.hid (before_any S1.out.lo (i := K) (j := par K) (by omega) (by omega))
  by_cases hb : bf (Zm.A R K) (Zm.A R (par K))
  ·rw [decide_eq_true hb] at HB1
   go_wp2_with fail
   refine HB1.out.mono ?_
   rintro e w1 ⟨rfl, hb1⟩
   have LO := Lib.hid (S1.out.lo.below hb1 (Nat.le_refl _))
   have ON := Lib.hid (S1.out.on.trans (Only.of_below hb1 (Nat.le_refl _) _))
   clear hb1 HB1 hq
   obtain ⟨T, hT⟩ : ∃ T, T = par K := ⟨_, rfl⟩
   have k0 : 0 < K := by
    rcases Nat.eq_zero_or_pos K with e | e
    ·subst e; exact absurd hb (bf_irr _)
    ·exact e
   have hTn : T < n := by have := par_lt k0; omega
   have hTK : T ≠ K := by have := par_lt k0; omega
   have HOLE : Hid (Hole (swp R K T) T) := by show Hole _ _; rw [hT]; exact S1.out.hole.up S1.out.lt k0
   have HMU : Hid (mu (swp R K T) T < mu R K) := by show _ < _; rw [hT]; exact mu_up k0 hb
   rw [← hT]
   clear hT hb hPn
   have tI : (T : Int) < (n : Int) := by omega
   have hTI : ((T : Int) == (K : Int)) = false := by simp; omega
   have hTR : T < R.length := by omega
   have PK := Lib.hid (Lo_cells LO.out (i := K) (by omega))
   have PT := Lib.hid (Lo_cells LO.out (i := T) (by omega))
   have ltb := Lo_inb LO.out
   have LS := Lib.hid (swap_lo LO.out (K := K) (T := T) S1.out.lt hTR)
   unfold putW at LS
   obtain ⟨k0c, k1c, k0f, k1f⟩ := PK.out
   obtain ⟨t0c, t1c, t0f, t1f⟩ := PT.out
   clear hRn
   go_wp2_with fail
   go_region
   obtain ⟨w2, hw2⟩ : ∃ w2, w2 = ((((w1.setCell ⟨b, o + K * 2, none⟩ (Value.int IntKind.i64 (Zm.A R T).1)).setCell ⟨b, o + K * 2 + 1, none⟩ (Value.int IntKind.u64 (Zm.A R T).2)).setCell ⟨b, o + T * 2, none⟩ (Value.int IntKind.i64 (Zm.A R K).1)).setCell ⟨b, o + T * 2 + 1, none⟩ (Value.int IntKind.u64 (Zm.A R K).2)).drew := ⟨_, rfl⟩
   rw [← hw2] at LS ⊢
   clear hw2 k0c k1c k0f k1f t0c t1c t0f t1f
   have LO2 := Lib.hid LS.out.1
   have ON2 := Lib.hid (ON.out.trans (LS.out.2.mono fun _ _ e => Or.inl e))
   have HNOTE := Lib.hid (note_any LO2.out (i := K) (by rw [swp_len]; exact S1.out.lt) (in_sl (HS.out _ (by rw [swp_at S1.out.lt hTR, if_neg (fun e => hTK e.symm), if_pos rfl]; exact S1.out.perm.mem_iff.1 (A_mem hTR)))) (by rw [swp_len, S1.out.len, ← HN.out]; omega) (by rw [S1.out.md.sz]; have := HKL.out; omega))
   unfold notePost at HNOTE
   clear LS LO PK PT
   go_wp2_with fail
   refine HNOTE.out.mono ?_
   rintro e w3 ⟨rfl, lo3, on3⟩
   have LO3 := Lib.hid lo3
   have ON3 := Lib.hid (ON2.out.trans (on3.mono fun _ _ e => Or.inl (Or.inl e)))
   clear lo3 on3 HNOTE
   go_wp2_with fail
   go_roundw
   case rel => exact ⟨T, rfl, _, _, _, Lib.hid (S1.out.next HP.out HD.out hTR hTK HOLE.out LO3.out ON3.out)⟩
   case measure =>
    have e1 := rdQ_eq LO3.out (n := n) (by rw [swp_len, S1.out.len, ← HN.out])
    have e2 := rdQ_eq S1.out.lo (n := n) (by rw [S1.out.len, ← HN.out])
    rw [e1, e2]
    exact HMU.out
  ·rw [decide_eq_false hb] at HB1
   go_wp2_with fail
   refine HB1.out.mono ?_
   rintro e w1 ⟨rfl, hb1⟩
   have LO := Lib.hid (S1.out.lo.below hb1 (Nat.le_refl _))
   have ON := Lib.hid (S1.out.on.trans (Only.of_below hb1 (Nat.le_refl _) _))
   clear hb1 HB1 hq
   have HNB := Lib.hid hb
   clear hb hPn
   go_wp2_with fail
   go_loopw [8, 10] (fun t m wi => ∃ T M : Nat, t = .int .i64 (T : Int) ∧ m = .int .i64 (M : Int) ∧ Hid (Ch R K T M) ∧ Hid (Lo wi g (some ⟨b, o, none⟩) c B D1 R) ∧ Hid (Only (fun j => j = B ∨ j = b) w wi)) (fun _ m _ => 2 * K + 3 - (intOf m).toNat)
   case atStart => exact ⟨K, 2 * K + 1, rfl, by go_num, Lib.hid (Ch.start S1.out.lt), LO, ON⟩
   case round =>
    clear LO ON
    obtain ⟨T, M, rfl, rfl, CH, LO, ON⟩ := hrel
    have hge := CH.out.ge; have hle := CH.out.le
    by_cases hm : M ≤ 2 * K + 2
    ·have hmI : (M : Int) ≤ 2 * (K : Int) + 2 := by omega
     by_cases hl : M < n
     ·have hlI : (M : Int) < (n : Int) := by omega
      have HB2 := Lib.hid (before_any LO.out (i := M) (j := T) (by omega) CH.out.tl)
      by_cases hb : bf (Zm.A R M) (Zm.A R T)
      ·rw [decide_eq_true hb] at HB2
       have CH2 := Lib.hid (CH.out.yes hm (by omega) hb)
       clear hb hRn
       go_wp2_with fail
       refine HB2.out.mono ?_
       rintro e w2 ⟨rfl, hb2⟩
       have LO2 := Lib.hid (LO.out.below hb2 (Nat.le_refl _))
       have ON2 := Lib.hid (ON.out.trans (Only.of_below hb2 (Nat.le_refl _) _))
       clear hb2 HB2
       go_wp2_with fail
       go_roundw
       case rel => exact ⟨M, M + 1, rfl, by go_num, CH2, LO2, ON2⟩
       case measure => simp [intOf]; omega
      ·rw [decide_eq_false hb] at HB2
       have CH2 := Lib.hid (CH.out.no hm hb)
       clear hb hRn
       go_wp2_with fail
       refine HB2.out.mono ?_
       rintro e w2 ⟨rfl, hb2⟩
       have LO2 := Lib.hid (LO.out.below hb2 (Nat.le_refl _))
       have ON2 := Lib.hid (ON.out.trans (Only.of_below hb2 (Nat.le_refl _) _))
       clear hb2 HB2
       go_wp2_with fail
       go_roundw
       case rel => exact ⟨T, M + 1, rfl, by go_num, CH2, LO2, ON2⟩
       case measure => simp [intOf]; omega
     ·have hlI : ¬ (M : Int) < (n : Int) := by omega
      have HX : Hid (¬ (M ≤ 2 * K + 2 ∧ M < R.length)) := fun e => hl (by rw [← hRn]; exact e.2)
      by_cases hTK : T = K
      ·have HH := Lib.hid (CH.out.done S1.out HNB.out HX.out hTK)
       subst hTK
       have hTI : ((T : Int) == (T : Int)) = true := by simp
       have HNOTE := Lib.hid (note_any LO.out (i := T) S1.out.lt (in_sl (HS.out _ (S1.out.perm.mem_iff.1 (A_mem S1.out.lt)))) (by rw [S1.out.len, ← HN.out]; omega) (by rw [S1.out.md.sz]; have := HKL.out; omega))
       unfold notePost at HNOTE
       clear hRn
       go_wp2_with fail
       refine HNOTE.out.mono ?_
       rintro e w3 ⟨rfl, lo3, on3⟩
       have LO3 := Lib.hid lo3
       have ON3 := Lib.hid (ON.out.trans (on3.mono fun _ _ e => Or.inl (Or.inl e)))
       clear lo3 on3 HNOTE
       go_wp2_with fail
       go_end0
       exact S1.out.end_ HD.out HH.out LO3.out ON3.out
      ·have hTn : T < n := by rw [← hRn]; exact CH.out.tl
       have HOLE := Lib.hid (CH.out.down S1.out HNB.out HX.out hTK).1
       have HMU := Lib.hid (CH.out.down S1.out HNB.out HX.out hTK).2
       have tI : (T : Int) < (n : Int) := by omega
       have hTI : ((T : Int) == (K : Int)) = false := by simp; omega
       have hTR : T < R.length := by omega
       have PK := Lib.hid (Lo_cells LO.out (i := K) (by omega))
       have PT := Lib.hid (Lo_cells LO.out (i := T) (by omega))
       have ltb := Lo_inb LO.out
       have LS := Lib.hid (swap_lo LO.out (K := K) (T := T) S1.out.lt hTR)
       unfold putW at LS
       obtain ⟨k0c, k1c, k0f, k1f⟩ := PK.out
       obtain ⟨t0c, t1c, t0f, t1f⟩ := PT.out
       clear hRn
       go_wp2_with fail
       go_region
       obtain ⟨w2, hw2⟩ : ∃ w2, w2 = ((((wr.setCell ⟨b, o + K * 2, none⟩ (Value.int IntKind.i64 (Zm.A R T).1)).setCell ⟨b, o + K * 2 + 1, none⟩ (Value.int IntKind.u64 (Zm.A R T).2)).setCell ⟨b, o + T * 2, none⟩ (Value.int IntKind.i64 (Zm.A R K).1)).setCell ⟨b, o + T * 2 + 1, none⟩ (Value.int IntKind.u64 (Zm.A R K).2)).drew := ⟨_, rfl⟩
       rw [← hw2] at LS ⊢
       clear hw2 k0c k1c k0f k1f t0c t1c t0f t1f
       have LO2 := Lib.hid LS.out.1
       have ON2 := Lib.hid (ON.out.trans (LS.out.2.mono fun _ _ e => Or.inl e))
       have HNOTE := Lib.hid (note_any LO2.out (i := K) (by rw [swp_len]; exact S1.out.lt) (in_sl (HS.out _ (by rw [swp_at S1.out.lt hTR, if_neg (fun e => hTK e.symm), if_pos rfl]; exact S1.out.perm.mem_iff.1 (A_mem hTR)))) (by rw [swp_len, S1.out.len, ← HN.out]; omega) (by rw [S1.out.md.sz]; have := HKL.out; omega))
       unfold notePost at HNOTE
       clear LS LO PK PT
       go_wp2_with fail
       refine HNOTE.out.mono ?_
       rintro e w3 ⟨rfl, lo3, on3⟩
       have LO3 := Lib.hid lo3
       have ON3 := Lib.hid (ON2.out.trans (on3.mono fun _ _ e => Or.inl (Or.inl e)))
       clear lo3 on3 HNOTE
       go_wp2_with fail
       go_roundw
       case rel => exact ⟨T, rfl, _, _, _, Lib.hid (S1.out.next HP.out HD.out hTR hTK HOLE.out LO3.out ON3.out)⟩
       case measure =>
        have e1 := rdQ_eq LO3.out (n := n) (by rw [swp_len, S1.out.len, ← HN.out])
        have e2 := rdQ_eq S1.out.lo (n := n) (by rw [S1.out.len, ← HN.out])
        rw [e1, e2]
        exact HMU.out
    ·have hmI : ¬ (M : Int) ≤ 2 * (K : Int) + 2 := by omega
     have HX : Hid (¬ (M ≤ 2 * K + 2 ∧ M < R.length)) := fun e => hm e.1
     by_cases hTK : T = K
     ·have HH := Lib.hid (CH.out.done S1.out HNB.out HX.out hTK)
      subst hTK
      have hTI : ((T : Int) == (T : Int)) = true := by simp
      have HNOTE := Lib.hid (note_any LO.out (i := T) S1.out.lt (in_sl (HS.out _ (S1.out.perm.mem_iff.1 (A_mem S1.out.lt)))) (by rw [S1.out.len, ← HN.out]; omega) (by rw [S1.out.md.sz]; have := HKL.out; omega))
      unfold notePost at HNOTE
      clear hRn
      go_wp2_with fail
      refine HNOTE.out.mono ?_
      rintro e w3 ⟨rfl, lo3, on3⟩
      have LO3 := Lib.hid lo3
      have ON3 := Lib.hid (ON.out.trans (on3.mono fun _ _ e => Or.inl (Or.inl e)))
      clear lo3 on3 HNOTE
      go_wp2_with fail
      go_end0
      exact S1.out.end_ HD.out HH.out LO3.out ON3.out
     ·have hTn : T < n := by rw [← hRn]; exact CH.out.tl
      have HOLE := Lib.hid (CH.out.down S1.out HNB.out HX.out hTK).1
      have HMU := Lib.hid (CH.out.down S1.out HNB.out HX.out hTK).2
      have tI : (T : Int) < (n : Int) := by omega
      have hTI : ((T : Int) == (K : Int)) = false := by simp; omega
      have hTR : T < R.length := by omega
      have PK := Lib.hid (Lo_cells LO.out (i := K) (by omega))
      have PT := Lib.hid (Lo_cells LO.out (i := T) (by omega))
      have ltb := Lo_inb LO.out
      have LS := Lib.hid (swap_lo LO.out (K := K) (T := T) S1.out.lt hTR)
      unfold putW at LS
      obtain ⟨k0c, k1c, k0f, k1f⟩ := PK.out
      obtain ⟨t0c, t1c, t0f, t1f⟩ := PT.out
      clear hRn
      go_wp2_with fail
      go_region
      obtain ⟨w2, hw2⟩ : ∃ w2, w2 = ((((wr.setCell ⟨b, o + K * 2, none⟩ (Value.int IntKind.i64 (Zm.A R T).1)).setCell ⟨b, o + K * 2 + 1, none⟩ (Value.int IntKind.u64 (Zm.A R T).2)).setCell ⟨b, o + T * 2, none⟩ (Value.int IntKind.i64 (Zm.A R K).1)).setCell ⟨b, o + T * 2 + 1, none⟩ (Value.int IntKind.u64 (Zm.A R K).2)).drew := ⟨_, rfl⟩
      rw [← hw2] at LS ⊢
      clear hw2 k0c k1c k0f k1f t0c t1c t0f t1f
      have LO2 := Lib.hid LS.out.1
      have ON2 := Lib.hid (ON.out.trans (LS.out.2.mono fun _ _ e => Or.inl e))
      have HNOTE := Lib.hid (note_any LO2.out (i := K) (by rw [swp_len]; exact S1.out.lt) (in_sl (HS.out _ (by rw [swp_at S1.out.lt hTR, if_neg (fun e => hTK e.symm), if_pos rfl]; exact S1.out.perm.mem_iff.1 (A_mem hTR)))) (by rw [swp_len, S1.out.len, ← HN.out]; omega) (by rw [S1.out.md.sz]; have := HKL.out; omega))
      unfold notePost at HNOTE
      clear LS LO PK PT
      go_wp2_with fail
      refine HNOTE.out.mono ?_
      rintro e w3 ⟨rfl, lo3, on3⟩
      have LO3 := Lib.hid lo3
      have ON3 := Lib.hid (ON2.out.trans (on3.mono fun _ _ e => Or.inl (Or.inl e)))
      clear lo3 on3 HNOTE
      go_wp2_with fail
      go_roundw
      case rel => exact ⟨T, rfl, _, _, _, Lib.hid (S1.out.next HP.out HD.out hTR hTK HOLE.out LO3.out ON3.out)⟩
      case measure =>
       have e1 := rdQ_eq LO3.out (n := n) (by rw [swp_len, S1.out.len, ← HN.out])
       have e2 := rdQ_eq S1.out.lo (n := n) (by rw [S1.out.len, ← HN.out])
       rw [e1, e2]
       exact HMU.out
end Go.Proofs.YtlmljhnogmfcfaaGreat.Zs
namespace Go.Proofs.YtlmljhnogmfcfaaGreat.Zt
open Go.RowKit Go.Maps Ap Mi Nw Ya Yb Yc Zk Zm Za Zl Zs

section
variable {w : World} {g b o c B i k : Nat} {D : DataW Unit} {Q : List Td} {p : Int → Prop} {f : Int → Int}
set_option maxRecDepth 100000 in
theorem settle_any (h : Lo w g (some ⟨b, o, none⟩) c B D Q) (hi : i < Q.length) (hd : (ns Q).Nodup) (hs : ∀ x ∈ Q, Sl x.1)
  (hm : Md D p k f) (hp : ∀ m ∈ ns Q, m ≠ (Zm.A Q i).1 → p m) (hf : PlcX f Q i) (ho : Hole Q i) (hk : k ≤ 1999990) (hl : Q.length ≤ 1999990) :
  Calls Tryz.prog 110 #[.pointer (some ⟨g, 0, none⟩), .int .i64 (i : Int)] w (siftPost w g b o c B p k (Zm.A Q i) Q) := by
 have HF := Lib.hid (sift_any h hi hd hs hm hp hf ho hk hl)
 obtain ⟨x0, x1, _⟩ := h.bk.two
 have lg := h.bk.lt
 obtain ⟨P, hP⟩ : ∃ P, P = siftPost w g b o c B p k (Zm.A Q i) Q := ⟨_, rfl⟩
 have HR : Hid (∀ v w', P (.returned v) w' → v = .tuple #[]) := by
  show ∀ v w', _
  rw [hP]
  rintro v w' ⟨_, _, _, _, e, _⟩
  injection e
 have HO : Hid (∀ e w', P e w' → ∃ v, e = .returned v) := by
  show ∀ e w', _
  rw [hP]
  rintro e w' ⟨_, _, _, _, e, _⟩
  exact ⟨_, e⟩
 rw [← hP] at HF ⊢
 clear h hi hd hs hm hp hf ho hk hl hP
 go_enter Tryz.func110, Tryz.ntmps110
 go_wp2_with fail
 refine HF.out.mono ?_
 intro e w1 he
 have HE := Lib.hid he
 obtain ⟨v, rfl⟩ := HO.out _ _ he
 obtain rfl := HR.out _ _ he
 clear he
 go_wp2_with fail
 go_end0
 exact HE.out
def takePost (w : World) (g b o c B : Nat) (Q : List Td) (i : Nat) : Ending → World → Prop := fun e w' => ∃ D' Q' f', e = .returned (tA (Zm.A Q i)) ∧ Lo w' g (some ⟨b, o, none⟩) c B D' Q' ∧ Q'.Perm (wo Q (Zm.A Q i).1) ∧ HeapQ Q' ∧ Plc f' Q' ∧ Md D' (fun m => m ∈ ns Q') Q'.length f' ∧ Only (fun j => j = g ∨ j = B ∨ j = b) w w'
structure Tk (w' : World) (g b o c B : Nat) (Q R : List Td) (n : Nat) (D : DataW Unit) (f : Int → Int) : Prop where
 lo : Lo w' g (some ⟨b, o, none⟩) c B D R
 heap : HeapQ R
 plc : Plc f R
 md : Md D (fun m => m ∈ ns Q) n f
set_option maxRecDepth 100000 in
set_option maxHeartbeats 2000000 in
theorem take_any (h : Lo w g (some ⟨b, o, none⟩) c B D Q) (hi : i < Q.length) (hd : (ns Q).Nodup) (hs : ∀ x ∈ Q, Sl x.1)
  (hm : Md D (fun m => m ∈ ns Q) Q.length f) (hf : Plc f Q) (hh : HeapQ Q) (hl : Q.length ≤ 1999990) :
  Calls Tryz.prog 113 #[.pointer (some ⟨g, 0, none⟩), .int .i64 (i : Int)] w (takePost w g b o c B Q i) := by
 have HLO := Lib.hid h; have HMD := Lib.hid hm; have HF := Lib.hid hf; have HH := Lib.hid hh; have HND := Lib.hid hd; have HS := Lib.hid hs; have HI := Lib.hid hi
 have HP1 := Lib.hid (cutQ_perm hd hi rfl)
 have HSX : Hid (Sl (Zm.A Q i).1) := hs _ (A_mem hi)
 have HXN : Hid ((Zm.A Q i).1 ∈ ns Q) := A_ns hi
 obtain ⟨x0, x1, xf0, xf1⟩ := h.bk.two
 have lg := h.bk.lt
 have lb := Lo_inb h
 have hcl := h.mi.le
 obtain ⟨k0c, k1c, k0f, k1f⟩ := Lo_cells h hi
 obtain ⟨n, hn⟩ : ∃ n, n = Q.length := ⟨_, rfl⟩
 obtain ⟨M, hM⟩ : ∃ M, M = n - 1 := ⟨_, rfl⟩
 have HM : Hid (M = Q.length - 1) := by show _ = _; rw [hM, hn]
 have HN := Lib.hid hn
 rw [← hn] at hl x0 hcl hi HMD
 have hML : ((n : Int) - 1) = (M : Int) := by omega
 have hiI : (i : Int) < (n : Int) := by omega
 have hlI : (n : Int) ≤ 1999990 := by omega
 have hMn : M < n := by omega
 have hMI : (M : Int) < (n : Int) := by omega
 have hMc : (M : Int) ≤ (c : Int) := by omega
 have hin : i < n := hi
 obtain ⟨x, hx⟩ : ∃ x, x = Zm.A Q i := ⟨_, rfl⟩
 have HX := Lib.hid hx
 rw [← hx] at k0c k1c HP1 HSX HXN
 clear h hm hf hh hd hs hn hM hi hx hcl
 go_enter Tryz.func113, Tryz.ntmps113
 go_wp2_with fail
 go_region
 obtain ⟨w1, hw1⟩ : ∃ w1, w1 = ((w.alloc (Obj.cells #[Value.int IntKind.i64 0, Value.int IntKind.u64 0] 116)).alloc (Obj.cells #[Value.int IntKind.i64 x.1, Value.int IntKind.u64 x.2] 116)).drew := ⟨_, rfl⟩
 have b1 : Below w.heap.size w w1 := by rw [hw1]; exact ((bnew w _).alloc (by simp) _).drew
 have R0 : Hid (Blk w1 w.heap.size #[.int .i64 0, .int .u64 0] 116) := by
  show Blk _ _ _ _; rw [hw1]
  exact (Blk.new w #[.int .i64 0, .int .u64 0] 116).below (bnew (w.alloc (.cells #[.int .i64 0, .int .u64 0] 116)) (.cells #[.int .i64 x.1, .int .u64 x.2] 116)).drew (by simp)
 have R1 : Hid (Blk w1 (w.heap.size + 1) #[.int .i64 x.1, .int .u64 x.2] 116) := by
  show Blk _ _ _ _; rw [hw1]
  have := Blk.new (w.alloc (.cells #[.int .i64 0, .int .u64 0] 116)) #[.int .i64 x.1, .int .u64 x.2] 116
  exact (show Blk ((w.alloc (.cells #[.int .i64 0, .int .u64 0] 116)).alloc (.cells #[.int .i64 x.1, .int .u64 x.2] 116)) (w.heap.size + 1) #[.int .i64 x.1, .int .u64 x.2] 116 by simpa using this)
 rw [← hw1]
 clear hw1 k0c k1c k0f k1f x0 x1 xf0 xf1
 have LO1 := Lib.hid (HLO.out.below b1 (Nat.le_refl _))
 have ON1 := Lib.hid (Only.of_below b1 (Nat.le_refl _) (fun j => j = g ∨ j = B ∨ j = b))
 have hz1 := R1.out.lt
 clear b1
 obtain ⟨x0, x1, xf0, xf1⟩ := LO1.out.bk.two
 rw [← HN.out] at x0
 obtain ⟨k0c, k1c, k0f, k1f⟩ := Lo_cells LO1.out (i := i) HI.out
 obtain ⟨m0c, m1c, m0f, m1f⟩ := Lo_cells LO1.out (i := M) (by rw [← HN.out]; omega)
 have PW := Lib.hid (put_lo LO1.out (i := i) HI.out (Zm.A Q M))
 unfold putW at PW
 clear lb
 have lb := Lo_inb LO1.out
 have lg1 := LO1.out.bk.lt
 go_wp2_with fail
 go_region
 obtain ⟨w2, hw2⟩ : ∃ w2, w2 = (w1.setCell ⟨b, o + i * 2, none⟩ (.int .i64 (Zm.A Q M).1)).setCell ⟨b, o + i * 2 + 1, none⟩ (.int .u64 (Zm.A Q M).2) := ⟨_, rfl⟩
 rw [← hw2] at PW ⊢
 obtain ⟨w2', hw2'⟩ : ∃ w2', w2' = w2.drew := ⟨_, rfl⟩
 have LO2 : Hid (Lo w2' g (some ⟨b, o, none⟩) c B D (Q.set i (Zm.A Q M))) := by show Lo _ _ _ _ _ _ _; rw [hw2']; exact PW.out.1.drewN 1
 have OB2 : Hid (Only (fun j => j = b) w1 w2') := by show Only _ _ _; rw [hw2']; exact PW.out.2.drewN 1
 have ON2 := Lib.hid (ON1.out.trans (OB2.out.mono fun _ _ e => Or.inl (Or.inr (Or.inr e))))
 have nb0 : w.heap.size ≠ b := by have := Lo_inb HLO.out; omega
 have nb1 : w.heap.size + 1 ≠ b := by have := Lo_inb HLO.out; omega
 have ng0 : w.heap.size ≠ g := by omega
 have ng1 : w.heap.size + 1 ≠ g := by omega
 have nB0 : w.heap.size ≠ B := by have := HLO.out.ob.lt; omega
 have nB1 : w.heap.size + 1 ≠ B := by have := HLO.out.ob.lt; omega
 have R02 := Lib.hid (R0.out.only OB2.out nb0)
 have R12 := Lib.hid (R1.out.only OB2.out nb1)
 rw [← hw2']
 clear hw2 hw2' PW k0c k1c k0f k1f m0c m1c m0f m1f x0 x1 xf0 xf1 lb
 obtain ⟨x0, x1, xf0, xf1⟩ := LO2.out.bk.two
 rw [List.length_set, ← HN.out] at x0
 have lg2 := LO2.out.bk.lt
 go_upto_region 4 with fail
 obtain ⟨w3, hw3⟩ : ∃ w3, w3 = w2'.setCell ⟨g, 0, none⟩ (.slice (some ⟨b, o, none⟩) M c) := ⟨_, rfl⟩
 have OG3 : Hid (Only (fun j => j = g) w2' w3) := by show Only _ _ _; rw [hw3]; exact (Only.refl (fun j => j = g) _).put (ad := ⟨g, 0, none⟩) rfl _
 have LO3 : Hid (Lo w3 g (some ⟨b, o, none⟩) c B D (cutQ Q i)) := by
  have hb3 := LO2.out.bk.set 0 (.slice (some ⟨b, o, none⟩) M c)
  rw [← hw3] at hb3
  refine ⟨?_, LO2.out.ob.kept OG3.out (fun e => LO2.out.gb e.symm), ?_, LO2.out.gb, LO2.out.ra⟩
  ·rw [cutQ_len, ← HM.out]; exact hb3
  ·rw [cutQ_len, ← HM.out]
   have := shrink (LO2.out.mi.only OG3.out (fun a ha => (LO2.out.ra a ha).1)) (k := M) (by rw [List.length_set, ← HN.out]; omega)
   rw [tv_take] at this
   rw [show cutQ Q i = (Q.set i (Zm.A Q M)).take M from by unfold cutQ; rw [← HM.out]]
   exact this
 have ON3 := Lib.hid (ON2.out.trans (OG3.out.mono fun _ _ e => Or.inl (Or.inl e)))
 have R03 := Lib.hid (R02.out.only OG3.out ng0)
 have R13 := Lib.hid (R12.out.only OG3.out ng1)
 rw [← hw3]
 clear hw3 x0 x1 xf0 xf1
 by_cases hiM : i < M
 case' pos =>
  have hiMI : (i : Int) < (M : Int) := by omega
  have HSE := Lib.hid (settle_any (p := fun m => m ∈ ns Q) (k := n) LO3.out (i := i) (by rw [cutQ_len, ← HM.out]; exact hiM) (ns_nd HP1.out ((ns_sub (wo_sub _ _)).nodup HND.out)) (fun y hy => HS.out y (mem_wo.1 (HP1.out.mem_iff.1 hy)).1) HMD.out
   (fun m hm _ => by obtain ⟨y, hy, e⟩ := mem_ns.1 hm; exact mem_ns.2 ⟨y, (mem_wo.1 (HP1.out.mem_iff.1 hy)).1, e⟩)
   (fun k hk hki => by rw [cutQ_len] at hk; rw [cutQ_at HI.out hk, if_neg hki]; exact HF.out k (by omega)) (HH.out.cut (by rw [← HM.out]; exact hiM)) (by omega) (by rw [cutQ_len, ← HM.out]; omega))
  unfold siftPost at HSE
  go_wp2_with fail
  refine HSE.out.mono ?_
  rintro e w4 ⟨D4, Q4, f4, k4, rfl, a1, a2, a3, a4, a5, a6, a7, a8⟩
  have HXQ : Hid ((Zm.A (cutQ Q i) i).1 ∈ ns Q) := by
   show _ ∈ _
   rw [cutQ_at HI.out (by rw [← HM.out]; exact hiM), if_pos rfl]
   exact A_ns (by rw [← HN.out]; omega)
  have T4 : Hid (Tk w4 g b o c B Q Q4 n D4 f4) := ⟨a1, a3, a4, by
   have e := a6 HXQ.out
   exact a5.ext (fun m => ⟨fun h => h.elim (fun e => e ▸ HXQ.out) id, Or.inr⟩) e (fun _ _ => rfl)⟩
  have HP4 := Lib.hid (a2.trans HP1.out)
  have O4 := Lib.hid a8
  clear a1 a2 a3 a4 a5 a6 a7 a8 HSE HXQ hiM hiMI
  go_wp2_with fail
 case' neg =>
  have hiMI : ¬ (i : Int) < (M : Int) := by omega
  have T4 : Hid (Tk w3 g b o c B Q (cutQ Q i) n D f) := by
   have e : cutQ Q i = Q.take M := by rw [cut_last (by rw [← HM.out]; omega)]; congr 1; omega
   refine ⟨LO3.out, by rw [e]; exact HH.out.take M, fun k hk => ?_, HMD.out⟩
   rw [e] at hk ⊢
   rw [List.length_take] at hk
   rw [A_take (by omega)]
   exact HF.out k (by omega)
  obtain ⟨Q4, hQ4⟩ : ∃ Q4, Q4 = cutQ Q i := ⟨_, rfl⟩
  obtain ⟨w4, hw4⟩ : ∃ w4, w4 = w3 := ⟨_, rfl⟩
  have HP4 : Hid (Q4.Perm (wo Q x.1)) := by show List.Perm _ _; rw [hQ4]; exact HP1.out
  have O4 : Hid (Only (fun j => j = B ∨ j = b) w3 w4) := by show Only _ _ _; rw [hw4]; exact Only.refl _ _
  obtain ⟨D4, hD4⟩ : ∃ D4, D4 = D := ⟨_, rfl⟩
  obtain ⟨f4, hf4⟩ : ∃ f4, f4 = f := ⟨_, rfl⟩
  rw [← hQ4, ← hD4, ← hf4, ← hw4] at T4
  rw [← hw4]
  clear hiM hQ4 hD4 hf4 hw4
  go_wp2_with fail
 all_goals
  have R04 := Lib.hid (R03.out.only O4.out (fun e => e.elim nB0 nb0))
  have R14 := Lib.hid (R13.out.only O4.out (fun e => e.elim nB1 nb1))
  have ON4 := Lib.hid (ON3.out.trans (O4.out.mono fun _ _ e => Or.inl (Or.inr e)))
  obtain ⟨x0, x1, _⟩ := T4.out.lo.bk.two
  obtain ⟨r0, r1, _⟩ := R14.out.two
  have lg4 := T4.out.lo.bk.lt
  have lr4 := R14.out.lt
  go_still_tail 6, (by kernel_rfl)
  change wpList _ _ _ _ _ w4.drew
  clear x0 x1 r0 r1
  go_upto_region 7 with (at_delete; refine to_del _ rfl _ _ rfl B D4 rfl (T4.out.lo.drewN 1).ob x.1 (in_sl HSX.out) rfl ?_; intro w5 hw5 ho5; have HO5 := Lib.hid ho5; have HW5 := Lib.hid hw5; clear ho5 hw5)
  have OD5 : Hid (Only (fun j => j = B) w4 w5) := ((Only.refl (fun _ => False) w4).drew.mono (fun _ _ h => h.elim)).trans (HO5.out.mono fun _ _ e => Or.inl e)
  have R05 := Lib.hid (R04.out.only OD5.out nB0)
  have R15 := Lib.hid (R14.out.only OD5.out nB1)
  have ON5 := Lib.hid (ON4.out.trans (OD5.out.mono fun _ _ e => Or.inl (Or.inr (Or.inl e))))
  have LO5 : Hid (Lo w5 g (some ⟨b, o, none⟩) c B (D4.del (kl x.1)) Q4) := ⟨T4.out.lo.bk.only OD5.out T4.out.lo.gb, HW5.out, T4.out.lo.mi.only OD5.out (fun a ha => (T4.out.lo.ra a ha).2), T4.out.lo.gb, T4.out.lo.ra⟩
  obtain ⟨r0, r1, _⟩ := R15.out.two
  obtain ⟨s0, s1, sf0, sf1⟩ := R05.out.two
  have lr5 := R15.out.lt
  have lr0 := R05.out.lt
  go_wp2_with fail
  obtain ⟨w6, hw6⟩ : ∃ w6, w6 = (w5.setCell ⟨w.heap.size, 0, none⟩ (.int .i64 x.1)).setCell ⟨w.heap.size, 1, none⟩ (.int .u64 x.2) := ⟨_, rfl⟩
  have R06 : Hid (Blk w6 w.heap.size #[.int .i64 x.1, .int .u64 x.2] 116) := by
   show Blk _ _ _ _; rw [hw6]
   exact (R05.out.set 0 (.int .i64 x.1)).set 1 (.int .u64 x.2)
  have O6 : Hid (Only (fun j => j = w.heap.size) w5 w6) := by
   show Only _ _ _; rw [hw6]
   exact ((Only.refl (fun j => j = w.heap.size) w5).put (ad := ⟨w.heap.size, 0, none⟩) rfl _).put (ad := ⟨w.heap.size, 1, none⟩) rfl _
  rw [← hw6]
  clear hw6 r0 r1 s0 s1 sf0 sf1
  obtain ⟨t0, t1, _⟩ := R06.out.two
  refine bodyPost_ret (v := .agg #[.int .i64 x.1, .int .u64 x.2]) (by simp [results, Tryz.results113, go_sem, t0, t1]) rfl ?_
  have hmem : ∀ m, (m ∈ ns Q ∧ m ≠ x.1) ↔ m ∈ ns Q4 := fun m => by
   rw [ns_mem HP4.out, mem_ns, mem_ns]
   exact ⟨fun ⟨⟨y, hy, e⟩, h⟩ => ⟨y, mem_wo.2 ⟨hy, fun h' => h (by rw [← e]; exact h')⟩, e⟩, fun ⟨y, hy, e⟩ => ⟨⟨y, (mem_wo.1 hy).1, e⟩, fun h => (mem_wo.1 hy).2 (by rw [e]; exact h)⟩⟩
  have hlen : M = Q4.length := by
   have h1 := wo_len HND.out HXN.out
   rw [HP4.out.length_eq]; have := HN.out; omega
  have hmd : Md (D4.del (kl x.1)) (fun m => m ∈ ns Q4) Q4.length f4 := by
   have hnM : n = M + 1 := by omega
   have h4 := T4.out.md
   rw [hnM] at h4
   exact (h4.del HXN.out).ext hmem hlen (fun _ _ => rfl)
  refine ⟨_, Q4, f4, by rw [← HX.out]; rfl, LO5.out.kept O6.out (fun e => ng0 e.symm) (fun e => nB0 e.symm) (fun a ha => ?_), by rw [← HX.out]; exact HP4.out, T4.out.heap, T4.out.plc, hmd, ON5.out.trans (O6.out.mono fun j hj e => Or.inr (by rw [e]; exact Nat.le_refl _))⟩
  injection ha with ha
  rw [← ha]
  exact fun e => nb0 e.symm
end
end Go.Proofs.YtlmljhnogmfcfaaGreat.Zt
namespace Go.Proofs.YtlmljhnogmfcfaaGreat.Ye
open Go.RowKit Go.Maps Ap Mi Nw Ya Yb Yc Yd Zk Zm Za Zl Zs Zt

structure Hp (F : Nat → Prop) (w : World) (g : Nat) (L : List Td) : Prop where
 has : ∃ (A : Option Addr) (c B : Nat) (D : DataW Unit) (Q : List Td) (f : Int → Int), Lo w g A c B D Q ∧ (F g ∧ F B ∧ ∀ a, A = some a → F a.block) ∧ Md D (fun m => m ∈ ns Q) Q.length f ∧ Plc f Q ∧ HeapQ Q ∧ Q.Perm L
 srt : Srt L
section
variable {F F' : Nat → Prop} {w w' : World} {g : Nat} {L : List Td}
theorem Hp.lt (h : Hp F w g L) : g < w.heap.size := by obtain ⟨A, c, B, D, Q, f, h1, _⟩ := h.has; exact h1.bk.lt
theorem Hp.inF (h : Hp F w g L) : F g := by obtain ⟨A, c, B, D, Q, f, _, h1, _⟩ := h.has; exact h1.1
theorem Hp.mono (h : Hp F w g L) (hFG : ∀ j, j < w.heap.size → F j → F' j) : Hp F' w g L := by
 obtain ⟨⟨A, c, B, D, Q, f, h1, h2, h3⟩, h5⟩ := h
 exact ⟨⟨A, c, B, D, Q, f, h1, ⟨hFG _ h1.bk.lt h2.1, hFG _ h1.ob.lt h2.2.1, fun a ha => hFG _ (h1.mi.base ha).2.1 (h2.2.2 a ha)⟩, h3⟩, h5⟩
theorem Hp.tight (h : Hp F w g L) : Hp (fun j => F j ∧ j < w.heap.size) w g L := h.mono fun _ hj hf => ⟨hf, hj⟩
theorem Hp.only (h : Hp F w g L) (ho : Only F' w w') (hn : ∀ j, F j → ¬ F' j) : Hp F w' g L := by
 obtain ⟨⟨A, c, B, D, Q, f, h1, h2, h3⟩, h5⟩ := h
 exact ⟨⟨A, c, B, D, Q, f, h1.kept ho (hn _ h2.1) (hn _ h2.2.1) (fun a ha => hn _ (h2.2.2 a ha)), h2, h3⟩, h5⟩
theorem Hp.below {B : Nat} (h : Hp F w g L) (hb : Below B w w') (hB : w.heap.size ≤ B) : Hp F w' g L :=
 h.only (Only.of_below hb hB (fun _ => False)) (fun _ _ hf => hf)
def wrPost (F : Nat → Prop) (w : World) (g : Nat) (L : List Td) (v : Value) : Ending → World → Prop := fun e w' => e = .returned v ∧ Hp (More F w) w' g L ∧ Only F w w'
def mkPost (w : World) (L : List Td) : Ending → World → Prop := fun e w' => ∃ g, e = .returned (.pointer (some ⟨g, 0, none⟩)) ∧ Hp (fun j => w.heap.size ≤ j) w' g L ∧ Below w.heap.size w w'
def lkPost (w : World) (v : Value) : Ending → World → Prop := fun e w' => e = .returned v ∧ Below w.heap.size w w'
def duPost (F : Nat → Prop) (w : World) (g : Nat) (L M : List Td) : Ending → World → Prop := fun e w' => ∃ F' A c, e = .returned (.tuple #[.slice A M.length c, .int .i64 0]) ∧ Hp F' w' g L ∧ (∀ j, F' j → F j ∨ w.heap.size ≤ j) ∧ Lt w' A M c ∧ (∀ a, A = some a → w.heap.size ≤ a.block ∧ a.block < w'.heap.size ∧ ¬ F' a.block) ∧ Only F w w'
def listPost (w : World) (L : List Td) : Ending → World → Prop := fun e w' => ∃ A c, e = .returned (.slice A L.length c) ∧ Mine w.heap.size 2 w' A L.length c (tv L) ∧ Below w.heap.size w w'
def oldV (L : List Td) : Td := L.headD (0, 0)
def oldN (L : List Td) : Int := if L.length = 0 then 9 else 0
def tval (x : Td) : Value := .agg #[.int .i64 x.1, .int .u64 x.2]
set_option maxRecDepth 100000 in
theorem new_any (w : World) : Calls Tryz.prog 44 #[] w (mkPost w []) := by
 have hmm := @run_makeMap Tryz.prog
 obtain ⟨v, hv⟩ : ∃ v, v = (w.alloc (.map #[] 0)).alloc (.cells #[.slice none 0 0, .map (some w.heap.size)] 140) := ⟨_, rfl⟩
 have HB : Hid (Below w.heap.size w v) := by show Below _ _ _; rw [hv]; exact (bnew w _).alloc (by simp) _
 have HL : Hid (Lo v (w.heap.size + 1) none 0 w.heap.size (.map []) []) := by
  have e0 : (w.alloc (.map #[] 0)).heap.size = w.heap.size + 1 := by simp
  refine ⟨?_, ?_, Mine.nil _ _ _, by omega, fun a ha => by cases ha⟩
  ·have := Blk.new (w.alloc (.map #[] 0)) #[.slice none 0 0, .map (some w.heap.size)] 140
   rw [e0] at this; rw [hv]; exact this
  ·rw [hv]
   exact Own.of ((made w).kept ((Only.refl (fun _ => False) _).alloc _) (fun h => h))
 unfold mkPost
 go_enter Tryz.func44, Tryz.ntmps44
 go_wp2_with fail
 go_ret
 rw [← hv]
 refine ⟨w.heap.size + 1, by simp, ⟨⟨none, 0, w.heap.size, .map [], [], id, HL.out, ⟨by show _ ≤ _; omega, Nat.le_refl _, fun a ha => by cases ha⟩, (md_nil (f := id)).ext (fun m => by simp [ns]) rfl (fun _ _ => rfl), fun k hk => by simp at hk, HeapQ.nil, List.Perm.refl _⟩, Srt.nil⟩, HB.out⟩
end
def lkV (f : Int → Int) (Q : List Td) (n : Int) : Int := if n ∈ ns Q then f n else 0
section
variable {w : World} {g c B k : Nat} {A : Option Addr} {D : DataW Unit} {Q : List Td} {f : Int → Int}
set_option maxRecDepth 100000 in
theorem look_in (h : Lo w g A c B D Q) (hm : Md D (fun m => m ∈ ns Q) k f) {n : Int} (hs : Sl n) :
  Calls Tryz.prog 142 #[.pointer (some ⟨g, 0, none⟩), .int .i64 n] w fun e w' => e = .returned (.tuple #[.int .i64 (lkV f Q n), .bool (decide (n ∈ ns Q)), .int .i64 0]) ∧ w' = w := by
 have HU := Lib.hid (usable_any h.bk)
 have HO := Lib.hid h.ob
 have HS := Lib.hid hs
 obtain ⟨x0, x1, _⟩ := h.bk.two
 have HV : Hid (D.atKey (kl n) (.lit (.int .i64 0)) = .lit (.int .i64 (lkV f Q n)) ∧ has D (kl n) = decide (n ∈ ns Q)) := by
  show _ ∧ _
  unfold lkV
  by_cases hn : n ∈ ns Q
  ·rw [if_pos hn]; exact ⟨hm.val n hn, by rw [(hm.mem n).2 hn]; simp [hn]⟩
  ·rw [if_neg hn]; exact ⟨(hm.no hn).2, by rw [(hm.no hn).1]; simp [hn]⟩
 obtain ⟨v, hv⟩ : ∃ v, v = lkV f Q n := ⟨_, rfl⟩
 obtain ⟨s, hs'⟩ : ∃ s, s = decide (n ∈ ns Q) := ⟨_, rfl⟩
 rw [← hv, ← hs'] at HV ⊢
 have h0 : 0 ≤ n := hs.1
 have h1 : n < 1048576 := hs.2
 clear h hm hs hv hs'
 go_enter Tryz.func142, Tryz.ntmps142
 go_wp2_with fail
 refine HU.out.mono ?_
 rintro e w1 ⟨rfl, rfl⟩
 go_wp2_with (at_lookup; refine at_ok _ rfl _ _ rfl B _ D rfl HO.out n (in_sl HS.out) rfl v s HV.out.1 HV.out.2 ?_)
 go_ret3
 exact ⟨rfl, rfl⟩
set_option maxRecDepth 100000 in
theorem look_no (h : Lo w g A c B D Q) {n : Int} (hs : ¬ Sl n) :
  Calls Tryz.prog 142 #[.pointer (some ⟨g, 0, none⟩), .int .i64 n] w fun e w' => e = .returned (.tuple #[.int .i64 0, .bool false, .int .i64 2]) ∧ w' = w := by
 have HU := Lib.hid (usable_any h.bk)
 obtain ⟨x0, x1, _⟩ := h.bk.two
 by_cases h0 : 0 ≤ n
 ·have h1 : (1048576 : Int) ≤ n := by
   rcases Int.lt_or_le n 1048576 with h2 | h2
   ·exact absurd ⟨h0, h2⟩ hs
   ·exact h2
  clear h hs
  go_enter Tryz.func142, Tryz.ntmps142
  go_wp2_with fail
  refine HU.out.mono ?_
  rintro e w1 ⟨rfl, rfl⟩
  go_wp2_with fail
  go_ret3
  exact ⟨rfl, rfl⟩
 ·have h1 : n < 0 := by omega
  clear h hs h0
  go_enter Tryz.func142, Tryz.ntmps142
  go_wp2_with fail
  refine HU.out.mono ?_
  rintro e w1 ⟨rfl, rfl⟩
  go_wp2_with fail
  go_ret3
  exact ⟨rfl, rfl⟩
end
end Go.Proofs.YtlmljhnogmfcfaaGreat.Ye
namespace Go.Proofs.YtlmljhnogmfcfaaGreat.Ye
open Go.RowKit Go.Maps Ap Mi Nw Ya Yb Yc Yd Zk Zm Za Zl Zs Zt

section
variable {w : World} {g c B k : Nat} {A : Option Addr} {D : DataW Unit} {Q : List Td} {f : Int → Int}
set_option maxRecDepth 100000 in
theorem need_yes (h : Lo w g A c B D Q) (hm : Md D (fun m => m ∈ ns Q) k f) {n : Int} (hs : Sl n) (hn : n ∈ ns Q) :
  Calls Tryz.prog 109 #[.pointer (some ⟨g, 0, none⟩), .int .i64 n] w fun e w' => e = .returned (.tuple #[.int .i64 (f n), .int .i64 0]) ∧ w' = w := by
 have HK := Lib.hid (look_in h hm hs)
 have e1 : lkV f Q n = f n := by unfold lkV; rw [if_pos hn]
 have e2 : decide (n ∈ ns Q) = true := by simp [hn]
 rw [e1, e2] at HK
 obtain ⟨v, hv⟩ : ∃ v, v = f n := ⟨_, rfl⟩
 rw [← hv] at HK ⊢
 clear h hm hs hn e1 e2 hv
 go_enter Tryz.func109, Tryz.ntmps109
 go_wp2_with fail
 refine HK.out.mono ?_
 rintro e w1 ⟨rfl, rfl⟩
 go_wp2_with fail
 go_ret2
 exact ⟨rfl, rfl⟩
set_option maxRecDepth 100000 in
theorem need_none (h : Lo w g A c B D Q) (hm : Md D (fun m => m ∈ ns Q) k f) {n : Int} (hs : Sl n) (hn : n ∉ ns Q) :
  Calls Tryz.prog 109 #[.pointer (some ⟨g, 0, none⟩), .int .i64 n] w fun e w' => e = .returned (.tuple #[.int .i64 0, .int .i64 9]) ∧ w' = w := by
 have HK := Lib.hid (look_in h hm hs)
 have e1 : lkV f Q n = 0 := by unfold lkV; rw [if_neg hn]
 have e2 : decide (n ∈ ns Q) = false := by simp [hn]
 rw [e1, e2] at HK
 clear h hm hs hn e1 e2
 go_enter Tryz.func109, Tryz.ntmps109
 go_wp2_with fail
 refine HK.out.mono ?_
 rintro e w1 ⟨rfl, rfl⟩
 go_wp2_with fail
 go_ret2
 exact ⟨rfl, rfl⟩
set_option maxRecDepth 100000 in
theorem need_no (h : Lo w g A c B D Q) {n : Int} (hs : ¬ Sl n) :
  Calls Tryz.prog 109 #[.pointer (some ⟨g, 0, none⟩), .int .i64 n] w fun e w' => e = .returned (.tuple #[.int .i64 0, .int .i64 2]) ∧ w' = w := by
 have HK := Lib.hid (look_no h hs)
 clear h hs
 go_enter Tryz.func109, Tryz.ntmps109
 go_wp2_with fail
 refine HK.out.mono ?_
 rintro e w1 ⟨rfl, rfl⟩
 go_wp2_with fail
 go_ret2
 exact ⟨rfl, rfl⟩
theorem need_bad {L : List Td} (h : Lo w g A c B D Q) (hm : Md D (fun m => m ∈ ns Q) k f) (hp : Q.Perm L) {n : Int} (hb : ¬ (Sl n ∧ n ∈ ns L)) :
  Calls Tryz.prog 109 #[.pointer (some ⟨g, 0, none⟩), .int .i64 n] w fun e w' => e = .returned (.tuple #[.int .i64 0, .int .i64 (remN L n)]) ∧ w' = w := by
 by_cases hs : Sl n
 ·have hn : n ∉ ns Q := fun h => hb ⟨hs, (ns_mem hp n).1 h⟩
  have e : remN L n = 9 := by unfold remN; rw [if_neg (by simpa using hs), if_neg (fun h => hb ⟨hs, h⟩)]
  rw [e]; exact need_none h hm hs hn
 ·have e : remN L n = 2 := by unfold remN; rw [if_pos hs]
  rw [e]; exact need_no h hs
end
theorem rem_cases (L : List Td) (n a : Int) (h : ¬ (Sl n ∧ n ∈ ns L)) : remT L n = L ∧ movT L n a = L ∧ remA L n = 0 ∧ (remN L n != 0) = true := by
 refine ⟨if_neg h, if_neg h, if_neg h, ?_⟩
 unfold remN
 by_cases hs : Sl n
 ·rw [if_neg (by simpa using hs), if_neg (fun k => h ⟨hs, k⟩)]; rfl
 ·rw [if_pos hs]; rfl
theorem tm_at {Q L : List Td} (hp : Q.Perm L) (hd : (ns L).Nodup) {k : Nat} (hk : k < Q.length) : tmOf L (Zm.A Q k).1 = (Zm.A Q k).2 := by
 obtain ⟨j, hj, e⟩ := List.getElem_of_mem (hp.mem_iff.1 (A_mem hk))
 rw [tmOf_at hd hj (by rw [e]), e]
theorem rem_good {L : List Td} {n : Int} (hs : Sl n) (hn : n ∈ ns L) : remN L n = 0 ∧ remA L n = tmOf L n ∧ remT L n = wo L n := by
 refine ⟨?_, if_pos ⟨hs, hn⟩, if_pos ⟨hs, hn⟩⟩
 unfold remN; rw [if_neg (by simpa using hs), if_pos hn]
section
variable {F : Nat → Prop} {w : World} {g : Nat} {L : List Td}
set_option maxRecDepth 100000 in
theorem first_any (h : Hp F w g L) : Calls Tryz.prog 76 #[.pointer (some ⟨g, 0, none⟩)] w (lkPost w (.tuple #[tval (oldV L), .int .i64 (oldN L)])) := by
 obtain ⟨⟨A, c, B, D, Q, f, hlo, hF, hm, hf, hh, hp⟩, hsrt⟩ := h
 obtain ⟨v0, hv0⟩ : ∃ v0, v0 = w.alloc (.cells #[.int .i64 0, .int .u64 0] 116) := ⟨_, rfl⟩
 have b0 : Below w.heap.size w v0 := by rw [hv0]; exact bnew _ _
 have P0 : Hid (Blk v0 w.heap.size #[.int .i64 0, .int .u64 0] 116) := by show Blk _ _ _ _; rw [hv0]; exact Blk.new _ _ _
 have LO0 := Lib.hid (hlo.below b0 (Nat.le_refl _))
 have HU := Lib.hid (usable_any LO0.out.bk)
 have HB0 := Lib.hid b0
 obtain ⟨x0, x1, _⟩ := LO0.out.bk.two
 obtain ⟨p0, p1, pf0, pf1⟩ := P0.out.two
 have lg := LO0.out.bk.lt
 have lw := P0.out.lt
 unfold lkPost
 by_cases h0 : Q.length = 0
 ·have hL : L = [] := List.eq_nil_of_length_eq_zero (by rw [← hp.length_eq]; exact h0)
  subst hL
  have e1 : oldV [] = (0, 0) := rfl
  have e2 : oldN [] = 9 := rfl
  rw [e1, e2]
  rw [h0] at x0
  clear hlo hF hm hf hh hp hsrt b0 e1 e2 h0
  go_enter Tryz.func76, Tryz.ntmps76
  go_wp2_with fail
  rw [← hv0]
  clear hv0
  refine HU.out.mono ?_
  rintro e w1 ⟨rfl, rfl⟩
  go_wp2_with fail
  obtain ⟨w6, hw6⟩ : ∃ w6, w6 = (w1.setCell ⟨w.heap.size, 0, none⟩ (.int .i64 0)).setCell ⟨w.heap.size, 1, none⟩ (.int .u64 0) := ⟨_, rfl⟩
  have R6 : Hid (Blk w6 w.heap.size #[.int .i64 0, .int .u64 0] 116) := by
   show Blk _ _ _ _; rw [hw6]; exact (P0.out.set 0 (.int .i64 0)).set 1 (.int .u64 0)
  have B6 : Hid (Below w.heap.size w w6) := by
   show Below _ _ _; rw [hw6]
   exact HB0.out.trans ((((Only.refl (fun j => j = w.heap.size) w1).put (ad := ⟨w.heap.size, 0, none⟩) rfl _).put (ad := ⟨w.heap.size, 1, none⟩) rfl _).below (fun j hj => by rw [hj]; exact Nat.le_refl _) HB0.out.size)
  rw [← hw6]
  clear hw6 p0 p1 pf0 pf1
  obtain ⟨t0, t1, _⟩ := R6.out.two
  exact bodyPost_ret (v := .tuple #[.agg #[.int .i64 0, .int .u64 0], .int .i64 9]) (by simp [results, Tryz.results76, go_sem, t0, t1]) rfl ⟨rfl, B6.out⟩
 ·have h1 : 0 < Q.length := by omega
  obtain ⟨x, r, hL, hx⟩ := heap_head hh hp hsrt.pw h1
  have e1 : oldV L = x := by rw [hL]; rfl
  have e2 : oldN L = 0 := by rw [hL]; rfl
  rw [e1, e2]
  obtain ⟨b, o, rfl, lb, c0, c1⟩ := LO0.out.at_ h1
  rw [hx] at c0 c1
  rw [show o + 0 * 2 = o from by omega] at c0 c1
  have hq : ((Q.length : Int) == 0) = false := beq_eq_false_iff_ne.2 (by omega)
  have hqI : (0 : Int) < (Q.length : Int) := by omega
  obtain ⟨n, a⟩ := x
  simp only at c0 c1
  unfold tval
  simp only
  obtain ⟨ql, hql⟩ : ∃ ql, ql = Q.length := ⟨_, rfl⟩
  rw [← hql] at x0 hq hqI
  clear hlo hF hm hf hh hp hsrt b0 h0 h1 hL hx e1 e2 hql
  go_enter Tryz.func76, Tryz.ntmps76
  go_wp2_with fail
  rw [← hv0]
  clear hv0
  refine HU.out.mono ?_
  rintro e w1 ⟨rfl, rfl⟩
  go_wp2_with fail
  obtain ⟨w6, hw6⟩ : ∃ w6, w6 = (w1.setCell ⟨w.heap.size, 0, none⟩ (.int .i64 n)).setCell ⟨w.heap.size, 1, none⟩ (.int .u64 a) := ⟨_, rfl⟩
  have R6 : Hid (Blk w6 w.heap.size #[.int .i64 n, .int .u64 a] 116) := by
   show Blk _ _ _ _; rw [hw6]; exact (P0.out.set 0 (.int .i64 n)).set 1 (.int .u64 a)
  have B6 : Hid (Below w.heap.size w w6) := by
   show Below _ _ _; rw [hw6]
   exact HB0.out.trans ((((Only.refl (fun j => j = w.heap.size) w1).put (ad := ⟨w.heap.size, 0, none⟩) rfl _).put (ad := ⟨w.heap.size, 1, none⟩) rfl _).below (fun j hj => by rw [hj]; exact Nat.le_refl _) HB0.out.size)
  rw [← hw6]
  clear hw6 p0 p1 pf0 pf1
  obtain ⟨t0, t1, _⟩ := R6.out.two
  exact bodyPost_ret (v := .tuple #[.agg #[.int .i64 n, .int .u64 a], .int .i64 0]) (by simp [results, Tryz.results76, go_sem, t0, t1]) rfl ⟨rfl, B6.out⟩
end
end Go.Proofs.YtlmljhnogmfcfaaGreat.Ye
namespace Go.Proofs.YtlmljhnogmfcfaaGreat.Ye
open Go.RowKit Go.Maps Ap Mi Nw Ya Yb Yc Yd Zk Zm Za Zl Zs Zt

theorem push_lo {w1 w5 : World} {g c c5 B : Nat} {A A5 : Option Addr} {D : DataW Unit} {Q : List Td} {n a : Int} (h : Lo w1 g A c B D Q) (o5 : Only (fun j => ∃ d, A = some d ∧ j = d.block) w1 w5)
  (m5 : Mine 0 2 w5 A5 (Q.length + 1) c5 (tv Q ++ [.int .i64 n, .int .u64 a])) (n5 : A5 = A ∨ ∀ d, A5 = some d → w1.heap.size ≤ d.block) :
  ∃ b o, A5 = some ⟨b, o, none⟩ ∧ Lo (w5.setCell ⟨g, 0, none⟩ (.slice A5 (Q.length + 1) c5)) g (some ⟨b, o, none⟩) c5 B D (Q ++ [(n, a)]) ∧ (A = some ⟨b, o, none⟩ ∨ w1.heap.size ≤ b) ∧ Only (fun j => j = g ∨ ∃ d, A = some d ∧ j = d.block) w1 (w5.setCell ⟨g, 0, none⟩ (.slice A5 (Q.length + 1) c5)) := by
 obtain ⟨b, o, rfl, hb, _⟩ := mine_place m5 (by simp)
 have lg := h.bk.lt
 have lB := h.ob.lt
 have hne : b ≠ g ∧ b ≠ B := by
  rcases n5 with e | e
  ·exact h.ra _ e.symm
  ·have : w1.heap.size ≤ b := e _ rfl
   exact ⟨by show b ≠ g; omega, by show b ≠ B; omega⟩
 have hbk := h.bk.only o5 (fun ⟨d, hd, e⟩ => (h.ra d hd).1 e.symm)
 have hob := h.ob.kept o5 (fun ⟨d, hd, e⟩ => (h.ra d hd).2 e.symm)
 have o6 : Only (fun j => j = g) w5 (w5.setCell ⟨g, 0, none⟩ (.slice (some ⟨b, o, none⟩) (Q.length + 1) c5)) := (Only.refl (fun j => j = g) _).put (ad := ⟨g, 0, none⟩) rfl _
 have hl : (Q ++ [(n, a)]).length = Q.length + 1 := by simp
 refine ⟨b, o, rfl, ⟨?_, hob.kept o6 (fun e => h.gb e.symm), ?_, h.gb, fun d hd => ?_⟩, ?_, (o5.mono fun _ _ e => Or.inr e).trans (o6.mono fun _ _ e => Or.inl (Or.inl e))⟩
 ·rw [hl]; exact hbk.set 0 (.slice (some ⟨b, o, none⟩) (Q.length + 1) c5)
 ·rw [hl, tv_append]
  exact m5.only o6 (fun d hd => by injection hd with hd; rw [← hd]; exact hne.1)
 ·injection hd with hd; rw [← hd]; exact hne
 ·rcases n5 with e | e
  ·exact Or.inl e.symm
  ·exact Or.inr (e _ rfl)
section
variable {F : Nat → Prop} {w : World} {g : Nat} {L : List Td}
set_option maxRecDepth 100000 in
set_option maxHeartbeats 1000000 in
theorem put_any (h : Hp F w g L) (n a : Int) (ha : Tm a) : Calls Tryz.prog 108 #[.pointer (some ⟨g, 0, none⟩), .int .i64 n, .int .u64 a] w (wrPost F w g (putT L n a) (.int .i64 (putN L n))) := by
 have HH := Lib.hid h
 obtain ⟨⟨A, c, B, D, Q, f, hlo, hF, hm, hf, hh, hp⟩, hsrt⟩ := h
 unfold wrPost
 by_cases hs : Sl n
 case neg =>
  have HK := Lib.hid (look_no hlo hs)
  have e3 : putN L n = 2 := by unfold putN; rw [if_pos hs]
  have e4 : putT L n a = L := by unfold putT; rw [if_neg (fun h => hs h.1)]
  rw [e3, e4]
  clear hlo hF hm hf hh hp hsrt hs e3 e4 ha
  go_enter Tryz.func108, Tryz.ntmps108
  go_wp2_with fail
  refine HK.out.mono ?_
  rintro e w1 ⟨rfl, rfl⟩
  go_wp2_with fail
  go_ret
  exact ⟨rfl, HH.out.mono fun _ _ h => Or.inl h, Only.refl _ _⟩
 have HK := Lib.hid (look_in hlo hm hs)
 by_cases hl : n ∈ ns L
 case pos =>
  have e2 : decide (n ∈ ns Q) = true := by simp [(ns_mem hp n).2 hl]
  have e3 : putN L n = 11 := by unfold putN; rw [if_neg (by simpa using hs), if_pos hl]
  have e4 : putT L n a = L := by unfold putT; rw [if_neg (fun h => h.2 hl)]
  rw [e2] at HK
  rw [e3, e4]
  obtain ⟨v, hv⟩ : ∃ v, v = lkV f Q n := ⟨_, rfl⟩
  rw [← hv] at HK
  clear hlo hF hm hf hh hp hsrt hs hl e2 e3 e4 ha hv
  go_enter Tryz.func108, Tryz.ntmps108
  go_wp2_with fail
  refine HK.out.mono ?_
  rintro e w1 ⟨rfl, rfl⟩
  go_wp2_with fail
  go_ret
  exact ⟨rfl, HH.out.mono fun _ _ h => Or.inl h, Only.refl _ _⟩
 have hlq : n ∉ ns Q := fun h => hl ((ns_mem hp n).1 h)
 have e2 : decide (n ∈ ns Q) = false := by simp [hlq]
 have e3 : putN L n = 0 := by unfold putN; rw [if_neg (by simpa using hs), if_neg hl]
 have e4 : putT L n a = ins L (n, a) := by unfold putT; rw [if_pos ⟨hs, hl⟩]
 have HSR : Hid (Srt (ins L (n, a))) := hsrt.insd hl hs ha
 have HPM : Hid ((Q ++ [(n, a)]).Perm (ins L (n, a))) := (List.perm_append_singleton _ _).trans ((hp.cons _).trans (ins_perm _ _).symm)
 have HND : Hid (ns (Q ++ [(n, a)])).Nodup := ns_nd HPM.out HSR.out.nd
 have hlen : Q.length ≤ 1048576 := by rw [hp.length_eq]; exact hsrt.len
 have HLO := Lib.hid hlo; have HMD := Lib.hid hm; have HF := Lib.hid hf; have HHQ := Lib.hid hh; have HS := Lib.hid hs; have HNQ := Lib.hid hlq; have HB := Lib.hid hF
 have HSL : Hid (∀ x ∈ Q ++ [(n, a)], Sl x.1) := fun x hx => HSR.out.sl x (HPM.out.mem_iff.1 hx)
 rw [e2] at HK
 rw [e3, e4]
 obtain ⟨v, hv⟩ : ∃ v, v = lkV f Q n := ⟨_, rfl⟩
 rw [← hv] at HK
 obtain ⟨x0, x1, _⟩ := hlo.bk.two
 have lg := hlo.bk.lt
 obtain ⟨q, hq⟩ : ∃ q, q = Q.length := ⟨_, rfl⟩
 have HQ := Lib.hid hq
 have M0 : Hid (Mine 0 2 w A q c (tv Q)) := by show Mine _ _ _ _ _ _ _; rw [hq]; exact hlo.mi
 rw [← hq] at x0 hlen
 clear hlo hF hm hf hh hp hsrt hs hl hlq e2 e3 e4 ha hv hq
 go_enter Tryz.func108, Tryz.ntmps108
 go_wp2_with fail
 refine HK.out.mono ?_
 rintro e w1 ⟨rfl, rfl⟩
 have LB := Lib.hid (bnew w1 (.cells #[.int .i64 n, .int .u64 a] 116))
 go_upto_region 7 with (at_builtin; (refine wpList_mine rfl _ _ elT _ rfl rfl (M0.out.below LB.out (Nat.le_refl _)) _ rfl 1 _ (src_lit Tryz.underlying112 #[.int .i64 n, .int .u64 a] 1 2 rfl (by simp [Value.oneCell'])) (by omega) (by omega) (Nat.zero_le _) ?_); intro A5 c5 w5 m5 g5 n5; have O5 : Hid (Only (fun j => ∃ d, A = some d ∧ j = d.block) w1 w5) := ((Only.of_below LB.out (Nat.le_refl _) (fun _ => False)).mono (fun _ _ h => h.elim)).trans ((only_row (F := fun j => ∃ d, A = some d ∧ j = d.block) g5 (fun d hd => ⟨d, hd, rfl⟩)).mono (fun _ _ h => Or.inl h)); have K5 := Lib.hid (HLO.out.bk.only O5.out (fun ⟨d, hd, e⟩ => (HLO.out.ra d hd).1 e.symm)); have M5 := Lib.hid m5; have N5 := Lib.hid n5; obtain ⟨y0, y1, yf0, yf1⟩ := K5.out.two; have lg5 := K5.out.lt; clear m5 g5 n5)
 have O5' := Lib.hid O5
 obtain ⟨b, o, rfl, LO6, HNB, O6⟩ := push_lo (n := n) (a := a) HLO.out O5 (by rw [← HQ.out]; exact M5.out) (by
  rcases N5.out with e | e
  ·exact Or.inl e
  ·exact Or.inr (fun d hd => by have := e d hd; simp at this; omega))
 rw [← HQ.out] at LO6 O6
 obtain ⟨w6, hw6⟩ : ∃ w6, w6 = w5.setCell ⟨g, 0, none⟩ (.slice (some ⟨b, o, none⟩) (q + 1) c5) := ⟨_, rfl⟩
 rw [← hw6] at LO6 O6 ⊢
 have HLO6 := Lib.hid LO6; have HO6 := Lib.hid O6; have HNB' := Lib.hid HNB
 have HPL : Hid (PlcX f (Q ++ [(n, a)]) q) := fun k hk hkq => by
  rw [List.length_append, List.length_singleton] at hk
  have hkl : k < Q.length := by have := HQ.out; omega
  rw [A_app hkl]; exact HF.out k hkl
 have HSE := Lib.hid (settle_any (p := fun m => m ∈ ns Q) (k := q) LO6 (i := q) (by rw [HQ.out]; simp) HND.out HSL.out (by rw [HQ.out]; exact HMD.out)
  (fun m hm hne => by
   obtain ⟨y, hy, e⟩ := mem_ns.1 hm
   rcases List.mem_append.1 hy with h1 | h1
   ·exact mem_ns.2 ⟨y, h1, e⟩
   ·rw [List.mem_singleton.1 h1] at e
    refine absurd e.symm ?_
    rw [HQ.out, A_last] at hne
    exact hne)
  HPL.out (by rw [HQ.out]; exact HHQ.out.push _) (by omega) (by rw [List.length_append, List.length_singleton, ← HQ.out]; omega))
 have eA : Zm.A (Q ++ [(n, a)]) q = (n, a) := by rw [HQ.out, A_last]
 rw [eA] at HSE
 unfold siftPost at HSE
 obtain ⟨x0, x1, _⟩ := LO6.bk.two
 rw [List.length_append, List.length_singleton, ← HQ.out] at x0
 have lg6 := LO6.bk.lt
 clear LO6 O6 HNB O5 y0 y1 yf0 yf1 hw6 eA
 go_wp2_with fail
 refine HSE.out.mono ?_
 rintro e w7 ⟨D7, Q7, f7, k7, rfl, a1, a2, a3, a4, a5, a6, a7, a8⟩
 have HE := Lib.hid (And.intro a1 (And.intro a2 (And.intro a3 (And.intro a4 (And.intro a5 (And.intro a7 a8))))))
 clear a1 a2 a3 a4 a5 a6 a7 a8 HSE
 go_wp2_with fail
 go_ret
 obtain ⟨a1, a2, a3, a4, a5, a7, a8⟩ := HE.out
 have hk7 : k7 = q + 1 := a7 HNQ.out
 have hl7 : Q7.length = q + 1 := by rw [a2.length_eq, List.length_append, List.length_singleton, HQ.out]
 have hz := HO6.out.size
 refine ⟨rfl, ⟨⟨_, _, B, D7, Q7, f7, a1, ⟨Or.inl HB.out.1, Or.inl HB.out.2.1, fun d hd => ?_⟩, a5.ext (fun m => ?_) (by rw [hk7, hl7]) (fun _ _ => rfl), a4, a3, a2.trans HPM.out⟩, HSR.out⟩, HO6.out.mono (fun j hj e => ?_) |>.trans (a8.mono fun j hj e => ?_)⟩
 ·injection hd with hd
  rw [← hd]
  rcases HNB'.out with e | e
  ·exact Or.inl (HB.out.2.2 _ e)
  ·exact Or.inr e
 ·rw [ns_mem a2, mem_ns, mem_ns]
  constructor
  ·rintro (e | ⟨y, hy, e⟩)
   ·exact ⟨(n, a), by simp, e.symm⟩
   ·exact ⟨y, List.mem_append_left _ hy, e⟩
  ·rintro ⟨y, hy, e⟩
   rcases List.mem_append.1 hy with h1 | h1
   ·exact Or.inr ⟨y, h1, e⟩
   ·rw [List.mem_singleton.1 h1] at e; exact Or.inl e.symm
 ·rcases e with e | ⟨d, hd, e⟩
  ·rw [e]; exact HB.out.1
  ·rw [e]; exact HB.out.2.2 d hd
 ·rcases e with e | e
  ·rw [e]; exact Or.inl HB.out.2.1
  ·rw [e]
   rcases HNB'.out with e | e
   ·exact Or.inl (HB.out.2.2 _ e)
   ·exact Or.inr e
theorem tv_same {Q : List Td} {k : Nat} (hk : k < Q.length) (a : Int) : (tv Q).set (k * 2 + 1) (.int .u64 a) = tv (Q.set k ((Zm.A Q k).1, a)) := by
 have e := tv_set Q k ((Zm.A Q k).1, a)
 rw [← e]
 congr 1
 obtain ⟨h0, _⟩ := tv_get Q k hk
 obtain ⟨h1, h2⟩ := List.getElem?_eq_some_iff.1 h0
 rw [A_get hk]
 simp only
 rw [← h2, List.set_getElem_self]
theorem at_lo {w : World} {g c b o B : Nat} {D : DataW Unit} {Q : List Td} (h : Lo w g (some ⟨b, o, none⟩) c B D Q) {k : Nat} (hk : k < Q.length) (a : Int) :
  Lo (w.setCell ⟨b, o + k * 2 + 1, none⟩ (.int .u64 a)) g (some ⟨b, o, none⟩) c B D (Q.set k ((Zm.A Q k).1, a)) ∧ Only (fun j => j = b) w (w.setCell ⟨b, o + k * 2 + 1, none⟩ (.int .u64 a)) := by
 have ho : Only (fun j => j = b) w (w.setCell ⟨b, o + k * 2 + 1, none⟩ (.int .u64 a)) := (Only.refl (fun j => j = b) w).put (ad := ⟨b, o + k * 2 + 1, none⟩) rfl _
 obtain ⟨r1, r2⟩ := h.ra _ rfl
 have hl := tv_len Q
 have hm := h.mi.store (k * 2 + 1) (by omega) (.int .u64 a)
 rw [tv_same hk] at hm
 refine ⟨⟨?_, h.ob.kept ho (fun e => r2 e.symm), ?_, h.gb, h.ra⟩, ho⟩
 ·rw [List.length_set]; exact h.bk.only ho (fun e => r1 e.symm)
 ·rw [List.length_set]; exact hm
set_option maxRecDepth 100000 in
set_option maxHeartbeats 1000000 in
theorem move_any (h : Hp F w g L) (n a : Int) (ha : Tm a) : Calls Tryz.prog 72 #[.pointer (some ⟨g, 0, none⟩), .int .i64 n, .int .u64 a] w (wrPost F w g (movT L n a) (.int .i64 (remN L n))) := by
 have HH := Lib.hid h
 obtain ⟨⟨A, c, B, D, Q, f, hlo, hF, hm, hf, hh, hp⟩, hsrt⟩ := h
 unfold wrPost
 by_cases hb : Sl n ∧ n ∈ ns L
 case neg =>
  have HK := Lib.hid (need_bad hlo hm hp hb)
  obtain ⟨_, r2, _, r4⟩ := rem_cases L n a hb
  rw [r2]
  obtain ⟨e0, he0⟩ : ∃ e0, e0 = remN L n := ⟨_, rfl⟩
  rw [← he0] at HK r4 ⊢
  clear hlo hF hm hf hh hp hsrt hb he0 r2 ha
  go_enter Tryz.func72, Tryz.ntmps72
  go_wp2_with fail
  refine HK.out.mono ?_
  rintro e w1 ⟨rfl, rfl⟩
  go_wp2_with fail
  go_ret
  exact ⟨rfl, HH.out.mono fun _ _ h => Or.inl h, Only.refl _ _⟩
 obtain ⟨hs, hn⟩ := hb
 obtain ⟨k, hk, e⟩ := ns_A ((ns_mem hp n).2 hn)
 have HK := Lib.hid (need_yes hlo hm hs ((ns_mem hp n).2 hn))
 have e2 := hf k hk
 rw [e] at e2
 rw [e2] at HK
 obtain ⟨r1, _, _⟩ := rem_good hs hn
 have e4 : movT L n a = ins (wo L n) (n, a) := by unfold movT; rw [if_pos ⟨hs, hn⟩]
 rw [r1, e4]
 have HSR : Hid (Srt (ins (wo L n) (n, a))) := (hsrt.out n).insd (not_wo L n) hs ha
 have HPM : Hid ((Q.set k (n, a)).Perm (ins (wo L n) (n, a))) := (set_perm (ns_nd hp hsrt.nd) hk e (n, a)).trans (((wo_perm hp n).cons _).trans (ins_perm _ _).symm)
 have HND : Hid (ns (Q.set k (n, a))).Nodup := ns_nd HPM.out HSR.out.nd
 have HSL : Hid (∀ x ∈ Q.set k (n, a), Sl x.1) := fun x hx => HSR.out.sl x (HPM.out.mem_iff.1 hx)
 have HMM : Hid (∀ m, m ∈ ns (Q.set k (n, a)) ↔ m ∈ ns Q) := fun m => by
  rw [ns_mem HPM.out, mem_ns, ns_mem hp, mem_ns]
  constructor
  ·rintro ⟨y, hy, ey⟩
   rcases mem_ins.1 hy with h1 | h1
   ·subst h1
    obtain ⟨z, hz, ez⟩ := mem_ns.1 hn
    exact ⟨z, hz, ez.trans ey⟩
   ·exact ⟨y, (mem_wo.1 h1).1, ey⟩
  ·rintro ⟨y, hy, ey⟩
   by_cases hyn : y.1 = n
   ·exact ⟨(n, a), mem_ins.2 (Or.inl rfl), hyn.symm.trans ey⟩
   ·exact ⟨y, mem_ins.2 (Or.inr (mem_wo.2 ⟨hy, hyn⟩)), ey⟩
 have hlen : Q.length ≤ 1048576 := by rw [hp.length_eq]; exact hsrt.len
 obtain ⟨x0, x1, _⟩ := hlo.bk.two
 have lg := hlo.bk.lt
 obtain ⟨b, o, rfl, lb, c0, c1⟩ := hlo.at_ hk
 obtain ⟨_, _, _, cf1⟩ := Lo_cells hlo hk
 have kI : (k : Int) < (Q.length : Int) := by omega
 have LA := Lib.hid (at_lo hlo hk a)
 rw [e] at LA
 have HLO := Lib.hid hlo; have HMD := Lib.hid hm; have HF := Lib.hid hf; have HHQ := Lib.hid hh; have HB := Lib.hid hF; have HKL := Lib.hid hk
 have HNQ : Hid (n ∈ ns Q) := (ns_mem hp n).2 hn
 have hx : Zm.A (Q.set k (n, a)) k = (n, a) := by rw [A_set hk, if_pos rfl]
 have HPL : Hid (PlcX f (Q.set k (n, a)) k) := fun j hj hjk => by
  rw [List.length_set] at hj
  rw [A_set hk, if_neg hjk]
  exact hf j hj
 have HSE := Lib.hid (settle_any (p := fun m => m ∈ ns Q) (k := Q.length) LA.out.1 (i := k) (by rw [List.length_set]; exact hk) HND.out HSL.out hm
  (fun m hm _ => (HMM.out m).1 hm) HPL.out (hh.hole hk _) (by omega) (by rw [List.length_set]; omega))
 rw [hx] at HSE
 unfold siftPost at HSE
 clear hlo hF hm hf hh hp hsrt e e2 e4 r1 hs hn hx hk ha
 go_enter Tryz.func72, Tryz.ntmps72
 go_wp2_with fail
 refine HK.out.mono ?_
 rintro e w1 ⟨rfl, rfl⟩
 go_upto_region 5 with fail
 obtain ⟨w2, hw2⟩ : ∃ w2, w2 = w1.setCell ⟨b, o + k * 2 + 1, none⟩ (.int .u64 a) := ⟨_, rfl⟩
 rw [← hw2] at LA HSE ⊢
 clear hw2 x0 x1 c0 c1 cf1
 go_wp2_with fail
 refine HSE.out.mono ?_
 rintro e w7 ⟨D7, Q7, f7, k7, rfl, a1, a2, a3, a4, a5, a6, a7, a8⟩
 have HE := Lib.hid (And.intro a1 (And.intro a2 (And.intro a3 (And.intro a4 (And.intro a5 (And.intro a6 a8))))))
 clear a1 a2 a3 a4 a5 a6 a7 a8 HSE
 go_wp2_with fail
 go_ret
 obtain ⟨a1, a2, a3, a4, a5, a6, a8⟩ := HE.out
 have hk7 : k7 = Q.length := a6 HNQ.out
 have hl7 : Q7.length = Q.length := by rw [a2.length_eq, List.length_set]
 refine ⟨rfl, ⟨⟨_, _, B, D7, Q7, f7, a1, ⟨Or.inl HB.out.1, Or.inl HB.out.2.1, fun d hd => Or.inl (HB.out.2.2 d hd)⟩, a5.ext (fun m => ?_) (by rw [hk7, hl7]) (fun _ _ => rfl), a4, a3, a2.trans HPM.out⟩, HSR.out⟩, LA.out.2.mono (fun j hj e => ?_) |>.trans (a8.mono fun j hj e => ?_)⟩
 ·rw [ns_mem a2, HMM.out]
  exact ⟨fun h => h.elim (fun e => by rw [e]; exact HNQ.out) id, Or.inr⟩
 ·rw [e]; exact HB.out.2.2 _ rfl
 ·rcases e with e | e
  ·rw [e]; exact Or.inl HB.out.2.1
  ·rw [e]; exact Or.inl (HB.out.2.2 _ rfl)
theorem fld1 (x y : Value) (W : World) : (Instr.field 116 (.agg #[x, y]) 1).run Tryz.prog W = .ok y W := by kernel_rfl
set_option maxRecDepth 100000 in
theorem remove_any (h : Hp F w g L) (n : Int) : Calls Tryz.prog 97 #[.pointer (some ⟨g, 0, none⟩), .int .i64 n] w (wrPost F w g (remT L n) (.tuple #[.int .u64 (remA L n), .int .i64 (remN L n)])) := by
 have HH := Lib.hid h
 obtain ⟨⟨A, c, B, D, Q, f, hlo, hF, hm, hf, hh, hp⟩, hsrt⟩ := h
 unfold wrPost
 by_cases hb : Sl n ∧ n ∈ ns L
 case neg =>
  have HK := Lib.hid (need_bad hlo hm hp hb)
  obtain ⟨r1, _, r3, r4⟩ := rem_cases L n 0 hb
  rw [r1, r3]
  obtain ⟨e0, he0⟩ : ∃ e0, e0 = remN L n := ⟨_, rfl⟩
  rw [← he0] at HK r4 ⊢
  clear hlo hF hm hf hh hp hsrt hb he0 r1 r3
  go_enter Tryz.func97, Tryz.ntmps97
  go_wp2_with fail
  refine HK.out.mono ?_
  rintro e w1 ⟨rfl, rfl⟩
  go_wp2_with fail
  go_ret2
  exact ⟨rfl, HH.out.mono fun _ _ h => Or.inl h, Only.refl _ _⟩
 obtain ⟨hs, hn⟩ := hb
 obtain ⟨k, hk, e⟩ := ns_A ((ns_mem hp n).2 hn)
 have HK := Lib.hid (need_yes hlo hm hs ((ns_mem hp n).2 hn))
 have e2 := hf k hk
 rw [e] at e2
 rw [e2] at HK
 obtain ⟨r1, r2, r3⟩ := rem_good hs hn
 have e3 := tm_at hp hsrt.nd hk
 rw [e] at e3
 rw [r1, r2, r3, e3]
 have hlen : Q.length ≤ 1048576 := by rw [hp.length_eq]; exact hsrt.len
 obtain ⟨b, o, rfl, _⟩ := hlo.at_ hk
 have HT := Lib.hid (take_any hlo hk (ns_nd hp hsrt.nd) (fun x hx => hsrt.sl x (hp.mem_iff.1 hx)) hm hf hh (by omega))
 unfold takePost tA at HT
 rw [e] at HT
 have HP : Hid ((wo Q n).Perm (wo L n)) := wo_perm hp n
 have HS : Hid (Srt (wo L n)) := hsrt.out n
 have HB := Lib.hid hF
 have hfld := fld1
 obtain ⟨t, ht⟩ : ∃ t, t = (Zm.A Q k).2 := ⟨_, rfl⟩
 rw [← ht] at HT ⊢
 clear hlo hF hm hf hh hp hsrt e e2 e3 r1 r2 r3 hs hn hk hlen ht
 go_enter Tryz.func97, Tryz.ntmps97
 go_wp2_with fail
 refine HK.out.mono ?_
 rintro e w1 ⟨rfl, rfl⟩
 go_wp2_with fail
 refine HT.out.mono ?_
 rintro e w2 ⟨D', Q', f', rfl, a1, a2, a3, a4, a5, a6⟩
 have HE := Lib.hid (And.intro a1 (And.intro a2 (And.intro a3 (And.intro a4 (And.intro a5 a6)))))
 clear a1 a2 a3 a4 a5 a6 HT
 go_wp2_with fail
 go_ret2
 obtain ⟨a1, a2, a3, a4, a5, a6⟩ := HE.out
 refine ⟨rfl, ⟨⟨_, _, B, D', Q', f', a1, ⟨Or.inl HB.out.1, Or.inl HB.out.2.1, fun d hd => Or.inl (HB.out.2.2 d hd)⟩, a5, a4, a3, a2.trans HP.out⟩, HS.out⟩, a6.mono fun j hj e => ?_⟩
 rcases e with e | e | e
 ·rw [e]; exact HB.out.1
 ·rw [e]; exact HB.out.2.1
 ·rw [e]; exact HB.out.2.2 _ rfl
end
end Go.Proofs.YtlmljhnogmfcfaaGreat.Ye
namespace Go.Proofs.YtlmljhnogmfcfaaGreat.Ye
open Go.RowKit Go.Maps Ap Mi Nw Ya Yb Yc Yd Zk Zm Za Zl Zs Zt

theorem wo_head {x : Td} {r : List Td} (hd : (ns (x :: r)).Nodup) : wo (x :: r) x.1 = r := by
 have := erase_wo (k := 0) hd (by simp) rfl
 simpa using this.symm
theorem take_hp {F : Nat → Prop} {w : World} {g : Nat} {x : Td} {r : List Td} (h : Hp F w g (x :: r)) :
  Calls Tryz.prog 113 #[.pointer (some ⟨g, 0, none⟩), .int .i64 0] w fun e w' => e = .returned (tA x) ∧ Hp F w' g r ∧ Only F w w' := by
 obtain ⟨⟨A, c, B, D, Q, f, hlo, hF, hm, hf, hh, hp⟩, hsrt⟩ := h
 have h0 : 0 < Q.length := by rw [hp.length_eq]; simp
 obtain ⟨y, r', e, hx⟩ := heap_head hh hp hsrt.pw h0
 injection e with e1 e2
 subst e1; subst e2
 have hlen : Q.length ≤ 1048576 := by rw [hp.length_eq]; exact hsrt.len
 obtain ⟨b, o, rfl, _⟩ := hlo.at_ h0
 refine (take_any hlo h0 (ns_nd hp hsrt.nd) (fun x hx => hsrt.sl x (hp.mem_iff.1 hx)) hm hf hh (by omega)).mono ?_
 rintro e w' ⟨D', Q', f', rfl, a1, a2, a3, a4, a5, a6⟩
 rw [hx] at a2 ⊢
 refine ⟨rfl, ⟨⟨_, _, B, D', Q', f', a1, hF, a5, a4, a3, ?_⟩, hsrt.sub (List.sublist_cons_self _ _)⟩, a6.mono fun j hj e => ?_⟩
 ·have := a2.trans (wo_perm hp x.1)
  rw [wo_head hsrt.nd] at this
  exact this
 ·rcases e with e | e | e
  ·rw [e]; exact hF.1
  ·rw [e]; exact hF.2.1
  ·rw [e]; exact hF.2.2 _ rfl
theorem due_step {L : List Td} {now : Int} (h : Srt L) {J : Nat} (hJ : J < L.length) (hk : J ≤ dueK L now) : (isDue L[J].2 now → J + 1 ≤ dueK L now) ∧ (¬ isDue L[J].2 now → J = dueK L now) := by
 obtain ⟨d1, d2⟩ := due_take (now := now) h
 constructor
 ·intro hd
  rcases Nat.lt_or_ge J (dueK L now) with h1 | h1
  ·exact h1
  ·refine absurd hd (d2 _ ?_)
   have e : J = dueK L now := by omega
   refine List.mem_iff_getElem.2 ⟨0, by rw [List.length_drop]; omega, ?_⟩
   rw [List.getElem_drop]
   congr 1; omega
 ·intro hd
  rcases Nat.lt_or_ge J (dueK L now) with h1 | h1
  ·refine absurd (d1 _ ?_) hd
   exact List.mem_iff_getElem.2 ⟨J, by rw [List.length_take]; omega, by rw [List.getElem_take]⟩
  ·omega
section
variable {F : Nat → Prop} {w : World} {g : Nat} {L : List Td}
def lenV : Value → Nat
 | .slice _ n _ => n
 | _ => 0
structure Du (F : Nat → Prop) (w : World) (g : Nat) (L : List Td) (now : Int) (wr : World) (J : Nat) (A' : Option Addr) (c' : Nat) : Prop where
 le : J ≤ dueK L now
 hp : Hp (fun j => F j ∧ j < w.heap.size) wr g (L.drop J)
 mi : Mine w.heap.size 2 wr A' J c' (tv (L.take J))
 on : Only (fun j => F j ∧ j < w.heap.size) w wr
theorem Du.end_ {now : Int} {wr : World} {J : Nat} {A' : Option Addr} {c' : Nat} (h : Du F w g L now wr J A' c') (e : J = dueK L now) : duPost F w g (L.drop (dueK L now)) (L.take (dueK L now)) (.returned (.tuple #[.slice A' J c', .int .i64 0])) wr := by
 have hle := dueK_le L now
 have hl : (L.take (dueK L now)).length = J := by rw [List.length_take]; omega
 refine ⟨fun j => F j ∧ j < w.heap.size, A', c', by rw [hl], by rw [← e]; exact h.hp, fun j hj => Or.inl hj.1, ?_, fun a ha => ?_, h.on.mono fun _ _ hj => hj.1⟩
 ·have := h.mi
  rw [e] at this
  refine Lt.mine (B := w.heap.size) ?_
  rw [hl, e]; exact this
 ·obtain ⟨m1, m2, _⟩ := h.mi.base ha
  exact ⟨m1, m2, fun hh => by have := hh.2; omega⟩
set_option maxRecDepth 100000 in
set_option maxHeartbeats 1000000 in
theorem due_any (h : Hp F w g L) (now : Int) : Calls Tryz.prog 73 #[.pointer (some ⟨g, 0, none⟩), .int .u64 now] w (duPost F w g (L.drop (dueK L now)) (L.take (dueK L now))) := by
 have HSRT := Lib.hid h.srt
 have hlen : L.length ≤ 1048576 := h.srt.len
 have HU : Hid (Calls Tryz.prog 111 #[.pointer (some ⟨g, 0, none⟩)] w fun e w' => e = .returned (.bool true) ∧ w' = w) := by
  obtain ⟨A, c, B, D, Q, f, hlo, _⟩ := h.has
  exact usable_any hlo.bk
 have D0 : Hid (Du F w g L now w 0 none 0) := ⟨Nat.zero_le _, h.tight, Mine.nil _ _ _, Only.refl _ _⟩
 have HE : Hid (∀ wr J A' c', Du F w g L now wr J A' c' → J = dueK L now → duPost F w g (L.drop (dueK L now)) (L.take (dueK L now)) (.returned (.tuple #[.slice A' J c', .int .i64 0])) wr) := fun _ _ _ _ h e => h.end_ e
 obtain ⟨P, hP⟩ : ∃ P, P = duPost F w g (L.drop (dueK L now)) (L.take (dueK L now)) := ⟨_, rfl⟩
 rw [← hP] at HE ⊢
 clear h hP
 go_enter Tryz.func73, Tryz.ntmps73
 go_wp2_with fail
 refine HU.out.mono ?_
 rintro e w1 ⟨rfl, rfl⟩
 go_wp2_with fail
 go_loopw [6] (fun u wr => ∃ J A' c', u = .slice A' J c' ∧ Hid (Du F w1 g L now wr J A' c')) (fun u _ => L.length - (lenV u))
 case atStart => exact ⟨0, none, 0, rfl, D0⟩
 case round =>
  obtain ⟨J, A', c', rfl, DU⟩ := hrel
  have hle := DU.out.le
  have hlk := dueK_le L now
  obtain ⟨⟨A, c, B, D, Q, f, hlo, hF, hm, hf, hh, hp⟩, hsrt⟩ := DU.out.hp
  obtain ⟨x0, x1, _⟩ := hlo.bk.two
  have lg := hlo.bk.lt
  have hql : Q.length = L.length - J := by rw [hp.length_eq, List.length_drop]
  by_cases hJ : J < L.length
  ·have h0 : 0 < Q.length := by omega
   have hd : L.drop J = L[J] :: L.drop (J + 1) := List.drop_eq_getElem_cons hJ
   have hx : Zm.A Q 0 = L[J] := by
    obtain ⟨y, r', e, hx⟩ := heap_head hh hp hsrt.pw h0
    rw [hd] at e
    injection e with e1 e2
    rw [hx, e1]
   obtain ⟨b, o, rfl, lb, c0, c1⟩ := hlo.at_ h0
   rw [show o + 0 * 2 = o from by omega, hx] at c0 c1
   have hqI : (0 : Int) < (Q.length : Int) := by omega
   have HST := Lib.hid (due_step HSRT.out hJ hle)
   have HDU : Hid (∀ W, Calls Tryz.prog 112 #[.int .u64 L[J].2, .int .u64 now] W fun e w' => e = .returned (.bool (decide (isDue L[J].2 now))) ∧ w' = W) := fun W => cdue_any _ _ W
   have HHP := DU.out.hp
   rw [hd] at HHP
   have HTK := Lib.hid (take_hp HHP)
   have HTV : Hid (tv (L.take J) ++ [.int .i64 L[J].1, .int .u64 L[J].2] = tv (L.take (J + 1))) := by
    show _ = _
    rw [List.take_succ_eq_append_getElem hJ, tv_append]; rfl
   obtain ⟨y, hy⟩ : ∃ y, y = L[J] := ⟨_, rfl⟩
   rw [← hy] at c0 c1 HST HDU HTK HTV
   obtain ⟨n, hn⟩ : ∃ n, n = Q.length := ⟨_, rfl⟩
   rw [← hn] at x0 hqI
   have hJL : J ≤ 1048576 := by omega
   unfold tA at HTK
   clear hlo hF hm hf hh hp hsrt hd hx hy hn hql h0 HHP
   by_cases hdu : isDue y.2 now
   ·have HJ1 := Lib.hid (HST.out.1 hdu)
    rw [decide_eq_true hdu] at HDU
    clear hdu HST
    go_wp2_with (go_at_call 112; refine (HDU.out _).mono ?_; rintro e w' ⟨rfl, rfl⟩)
    refine HTK.out.mono ?_
    rintro e w2 ⟨rfl, hp2, on2⟩
    have HP2 := Lib.hid hp2
    have ON2 := Lib.hid (DU.out.on.trans (on2.mono fun _ _ h => Or.inl h))
    have M2 := Lib.hid (DU.out.mi.only on2 (fun a ha h => by have := (DU.out.mi.base ha).1; have := h.2; omega))
    have hz2 := ON2.out.size
    have LB := Lib.hid (bnew w2 (.cells #[.int .i64 y.1, .int .u64 y.2] 116))
    clear hp2 on2 HTK x0 x1 c0 c1
    go_wp2_with (at_builtin; (refine wpList_mine rfl _ _ elT _ rfl rfl (M2.out.below LB.out (Nat.le_refl _)) _ rfl 1 _ (src_lit Tryz.underlying112 #[.int .i64 y.1, .int .u64 y.2] 1 2 rfl (by simp [Value.oneCell'])) (by omega) (by omega) (by simp; omega) ?_); intro A5 c5 w5 m5 g5 n5; have M5 := Lib.hid m5; have O5 : Hid (Only (fun j => w1.heap.size ≤ j) w2 w5) := ((Only.of_below LB.out (Nat.le_refl _) (fun _ => False)).mono (fun _ _ h => h.elim)).trans ((only_row (F := fun j => w1.heap.size ≤ j) g5 (fun d hd => (M2.out.base hd).1)).mono (fun _ _ h => Or.inl h)); clear m5 g5 n5)
    go_roundw
    case rel =>
     refine ⟨J + 1, A5, c5, rfl, Lib.hid ⟨HJ1.out, HP2.out.only O5.out (fun j hj h => by have := hj.2; omega), ?_, ON2.out.trans (O5.out.mono fun j _ h => Or.inr h)⟩⟩
     rw [← HTV.out]; exact M5.out
    case measure => simp [lenV]; omega
   ·have HJ1 := Lib.hid (HST.out.2 hdu)
    rw [decide_eq_false hdu] at HDU
    clear hdu HST
    go_wp2_with (go_at_call 112; refine (HDU.out _).mono ?_; rintro e w' ⟨rfl, rfl⟩)
    go_wp2_with fail
    exact HE.out _ _ _ _ DU.out HJ1.out
  ·have hq0 : Q.length = 0 := by omega
   rw [hq0] at x0
   have HJ1 : Hid (J = dueK L now) := by show _ = _; omega
   clear hlo hF hm hf hh hp hsrt hql hq0
   go_wp2_with fail
   exact HE.out _ _ _ _ DU.out HJ1.out
end
end Go.Proofs.YtlmljhnogmfcfaaGreat.Ye
namespace Go.Proofs.YtlmljhnogmfcfaaGreat.Ye
open Go.RowKit Go.Maps Ap Mi Nw Ya Yb Yc Yd Zk Zm Za Zl Zs Zt

theorem below_of_grown {w w' : World} {row : Option Nat} {B : Nat} (h : w.grownBy w' row) (hB : B ≤ w.heap.size) (hr : ∀ k, row = some k → B ≤ k) : Below B w w' := (Below.refl B w).grown h hB hr
def clonePost (w : World) (n : Nat) (xs : List Value) : Ending → World → Prop := fun e w' =>
 ∃ A c, e = .returned (.slice A n c) ∧ Mine w.heap.size 2 w' A n c xs ∧ Below w.heap.size w w'
theorem clone_nil (w : World) (A : Option Addr) (n c : Nat) : (binOp .eql 112 (.slice A n c) (.slice none 0 0)).run Tryz.prog w = .ok (.bool A.isNone) w := Lib.run_eql_slice_nil w 112 116 A n c 0 0 Tryz.underlying112
set_option maxRecDepth 100000 in
set_option maxHeartbeats 1000000 in
theorem clone_any (A : Option Addr) (n c : Nat) (Q : List Td) (w : World) (h : Rs w 2 A n c (tv Q)) (hn : n ≤ 1000000000) :
  Calls Tryz.prog 125 #[.slice A n c] w (clonePost w n (tv Q)) := by
 have h1 := tv_one Q
 have h2 := tv_len Q
 obtain ⟨xs, hxs⟩ : ∃ xs, xs = tv Q := ⟨_, rfl⟩
 rw [← hxs] at h h1 h2 ⊢
 clear hxs
 cases A with
 | none =>
  have h0 : xs = [] := by
   rcases Nat.eq_zero_or_pos xs.length with h0 | h0
   ·exact List.eq_nil_of_length_eq_zero h0
   ·obtain ⟨_, _, e, _⟩ := h.rd h0; cases e
  subst h0
  have hl := h.len
  obtain rfl : n = 0 := by simp at hl; omega
  obtain rfl : c = 0 := h.non rfl
  have hnil := fun w => clone_nil w none 0 0
  clear h h1 h2 hl
  unfold clonePost
  go_enter Tryz.func125, Tryz.ntmps125
  go_wp2_with fail
  go_ret
  exact ⟨_, _, rfl, Mine.nil _ _ _, Below.refl _ _⟩
 | some a =>
  have HS := Lib.hid ((h.below (bnew w (.cells #[] 116)) (Nat.le_refl _)).src Tryz.underlying112 (by omega) h1)
  have HM := Lib.hid (Mine.lit (sz := 2) w #[] 116 0 rfl (by unfold maxLen; omega))
  have hnil := fun w => clone_nil w (some a) n c
  clear h h1 h2
  unfold clonePost
  go_enter Tryz.func125, Tryz.ntmps125
  go_wp2_with (at_builtin; (refine wpList_mine rfl _ _ elT _ rfl rfl HM.out _ rfl n _ HS.out (by omega) (by omega) (by simp) ?_))
  intro A' c' w1 m1 g1 _
  have HM1 := Lib.hid m1
  have HB1 : Hid (Below w.heap.size w w1) := (bnew w _).trans (below_of_grown g1 (by simp) (fun k e => by simp at e; omega))
  clear m1 g1
  go_wp2_with fail
  go_ret
  refine ⟨A', c', by simp, ?_, HB1.out⟩
  simpa using HM1.out
def mclonePost (w : World) (D : DataW Unit) : Ending → World → Prop := fun e w' => e = .returned (.map (some w.heap.size)) ∧ Own w' w.heap.size D ∧ Below w.heap.size w w' ∧ w'.heap.size = w.heap.size + 1
set_option maxRecDepth 100000 in
theorem mclone_any {w : World} {b : Nat} {D : DataW Unit} (h : Own w b D) : Calls Tryz.prog 124 #[.map (some b)] w (mclonePost w D) := by
 obtain ⟨es, clock, hb, hfit, hs, hD⟩ := h
 have HP : Hid (mclonePost w D (.returned (.map (some w.heap.size))) (w.alloc (.map es clock))) :=
  ⟨rfl, ⟨es, clock, (MapKept.heap_alloc w _).1, hfit, hs, hD⟩, bnew _ _, by simp⟩
 have HB := Lib.hid hb
 have hq := fun w => run_eql_map_nil_sl (P := Tryz.prog) w 135 _ _ (some b) Tryz.underlying135
 clear hb hfit hs hD
 obtain ⟨Q, hQ⟩ : ∃ Q, Q = mclonePost w D := ⟨_, rfl⟩
 rw [← hQ] at HP ⊢
 clear hQ
 go_enter Tryz.func124, Tryz.ntmps124
 go_wp2
 rw [run_callFunc_extern (P := Tryz.prog) (f := 158) (fn := Tryz.f158) (by kernel_rfl) (by kernel_rfl) (by kernel_rfl) (by kernel_rfl) (e := Extern.MapsClone.clone) (by kernel_rfl), run_maps_clone_sl w 135 HB.out]
 simp only [Result.andThen]
 rw [Oper.upon_value]
 go_wp2
 rw [run_typeAssert_map_sl _ 135 20 _ _ _ Tryz.underlying135]
 simp only [Result.andThen]
 rw [Oper.upon_value]
 go_wp2
 exact HP.out
section
variable {F : Nat → Prop} {w : World} {g : Nat} {L : List Td}
theorem mine0 {N n c : Nat} {w : World} {A : Option Addr} {xs : List Value} (h : Mine N 2 w A n c xs) : Mine 0 2 w A n c xs :=
 ⟨h.le, h.max, h.len, h.non, fun a ha => by obtain ⟨g, o, e, h1, h2⟩ := h.lies a ha; exact ⟨g, o, e, Nat.zero_le _, h2⟩⟩
theorem copy_end {w0 w2 : World} {D : DataW Unit} {Q L : List Td} {f : Int → Int} {A : Option Addr} {c : Nat} (hm : Md D (fun m => m ∈ ns Q) Q.length f) (hf : Plc f Q) (hh : HeapQ Q) (hp : Q.Perm L) (hs : Srt L)
  (h1 : Mine w0.heap.size 2 w2 A Q.length c (tv Q)) (B : Nat) (h2 : Own w2 B D) (hB : w0.heap.size ≤ B) (hne : ∀ a, A = some a → a.block ≠ B) (h3 : Below w0.heap.size w0 w2) :
  mkPost w0 L (.returned (.pointer (some ⟨w2.heap.size, 0, none⟩))) (w2.alloc (.cells #[.slice A Q.length c, .map (some B)] 140)) := by
 have hz := h3.size
 have hlt := h2.lt
 have ho : Only (fun _ => False) w2 (w2.alloc (.cells #[.slice A Q.length c, .map (some B)] 140)) := (Only.refl (fun _ => False) _).alloc _
 refine ⟨_, rfl, ⟨⟨A, c, B, D, Q, f, ⟨Blk.new _ _ _, h2.kept ho (fun h => h), mine0 (h1.only ho (fun _ _ h => h)), by omega, fun a ha => ⟨by have := (h1.base ha).2.1; omega, hne a ha⟩⟩, ⟨hz, hB, fun a ha => (h1.base ha).1⟩, hm, hf, hh, hp⟩, hs⟩, h3.alloc hz _⟩
set_option maxRecDepth 100000 in
set_option maxHeartbeats 4000000 in
theorem copy_any (h : Hp F w g L) : Calls Tryz.prog 80 #[.pointer (some ⟨g, 0, none⟩)] w (mkPost w L) := by
 obtain ⟨⟨A, c, B, D, Q, f, hlo, hF, hm, hf, hh, hp⟩, hsrt⟩ := h
 have hlen : Q.length ≤ 1048576 := by rw [hp.length_eq]; exact hsrt.len
 have HU := Lib.hid (usable_any hlo.bk)
 obtain ⟨x0, x1, _⟩ := hlo.bk.two
 have lg := hlo.bk.lt
 obtain ⟨n, hn⟩ : ∃ n, n = Q.length := ⟨_, rfl⟩
 have CS : Hid (∀ W, Below w.heap.size w W → Calls Tryz.prog 125 #[.slice A n c] W (clonePost W n (tv Q))) := fun W hW => by
  have := clone_any A n c Q W (by rw [hn]; exact Rs.below (Lt.mine hlo.mi) hW (Nat.le_refl _)) (by omega)
  exact this
 have CM : Hid (∀ W, Below w.heap.size w W → Calls Tryz.prog 124 #[.map (some B)] W (mclonePost W D)) := fun W hW => mclone_any (hlo.ob.kept (Only.of_below hW (Nat.le_refl _) (fun _ => False)) (fun h => h))
 have HE : Hid (∀ w2 A1 c1 B1, Mine w.heap.size 2 w2 A1 n c1 (tv Q) → Own w2 B1 D → w.heap.size ≤ B1 → (∀ a, A1 = some a → a.block ≠ B1) → Below w.heap.size w w2 → mkPost w L (.returned (.pointer (some ⟨w2.heap.size, 0, none⟩))) (w2.alloc (.cells #[.slice A1 n c1, .map (some B1)] 140))) := fun w2 A1 c1 B1 k1 k2 k3 k4 k5 => by
  rw [hn] at k1 ⊢
  exact copy_end hm hf hh hp hsrt k1 B1 k2 k3 k4 k5
 rw [← hn] at x0
 unfold clonePost at CS
 unfold mclonePost at CM
 obtain ⟨P, hP⟩ : ∃ P, P = mkPost w L := ⟨_, rfl⟩
 rw [← hP] at HE ⊢
 have BD : Hid (Below w.heap.size w w.drew) := (Below.refl _ _).drew
 clear hlo hF hm hf hh hp hsrt hlen hn hP
 go_enter Tryz.func80, Tryz.ntmps80
 go_wp2_with fail
 refine HU.out.mono ?_
 rintro e w0 ⟨rfl, rfl⟩
 go_wp2_with fail
 go_region_with (first
  | (go_at_call 125; refine (CS.out _ (by first | exact BM.out | exact BD.out)).mono ?_; rintro e ws ⟨A1, c1, rfl, ms, bs⟩; have MS := Lib.hid ms; have BS0 := Lib.hid bs; have BS : Hid (Below w0.heap.size w0 ws) := (by first | exact BM.out.trans (bs.mono BM.out.size) | exact BD.out.trans bs); have y1 := (BS.out.cell (p := ⟨g, 1, none⟩) lg).trans x1; clear ms bs)
  | (go_at_call 124; refine (CM.out _ (by first | exact BS.out | exact BD.out)).mono ?_; rintro e wm ⟨rfl, om, bm, zm⟩; have OM := Lib.hid om; have BM0 := Lib.hid bm; have BM : Hid (Below w0.heap.size w0 wm) := (by first | exact BS.out.trans (bm.mono BS.out.size) | exact BD.out.trans bm); have y0 := (BM.out.cell (p := ⟨g, 0, none⟩) lg).trans x0; clear om bm))
 all_goals
  go_wp2_with fail
  go_ret
  have e := HE.out wm A1 c1 ws.heap.size (MS.out.below BM0.out (Nat.le_refl _)) OM.out BS.out.size (fun a ha h => by have := (MS.out.base ha).2.1; omega) BM.out
  rw [zm] at e
  exact e
end
def zeroC : Array Value := #[.slice none 0 0, .map none]
def Idle (w : World) (p : Option Addr) : Prop := p = none ∨ ∃ g, p = some ⟨g, 0, none⟩ ∧ Blk w g zeroC 140
theorem Idle.below {w w' : World} {p : Option Addr} (h : Idle w p) (hb : Below w.heap.size w w') : Idle w' p := by
 rcases h with h | ⟨g, h, h1⟩
 ·exact Or.inl h
 ·exact Or.inr ⟨g, h, h1.below hb h1.lt⟩
section
variable {w : World} {p : Option Addr}
end
end Go.Proofs.YtlmljhnogmfcfaaGreat.Ye
