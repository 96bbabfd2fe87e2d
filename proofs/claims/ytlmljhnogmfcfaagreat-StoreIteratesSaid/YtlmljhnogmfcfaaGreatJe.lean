/- Proves the contracts of the functions of package account. Conditions: as each theorem names them. -/
import Derived.Test.YtlmljhnogmfcfaaGreatNw
import Derived.Test.YtlmljhnogmfcfaaGreatAp
import Derived.Test.YtlmljhnogmfcfaaGreatRows
import Derived.Test.YtlmljhnogmfcfaaGreatShelf
import Derived.Deep.Cut
import Derived.Deep.RegionHeld3
import Derived.Lib.Hide
import Derived.Lib.Strings
import Derived.WalkKit
import Derived.WalkSpells
import Derived.WalkLawsBesides
import Derived.Laws.Rows
import Derived.BigQuiet
import Derived.Deep.QuietTactic
import Derived.Sort.KeysCollected
import Derived.Sort.OwnSorted
import Derived.Maps.RangeWalk
import Derived.Maps.OwnSet
import Derived.Maps.Own
namespace Go.Proofs.YtlmljhnogmfcfaaGreat.Ja
open Go.RowKit Ap Mi Nw

structure Ac where
 b : Int
 e : Int
 x : Int
 n : Int
def isC (c : Int) : Prop := 65 ≤ c ∧ c ≤ 67000
instance (c : Int) : Decidable (isC c) := inferInstanceAs (Decidable (_ ∧ _))
def bud (b e : Int) : Prop := 1 ≤ b ∧ b ≤ 1099511627776 ∧ 1 ≤ e ∧ e ≤ 1048576
instance (b e : Int) : Decidable (bud b e) := inferInstanceAs (Decidable (_ ∧ _))
structure Ok (s : Ac) : Prop where
 bb : bud s.b s.e
 n0 : 0 ≤ s.n
 n1 : s.n ≤ 2097152
 lo : s.n * 65 ≤ s.x
 hi : s.x ≤ s.n * 67000
def can (s : Ac) (c : Int) : Prop := 1 ≤ s.n ∧ (s.n - 1) * 65 ≤ s.x - c ∧ s.x - c ≤ (s.n - 1) * 67000
instance (s : Ac) (c : Int) : Decidable (can s c) := inferInstanceAs (Decidable (_ ∧ _))
def addN (s : Ac) (c : Int) : Int := if ¬ isC c then 3 else if 2097152 ≤ s.n then 7 else 0
def addT (s : Ac) (c : Int) : Ac := if isC c ∧ s.n < 2097152 then { s with x := s.x + c, n := s.n + 1 } else s
def remN (s : Ac) (c : Int) : Int := if ¬ isC c then 3 else if can s c then 0 else 9
def remT (s : Ac) (c : Int) : Ac := if isC c ∧ can s c then { s with x := s.x - c, n := s.n - 1 } else s
def fitB (s : Ac) (c : Int) : Bool := decide (isC c ∧ c ≤ s.b)
def ovB (s : Ac) : Int := max 0 (s.x - s.b)
def ovE (s : Ac) : Int := max 0 (s.n - s.e)
theorem Ok.add {s : Ac} (h : Ok s) (c : Int) : Ok (addT s c) := by
 unfold addT
 split
 ·rename_i hc
  obtain ⟨h1, h2, h3, h4, h5⟩ := h
  obtain ⟨⟨c1, c2⟩, c3⟩ := hc
  exact ⟨h1, by show 0 ≤ s.n + 1; omega, by show s.n + 1 ≤ _; omega, by show (s.n + 1) * 65 ≤ s.x + c; omega, by show s.x + c ≤ (s.n + 1) * 67000; omega⟩
 ·exact h
theorem Ok.rem {s : Ac} (h : Ok s) (c : Int) : Ok (remT s c) := by
 unfold remT
 split
 ·rename_i hc
  obtain ⟨h1, h2, h3, h4, h5⟩ := h
  obtain ⟨_, c1, c2, c3⟩ := hc
  exact ⟨h1, by show 0 ≤ s.n - 1; omega, by show s.n - 1 ≤ _; omega, c2, c3⟩
 ·exact h
theorem ok_new {b e : Int} (h : bud b e) : Ok ⟨b, e, 0, 0⟩ := ⟨h, by show (0 : Int) ≤ 0; omega, by show (0 : Int) ≤ 2097152; omega, by show (0 : Int) * 65 ≤ 0; omega, by show (0 : Int) ≤ 0 * 67000; omega⟩
def cells (s : Ac) : Array Value := #[.int .i64 s.b, .int .i64 s.e, .int .i64 s.x, .int .i64 s.n]
end Go.Proofs.YtlmljhnogmfcfaaGreat.Ja
namespace Go.Proofs.YtlmljhnogmfcfaaGreat.Jb
open Go.RowKit Ap Mi Nw Ja

def vPost (w : World) (v : Value) : Ending → World → Prop := fun q w' => q = .returned v ∧ Below w.heap.size w w'
end Go.Proofs.YtlmljhnogmfcfaaGreat.Jb
namespace Go.Proofs.YtlmljhnogmfcfaaGreat.Jc
open Go.RowKit Ap Mi Nw Ja Jb

def strs (l : List ByteArray) : List Value := l.map Value.string
def Sl (w : World) (A : Option Addr) (l : List ByteArray) (c : Nat) : Prop := Rs w 1 A l.length c (strs l)
theorem Sl.below {w w' : World} {A : Option Addr} {l : List ByteArray} {c B : Nat} (h : Sl w A l c) (hb : Below B w w') (hB : w.heap.size ≤ B) : Sl w' A l c := Rs.below h hb hB
theorem Sl.at_ {w : World} {A : Option Addr} {l : List ByteArray} {c : Nat} (h : Sl w A l c) {i : Nat} (hi : i < l.length) : ∃ b o, A = some ⟨b, o, none⟩ ∧ b < w.heap.size ∧ w.cell? ⟨b, o + i, none⟩ = some (.string l[i]) :=
 (Rs.rd h).at_ (by unfold strs; rw [List.getElem?_map, List.getElem?_eq_getElem hi]; rfl)
def keyOk (k : ByteArray) : Prop := 1 ≤ k.size ∧ k.size ≤ 250
instance (k : ByteArray) : Decidable (keyOk k) := inferInstanceAs (Decidable (_ ∧ _))
def tagOk (k : ByteArray) : Prop := 1 ≤ k.size ∧ k.size ≤ 64
instance (k : ByteArray) : Decidable (tagOk k) := inferInstanceAs (Decidable (_ ∧ _))
def good (l : List ByteArray) (K : Nat) : Prop := ∀ i (h : i < l.length), i < K → tagOk l[i] ∧ (0 < i → Op.bytesLess (l[i - 1]'(by omega)).toList l[i].toList = true)
def sumT (l : List ByteArray) (K : Nat) : Nat := ((l.take K).map ByteArray.size).sum
theorem sumT_succ {l : List ByteArray} {K : Nat} (h : K < l.length) : sumT l (K + 1) = sumT l K + l[K].size := by
 unfold sumT
 rw [List.take_succ_eq_append_getElem h, List.map_append, List.sum_append]; simp
theorem good_succ {l : List ByteArray} {K : Nat} (hK : K < l.length) (hg : good l K) (h1 : tagOk l[K]) (h2 : 0 < K → Op.bytesLess (l[K - 1]'(by omega)).toList l[K].toList = true) : good l (K + 1) := fun i hi hiK => by
 by_cases e : i = K
 ·subst e; exact ⟨h1, h2⟩
 ·exact hg i hi (by omega)
theorem sumT_le {l : List ByteArray} : ∀ {K : Nat}, K ≤ l.length → good l K → sumT l K ≤ 64 * K
 | 0, _, _ => by simp [sumT]
 | K + 1, hK, hg => by
  have h1 := sumT_le (K := K) (by omega) (fun i hi hiK => hg i hi (by omega))
  have h2 := (hg K (by omega) (by omega)).1.2
  rw [sumT_succ (by omega)]
  omega
def okT (l : List ByteArray) : Prop := l.length ≤ 16 ∧ good l l.length
open Classical in
noncomputable def costN (k : ByteArray) (vn : Nat) (l : List ByteArray) : Int := if ¬ (keyOk k ∧ okT l) then 2 else if 65536 < vn then 5 else 0
open Classical in
noncomputable def costV (k : ByteArray) (vn : Nat) (l : List ByteArray) : Int := if (keyOk k ∧ okT l) ∧ vn ≤ 65536 then 64 + (k.size : Int) + (vn : Int) + (sumT l l.length : Int) else 0
theorem cost_bad {k : ByteArray} {vn : Nat} {l : List ByteArray} (h : ¬ (keyOk k ∧ okT l)) : costV k vn l = 0 ∧ costN k vn l = 2 := ⟨if_neg (fun g => h g.1), if_pos h⟩
theorem cost_long {k : ByteArray} {vn : Nat} {l : List ByteArray} (h : keyOk k ∧ okT l) (hv : 65536 < vn) : costV k vn l = 0 ∧ costN k vn l = 5 := ⟨if_neg (fun g => by have := g.2; omega), by unfold costN; rw [if_neg (fun g => g h), if_pos hv]⟩
theorem cost_good {k : ByteArray} {vn : Nat} {l : List ByteArray} (h : keyOk k ∧ okT l) (hv : vn ≤ 65536) : costV k vn l = 64 + (k.size : Int) + (vn : Int) + (sumT l l.length : Int) ∧ costN k vn l = 0 := ⟨if_pos ⟨h, hv⟩, by unfold costN; rw [if_neg (fun g => g h), if_neg (by omega)]⟩
end Go.Proofs.YtlmljhnogmfcfaaGreat.Jc
namespace Go.Proofs.YtlmljhnogmfcfaaGreat.Km
open Go

abbrev Bs := List UInt8

/-! ### bytes -/
/-! ### texts -/
/-! ### Text and Parse invert each other -/
end Go.Proofs.YtlmljhnogmfcfaaGreat.Km
namespace Go.Proofs.YtlmljhnogmfcfaaGreat.Kt
open Go Km

/-! ### what two strings begin with together -/
/-! ### segments -/
/-! ### a key out of segments -/
/-! ### folders -/
/-! ### tags in order -/
def ins (x : Bs) : List Bs → List Bs
 | [] => [x]
 | y :: r => if y < x then y :: ins x r else if y = x then y :: r else x :: y :: r
def Sorted (l : List Bs) : Prop := l.Pairwise (· < ·)
theorem mem_ins (x z : Bs) (l : List Bs) : z ∈ ins x l ↔ z = x ∨ z ∈ l := by
 induction l with
 | nil => simp [ins]
 | cons y r ih =>
  unfold ins
  split
  ·simp only [List.mem_cons, ih]
   constructor
   ·rintro (h | h | h) <;> simp [h]
   ·rintro (h | h | h) <;> simp [h]
  ·split
   ·rename_i h; subst h; simp
   ·simp
theorem lt_of {x y : Bs} (h1 : ¬ y < x) (h2 : ¬ y = x) : x < y := by
 rcases List.le_total x y with h | h
 ·rcases List.le_iff_lt_or_eq.1 h with h | h
  ·exact h
  ·exact absurd h.symm h2
 ·rcases List.le_iff_lt_or_eq.1 h with h | h
  ·exact absurd h h1
  ·exact absurd h h2
theorem ins_sorted (x : Bs) (l : List Bs) (h : Sorted l) : Sorted (ins x l) := by
 induction l with
 | nil => simp [ins, Sorted]
 | cons y r ih =>
  have hr := List.pairwise_cons.1 h
  unfold ins
  split
  ·rename_i hy
   refine List.pairwise_cons.2 ⟨fun z hz => ?_, ih hr.2⟩
   rcases (mem_ins x z r).1 hz with rfl | hz
   ·exact hy
   ·exact hr.1 z hz
  ·split
   ·exact h
   ·rename_i h1 h2
    have hxy := lt_of h1 h2
    refine List.pairwise_cons.2 ⟨fun z hz => ?_, h⟩
    rcases List.mem_cons.1 hz with rfl | hz
    ·exact hxy
    ·exact List.lt_trans hxy (hr.1 z hz)
def tagsL (l : List Bs) : List Bs := l.foldl (fun acc x => ins x acc) []
theorem tags_sorted_aux (l acc : List Bs) (h : Sorted acc) : Sorted (l.foldl (fun acc x => ins x acc) acc) := by
 induction l generalizing acc with
 | nil => exact h
 | cons x r ih => exact ih _ (ins_sorted x acc h)
theorem tags_sorted (l : List Bs) : Sorted (tagsL l) := tags_sorted_aux l [] (by simp [Sorted])
theorem mem_tags_aux (l acc : List Bs) (z : Bs) : z ∈ l.foldl (fun acc x => ins x acc) acc ↔ z ∈ l ∨ z ∈ acc := by
 induction l generalizing acc with
 | nil => simp
 | cons x r ih =>
  rw [List.foldl_cons, ih, mem_ins]
  simp only [List.mem_cons]
  constructor
  ·rintro (h | h | h) <;> simp [h]
  ·rintro ((h | h) | h) <;> simp [h]
theorem mem_tags (l : List Bs) (z : Bs) : z ∈ tagsL l ↔ z ∈ l := by unfold tagsL; rw [mem_tags_aux]; simp
theorem sorted_ext : ∀ (a b : List Bs), Sorted a → Sorted b → (∀ z, z ∈ a ↔ z ∈ b) → a = b
 | [], [], _, _, _ => rfl
 | [], y :: r, _, _, h => by have := (h y).2 (by simp); simp at this
 | x :: r, [], _, _, h => by have := (h x).1 (by simp); simp at this
 | x :: r, y :: q, ha, hb, h => by
  have h1 := List.pairwise_cons.1 ha
  have h2 := List.pairwise_cons.1 hb
  have e : x = y := by
   rcases List.mem_cons.1 ((h x).1 (by simp)) with e | e
   ·exact e
   ·rcases List.mem_cons.1 ((h y).2 (by simp)) with e' | e'
    ·exact e'.symm
    ·exact absurd (List.lt_trans (h1.1 y e') (h2.1 x e)) (List.lt_irrefl x)
  subst e
  rw [sorted_ext r q h1.2 h2.2 fun z => ?_]
  have hz := h z
  simp only [List.mem_cons] at hz
  constructor
  ·intro hr
   rcases hz.1 (Or.inr hr) with e | e
   ·subst e; exact absurd (h1.1 z hr) (List.lt_irrefl z)
   ·exact e
  ·intro hq
   rcases hz.2 (Or.inr hq) with e | e
   ·subst e; exact absurd (h2.1 z hq) (List.lt_irrefl z)
   ·exact e
theorem tags_of_sorted (l : List Bs) (h : Sorted l) : tagsL l = l := sorted_ext _ _ (tags_sorted l) h (mem_tags l)
theorem merge_tags (ss l : List Bs) (hn : ss.Nodup) (hm : ∀ z, z ∈ ss ↔ z ∈ l) : ss.mergeSort (fun x y => decide (x ≤ y)) = tagsL l := by
 have tr : ∀ a b c : Bs, decide (a ≤ b) = true → decide (b ≤ c) = true → decide (a ≤ c) = true := fun a b c h1 h2 => by simp only [decide_eq_true_eq] at *; exact List.le_trans h1 h2
 have to : ∀ a b : Bs, (decide (a ≤ b) || decide (b ≤ a)) = true := fun a b => by simp only [Bool.or_eq_true, decide_eq_true_eq]; exact List.le_total a b
 have hp := List.mergeSort_perm ss (fun x y => decide (x ≤ y))
 refine sorted_ext _ _ ?_ (tags_sorted l) fun z => by rw [hp.mem_iff, hm, mem_tags]
 have hs := List.pairwise_mergeSort tr to ss
 have hd : (ss.mergeSort fun x y => decide (x ≤ y)).Pairwise (· ≠ ·) := hp.symm.nodup hn
 refine (hs.and hd).imp_of_mem fun {a b} _ _ hab => ?_
 obtain ⟨h1, h2⟩ := hab
 simp only [decide_eq_true_eq] at h1
 rcases List.le_iff_lt_or_eq.1 h1 with h | h
 ·exact h
 ·exact absurd h h2
theorem ins_len (x : Bs) (l : List Bs) : (ins x l).length ≤ l.length + 1 := by
 induction l with
 | nil => simp [ins]
 | cons y r ih =>
  unfold ins
  split
  ·simp; omega
  ·split <;> simp
theorem tags_len_aux (l acc : List Bs) : (l.foldl (fun acc x => ins x acc) acc).length ≤ acc.length + l.length := by
 induction l generalizing acc with
 | nil => simp
 | cons x r ih => have := ih (ins x acc); have := ins_len x acc; simp only [List.foldl_cons, List.length_cons]; omega
theorem tags_len_le (l : List Bs) : (tagsL l).length ≤ l.length := by have := tags_len_aux l []; simpa [tagsL] using this
def validTagL (s : Bs) : Bool := decide (1 ≤ s.length ∧ s.length ≤ 64)
def tagsE (l : List Bs) : Int := if l.all validTagL then (if 16 < (tagsL l).length then 5 else 0) else 2
def tagsV (l : List Bs) : List Bs := if tagsE l = 0 then tagsL l else []
end Go.Proofs.YtlmljhnogmfcfaaGreat.Kt
namespace Go.Proofs.YtlmljhnogmfcfaaGreat.Kv
open Go.RowKit Km Kt

theorem len_eq (s : ByteArray) : s.data.toList.length = s.size := by simp
def validTagS (s : ByteArray) : Bool := validTagL s.data.toList
theorem validTagS_yes {s : ByteArray} (h0 : 1 ≤ s.size) (h1 : s.size ≤ 64) : validTagS s = true := by unfold validTagS validTagL; rw [len_eq]; simpa using ⟨h0, h1⟩
theorem validTagS_no {s : ByteArray} (h0 : ¬ (1 ≤ s.size ∧ s.size ≤ 64)) : validTagS s = false := by unfold validTagS validTagL; rw [len_eq]; simpa using h0
theorem ret_b {a b : Bool} (h : a = b) : Ending.returned (.bool a) = .returned (.bool b) := by rw [h]

set_option maxHeartbeats 400000 in
theorem validTag_any (s : ByteArray) (w : World) (hs : s.size ≤ maxLen) :
  Calls Tryz.prog 166 #[.string s] w fun e w' => e = .returned (.bool (validTagS s)) ∧ w = w' := by
 unfold maxLen at hs
 by_cases h0 : 1 ≤ s.size
 ·by_cases h1 : s.size ≤ 64
  ·have HV := Lib.hid (validTagS_yes h0 h1)
   go_enter Tryz.func166, Tryz.ntmps166
   go_wp2
   go_ret
   exact ⟨ret_b (by rw [HV.out]; simp; omega), rfl⟩
  ·have HV := Lib.hid (validTagS_no (s := s) (by omega))
   have h2 : 64 < s.size := by omega
   clear h1
   go_enter Tryz.func166, Tryz.ntmps166
   go_wp2
   go_ret
   exact ⟨ret_b (by rw [HV.out]; simp; omega), rfl⟩
 ·have HV := Lib.hid (validTagS_no (s := s) (by omega))
  have h2 : s.size < 1 := by omega
  clear h0
  go_enter Tryz.func166, Tryz.ntmps166
  go_wp2
  go_ret
  exact ⟨ret_b (by rw [HV.out]), rfl⟩

end Go.Proofs.YtlmljhnogmfcfaaGreat.Kv
namespace Go.Proofs.YtlmljhnogmfcfaaGreat.Kx
open Go.RowKit Km Kt Kv Ap

/-! ### Text -/
def strV (l : List UInt8) : Value := .string ⟨l.toArray⟩
end Go.Proofs.YtlmljhnogmfcfaaGreat.Kx
namespace Go.Proofs.YtlmljhnogmfcfaaGreat.Ks
open Go.RowKit Km Kt Kv Ap Kx

def Rd (w : World) (A : Option Addr) (l : List Bs) : Prop :=
 0 < l.length → ∃ b o, A = some ⟨b, o, none⟩ ∧ b < w.heap.size ∧ ∀ j (h : j < l.length), w.cell? ⟨b, o + j, none⟩ = some (.string ⟨l[j].toArray⟩)
theorem Rd.below {w w' : World} {A : Option Addr} {l : List Bs} (h : Rd w A l) {B : Nat} (hb : Below B w w') (hB : w.heap.size ≤ B) : Rd w' A l := fun h0 => by
 obtain ⟨b, o, e, hlt, hc⟩ := h h0
 exact ⟨b, o, e, Nat.lt_of_lt_of_le hlt hb.size, fun j hj => by rw [hb.cell (by show b < B; omega)]; exact hc j hj⟩
theorem Rd.at_ {w : World} {A : Option Addr} {l : List Bs} (h : Rd w A l) {k : Nat} (hk : k < l.length) : ∃ b o, A = some ⟨b, o, none⟩ ∧ b < w.heap.size ∧ w.cell? ⟨b, o + k, none⟩ = some (.string ⟨l[k].toArray⟩) := by
 obtain ⟨b, o, e, hlt, hc⟩ := h (by omega)
 exact ⟨b, o, e, hlt, hc k hk⟩
theorem Rd.of_own {B : Nat} {e : TypeId} {w : World} {A : Option Addr} {c : Nat} {l : List Bs} (h : w.ownsRow B e 1 (.slice A l.length c) l.length (l.map strV)) : Rd w A l := fun h0 => by
 rcases h.2 with ⟨_, h1⟩ | ⟨g, cap, cur, hv, _, hg, _, _, _, ht⟩
 ·omega
 ·have hA : A = some ⟨g, 0, none⟩ := by injection hv
  refine ⟨g, 0, hA, (Array.getElem?_eq_some_iff.1 hg).1, fun j hj => ?_⟩
  rw [Nat.zero_add, cell_of_row w g j cur _ (0, 0) hg]
  have e : (cur.toList.take (l.length * 1))[j]? = (l.map strV)[j]? := by rw [ht]
  rw [List.getElem?_take, if_pos (by omega)] at e
  rw [← Array.getElem?_toList, e, List.getElem?_map, List.getElem?_eq_getElem hj]
  rfl
theorem own_shape {B : Nat} {e : TypeId} {w : World} {v : Value} {n : Nat} {xs : List Value} (h : w.ownsRow B e 1 v n xs) : ∃ A c, v = .slice A n c ∧ n ≤ c := by
 rcases h.2 with ⟨rfl, h1⟩ | ⟨g, cap, cur, rfl, _, _, hc, _⟩
 ·exact ⟨none, 0, by rw [h1], by omega⟩
 ·exact ⟨_, _, rfl, hc⟩

end Go.Proofs.YtlmljhnogmfcfaaGreat.Ks
namespace Go.Proofs.YtlmljhnogmfcfaaGreat.Kf
open Go.RowKit Km Kt Kv Ap Kx Ks

theorem elS : El Tryz.prog 39 9 (.string ⟨#[]⟩) where
 sl := Tryz.underlying39
 info := by kernel_rfl
 small := by
  have h : (Tryz.prog.info? 9).map (·.bytes) = some 16 := by kernel_rfl
  intro i hi; rw [hi] at h; simp at h; omega
 one := rfl
def Own (B : Nat) (w : World) (v : Value) (l : List Bs) : Prop := w.ownsRow B 9 1 v l.length (l.map strV)
theorem own_row {B : Nat} {w : World} {v : Value} {l : List Bs} (h : Own B w v l) : w.ownsRow B 9 1 v l.length (l.map strV) := h
def strsPost (w : World) (l : List Bs) (n : Int) : Ending → World → Prop := fun e w' => ∃ v, e = .returned (.tuple #[v, .int .i64 n]) ∧ Own w.heap.size w' v l ∧ Below w.heap.size w w'
theorem own_nil (B : Nat) (w : World) : Own B w (.slice none 0 0) [] := World.ownsRow_nil _ _ _ _

theorem ret_vi {v v' : Value} {a b : Int} (h : v = v') (k : a = b) : Ending.returned (.tuple #[v, .int .i64 a]) = .returned (.tuple #[v', .int .i64 b]) := by rw [h, k]
end Go.Proofs.YtlmljhnogmfcfaaGreat.Kf
namespace Go.Proofs.YtlmljhnogmfcfaaGreat.Ku
open Go.RowKit Go.Maps Go.Sort Go.WideMaps Km Kt Kv Ap Kx Ks Kf

theorem keyS : Keyed Tryz.prog 9 := string_keyed Tryz.underlying9
abbrev Dt := DataW Unit
def Keys (D : Dt) (l : List Bs) : Prop := ∀ x, Maps.has D (.string x) = true ↔ x ∈ l
theorem Keys.put {D : Dt} {l : List Bs} {x : Bs} (h : Keys D l) (hD : IsMap D) : Keys (D.put (.string x) (.lit (.bool true))) (l ++ [x]) := by
 intro y
 by_cases hy : y = x
 ·subst hy
  rw [Maps.has_put_same (k := .string y) hD trivial]; simp
 ·rw [Maps.has_put_other (by intro e; exact hy (by injection e))]
  rw [h y]; simp [hy]
theorem keys_list {w : World} {b n : Nat} {D : Dt} {l : List Bs} (hown : w.ownsMap Tryz.prog 9 (plainElem Tryz.prog 4) b n D) (h : Keys D l) : (strKeys D).Nodup ∧ (∀ z, z ∈ strKeys D ↔ z ∈ l) ∧ Maps.size D = (strKeys D).length := by
 obtain ⟨es, rfl, hp, _⟩ := hown.entries keyS
 obtain ⟨es', e', hk⟩ := hown.keysOf
 have e'' : es = es' := by simpa using e'
 subst e''
 have hkk : ∀ p ∈ es, ∃ x, p.1 = .string x := fun p hp' => by
  obtain ⟨v, hv⟩ := hk p hp'
  obtain ⟨x, _, hx, _⟩ := Maps.keyOf_str Tryz.underlying9 hv
  exact ⟨x, hx⟩
 have hnd : (strKeys (DataW.map es : Dt)).Nodup := by
  show (es.map fun p => strOf p.1).Nodup
  refine List.pairwise_map.2 (hp.imp_of_mem fun {p q} hp' hq' hne e => hne ?_)
  obtain ⟨a, ha⟩ := hkk p hp'
  obtain ⟨b, hb⟩ := hkk q hq'
  rw [ha, hb] at e ⊢
  exact congrArg _ e
 refine ⟨hnd, fun z => ?_, by simp [strKeys, Maps.size_eq]⟩
 rw [← h z, Maps.has_eq, List.any_eq_true]
 show z ∈ es.map (fun p => strOf p.1) ↔ _
 rw [List.mem_map]
 constructor
 ·rintro ⟨p, hp', rfl⟩
  obtain ⟨a, ha⟩ := hkk p hp'
  exact ⟨p, hp', by rw [ha]; simp [Lit.sameKey, strOf]⟩
 ·rintro ⟨p, hp', hs⟩
  obtain ⟨a, ha⟩ := hkk p hp'
  rw [ha] at hs
  exact ⟨p, hp', by rw [ha]; simpa [Lit.sameKey, strOf] using hs⟩
theorem size_tags {w : World} {b n : Nat} {D : Dt} {l : List Bs} (hown : w.ownsMap Tryz.prog 9 (plainElem Tryz.prog 4) b n D) (h : Keys D l) : Maps.size D = (tagsL l).length := by
 obtain ⟨h1, h2, h3⟩ := keys_list hown h
 rw [h3, ← merge_tags _ _ h1 h2, List.length_mergeSort]
theorem perm_tags {D : Dt} {ss l : List Bs} {w : World} {b n : Nat} (hown : w.ownsMap Tryz.prog 9 (plainElem Tryz.prog 4) b n D) (h : Keys D l) (hp : ss.Perm (strKeys D)) : ss.mergeSort (fun x y => decide (x ≤ y)) = tagsL l := by
 obtain ⟨h1, h2, _⟩ := keys_list hown h
 exact merge_tags ss l (hp.nodup_iff.2 h1) fun z => by rw [hp.mem_iff]; exact h2 z

theorem tags_bad {l : List Bs} {k : Nat} (h : k < l.length) (hv : validTagL l[k] = false) : tagsE l = 2 ∧ tagsV l = [] := by
 have : l.all validTagL = false := by
  rw [Bool.eq_false_iff]; intro e; rw [List.all_eq_true] at e
  have := e _ (List.getElem_mem h); rw [hv] at this; cases this
 have e : tagsE l = 2 := by unfold tagsE; rw [this]; rfl
 exact ⟨e, by unfold tagsV; rw [e]; rfl⟩
theorem tags_long {l : List Bs} (hv : l.all validTagL = true) (h : 16 < (tagsL l).length) : tagsE l = 5 ∧ tagsV l = [] := by
 have e : tagsE l = 5 := by unfold tagsE; rw [if_pos hv, if_pos h]
 exact ⟨e, by unfold tagsV; rw [e]; rfl⟩
theorem tags_good {l : List Bs} (hv : l.all validTagL = true) (h : ¬ 16 < (tagsL l).length) : tagsE l = 0 ∧ tagsV l = tagsL l := by
 have e : tagsE l = 0 := by unfold tagsE; rw [if_pos hv, if_neg h]
 exact ⟨e, by unfold tagsV; rw [if_pos e]⟩
theorem all_next {l : List Bs} {k : Nat} (h : k < l.length) (hs : (l.take k).all validTagL = true) (hc : validTagL l[k] = true) : (l.take (k + 1)).all validTagL = true := by
 rw [List.take_succ_eq_append_getElem h, List.all_append, hs]; simpa using hc
theorem own_base {B B' : Nat} {w : World} {v : Value} {l : List Bs} (h : Own B w v l) (hB : B' ≤ B) : Own B' w v l := by
 rcases h with ⟨h1, h2⟩
 refine ⟨h1, ?_⟩
 rcases h2 with h2 | ⟨g, cap, cur, hv, hb, rest⟩
 ·exact Or.inl h2
 ·exact Or.inr ⟨g, cap, cur, hv, Nat.le_trans hB hb, rest⟩

set_option maxRecDepth 100000 in
set_option maxHeartbeats 1000000 in
theorem tags_any (A : Option Addr) (c : Nat) (l : List Bs) (w : World) (hA : Rd w A l) (hl : l.length ≤ 1000000) (hx : ∀ x ∈ l, x.length ≤ 1000000) :
  Calls Tryz.prog 134 #[.slice A l.length c] w (strsPost w (tagsV l) (tagsE l)) := by
 have HX := Lib.hid hx; clear hx
 have hmm := @run_makeMap Tryz.prog
 go_enter Tryz.func134, Tryz.ntmps134
 go_wp2_with fail
 clear hmm
 go_loopw [6, 12] (fun _ i wr => ∃ (k : Nat) (D : Dt), k ≤ l.length ∧ i = .int .i64 k ∧ wr.ownsMap Tryz.prog 9 (plainElem Tryz.prog 4) w.heap.size k D ∧ Keys D (l.take k) ∧ (l.take k).all validTagL = true ∧ Below w.heap.size w wr) (fun _ i _ => l.length - (intOf i).toNat)
 case atStart => exact ⟨0, _, Nat.zero_le _, rfl, World.ownsMap_made _ _ _ _, fun x => by simp [Maps.has_eq], rfl, (Below.refl _ _).alloc (Nat.le_refl _) _⟩
 case round =>
  obtain ⟨k, D, hk, rfl, hown, hkeys, hall, hbel⟩ := hrel
  have HA := Lib.hid hall; clear hall
  have HK := Lib.hid hkeys; clear hkeys
  have hsz := hbel.size
  have hRd := hA.below hbel (Nat.le_refl _)
  have HB := Lib.hid hbel; clear hbel
  have HM := Lib.hid hown; clear hown
  by_cases hlt : k < l.length
  ·obtain ⟨b1, o1, rfl, hb1, hc1⟩ := hRd.at_ hlt
   have i1 : (k : Int) < l.length := by omega
   have hxl := HX.out _ (List.getElem_mem hlt)
   obtain ⟨x, hxx⟩ : ∃ x, x = l[k] := ⟨_, rfl⟩
   rw [← hxx] at hc1 hxl
   have HXX := Lib.hid hxx; clear hxx
   have HV := Lib.hid (fun W => validTag_any ⟨x.toArray⟩ W (by unfold maxLen; show x.toArray.size ≤ _; simp; omega))
   have hvs : validTagS ⟨x.toArray⟩ = validTagL x := rfl
   by_cases hv : validTagL x = true
   ·have HVV := Lib.hid (hvs.trans hv)
    have HF := Lib.hid (all_next hlt HA.out (by rw [← HXX.out]; exact hv))
    have hkey : keyOf Tryz.prog 9 (.string ⟨x.toArray⟩) = some (.string x) := keyOf_string_mk Tryz.underlying9 (by unfold maxLen; show x.toArray.size ≤ _; simp; omega)
    have HKY := Lib.hid hkey
    have HP := Lib.hid (plainElem_bool (H := Unit) Tryz.underlying4 true)
    clear hv hvs hkey
    go_wp2_with fail
    refine (HV.out _).mono ?_
    rintro e w2 ⟨rfl, rfl⟩
    rw [HVV.out]
    go_wp2_with (at_mapUpdate; refine wpList_mapUpdate_own _ rfl _ _ _ 209 rfl 9 4 keyS Tryz.underlying209 _ w.heap.size k _ rfl HM.out (by unfold maxLen; omega) _ _ _ rfl rfl HKY.out _ [] HP.out ?_)
    intro w3 hown3 hg3
    have HK2 : Hid (Keys (D.put (.string x) (.lit (.bool true))) (l.take (k + 1))) := by
     show Keys _ _
     rw [List.take_succ_eq_append_getElem hlt, ← HXX.out]
     exact HK.out.put HM.out.isMap
    have HM3 := Lib.hid hown3
    have HB3 := Lib.hid (HB.out.grown hg3 hsz (fun j hj => by cases hj; exact Nat.le_refl _))
    clear hown3 hg3 hsz hRd hc1
    go_wp2_with fail
    go_roundw
    case rel => exact ⟨k + 1, _, by omega, by go_num, HM3.out, HK2.out, HF.out, HB3.out⟩
    case measure => simp [intOf]; omega
   ·have hv' : validTagL x = false := by simpa using hv
    have HVV := Lib.hid (hvs.trans hv')
    have HR := Lib.hid (tags_bad hlt (by rw [← HXX.out]; exact hv'))
    clear hv hv' hvs
    go_wp2_with fail
    refine (HV.out _).mono ?_
    rintro e w2 ⟨rfl, rfl⟩
    rw [HVV.out]
    go_wp2_with fail
    go_ret2
    exact ⟨_, ret_vi rfl HR.out.1.symm, by rw [HR.out.2]; exact own_nil _ _, HB.out⟩
  ·obtain rfl : k = l.length := by omega
   have hnn : ¬ (l.length : Int) < l.length := by omega
   have e1 := HA.out
   have e2 := HK.out
   rw [List.take_length] at e1 e2
   have hst := size_tags HM.out e2
   have htl := tags_len_le l
   have E1 := Lib.hid e1
   have E2 := Lib.hid e2
   have HST := Lib.hid hst
   by_cases h16 : 16 < (tagsL l).length
   ·have HR := Lib.hid (tags_long e1 h16)
    clear e1 e2 hst hlt
    have hd : (16 : Int) < Maps.size D := by rw [HST.out]; omega
    go_wp2_with (at_len; refine wpList_len_own _ rfl _ 209 rfl 9 4 Tryz.underlying209 _ w.heap.size l.length _ rfl HM.out ?_)
    go_wp2_with fail
    go_ret2
    exact ⟨_, ret_vi rfl HR.out.1.symm, by rw [HR.out.2]; exact own_nil _ _, HB.out⟩
   ·have HR := Lib.hid (tags_good e1 h16)
    clear e1 e2 hst hlt
    obtain ⟨wo, rfl⟩ : ∃ wo : World, wo = wr := ⟨_, rfl⟩
    have hd : ¬ (16 : Int) < Maps.size D := by rw [HST.out]; omega
    have hsd : Maps.size D ≤ 16 := by rw [HST.out]; omega
    go_wp2_with (first
     | (at_len; refine wpList_len_own _ rfl _ 209 rfl 9 4 Tryz.underlying209 _ w.heap.size l.length _ rfl HM.out ?_)
     | (at_range; refine wpList_range_own _ rfl _ 209 rfl 9 4 keyS Tryz.underlying209 _ w.heap.size l.length _ rfl HM.out ?_; intro w0 hrg0 hg0 hs0))
    have hw0 := hg0.size
    have hbl := HM.out.lt
    have HB0 := Lib.hid (HB.out.grown hg0 hsz (fun j hj => by cases hj))
    have HRG0 := Lib.hid hrg0
    clear hrg0 hg0 hs0
    go_loopw [7, 8] (fun v _ w4 => ∃ (left : Lit → Bool) (cnt : Nat) (ss : List Bs), w4.ranges Tryz.prog 9 (plainElem Tryz.prog 4) w.heap.size wo.heap.size l.length D left cnt ∧ ss.length + cnt ≤ 16 ∧
      Own wo.heap.size w4 v ss ∧ Collected D left ss ∧ Below w.heap.size w w4 ∧ wo.heap.size ≤ w4.heap.size)
     (fun _ _ w4 => w4.rangeLeft w.heap.size wo.heap.size)
    case atStart => exact ⟨_, _, [], HRG0.out, by simpa using hsd, own_nil _ _, Collected.start D, HB0.out, hw0⟩
    case round =>
     obtain ⟨left, cnt, ss, hrg, hcs, hrow, hC, hb4, hz4⟩ := hrel
     have HRG := Lib.hid hrg; clear hrg
     have HRW := Lib.hid hrow; clear hrow
     have HC := Lib.hid hC; clear hC
     have HB4 := Lib.hid hb4; clear hb4
     go_wp2_with (at_next; refine wpList_next_ranges _ rfl _ rfl 9 keyS (plainElem Tryz.prog 4) encStr (fun v : Value => v) (fun key kl hk => by obtain ⟨x, hx, _⟩ := Maps.keyOf_str Tryz.underlying9 hk; exact ⟨x, hx⟩) (fun v y _ => ⟨v, rfl⟩) w.heap.size wo.heap.size l.length _ _ _ rfl HRG.out ?_ ?_)
     ·intro hc0 hl0
      have hpt := Lib.hid (perm_tags HRG.out.owns E2.out (HC.out.perm HRG.out.owns keyS Tryz.underlying9 hl0))
      clear hc0 hl0
      rcases (own_row HRW.out).2 with ⟨hnil, h0⟩ | ⟨g, cap, cur, rfl, hbase, hb, h1, h2, h3, h4⟩
      ·subst hnil
       obtain rfl : ss = [] := List.eq_nil_of_length_eq_zero h0
       clear h0
       go_wp2_with fail
       refine (Tryz.slices_Sort_string_none none 0 wr).mono ?_
       rintro e w6 ⟨rfl, rfl⟩
       go_wp2_with fail
       go_ret2
       refine ⟨_, ret_vi rfl HR.out.1.symm, ?_, HB4.out⟩
       have hms : ([] : List Bs).mergeSort (fun x y => decide (x ≤ y)) = [] := by simp
       rw [HR.out.2, ← hpt.out, hms]
       exact own_nil _ _
      ·have hH : Holds encStr wr g 0 ss.toArray := holds_of_block hb (by rw [Nat.mul_one] at h4; exact h4)
       have hgl : g < wr.heap.size := (Array.getElem?_eq_some_iff.1 hb).1
       have hS := Lib.hid (Tryz.slices_Sort_string g 0 cap ss wr hH hgl (by omega))
       have hF : Hid (∀ n os, Own w.heap.size (grow (putRow encStr (Sort.ahead wr n) g 0 (ss.mergeSort fun x y => decide (x ≤ y)).toArray) os) (.slice (some ⟨g, 0, none⟩) ss.length cap) (tagsV l)) := by
        show ∀ _ _, _
        intro n os
        have := ownsRow_sorted (w := wr) (n := n) (os := os) (ss := ss) (ts := ss.mergeSort fun x y => decide (x ≤ y)) (by rw [List.length_mergeSort]) hbase hb h1 h2 h3
        rw [HR.out.2]
        refine own_base (B := wo.heap.size) ?_ (by omega)
        unfold Own
        rw [← hpt.out, List.length_mergeSort]
        exact this
       have hBF : Hid (∀ n os, Below w.heap.size w (grow (putRow encStr (Sort.ahead wr n) g 0 (ss.mergeSort fun x y => decide (x ≤ y)).toArray) os)) := by
        show ∀ _ _, _
        intro n os
        exact HB4.out.grown (grownBy_sorted _) (by omega) (fun j hj => by cases hj; omega)
       clear hH hb h1 h2 h3 h4 hgl
       go_wp2_with fail
       refine hS.out.mono ?_
       rintro e w6 ⟨rfl, n, os, rfl⟩
       go_wp2_with fail
       go_ret2
       exact ⟨_, ret_vi rfl HR.out.1.symm, hF.out n os, hBF.out n os⟩
     ·intro x c kl yd yp w5 cnt2 hkey hlk hv hat hrg2 hlt hg2 hs2 hen
      obtain ⟨x', ex, rfl, hxm⟩ := Maps.keyOf_str Tryz.underlying9 hkey
      obtain rfl : x = x' := encStr_inj ex
      have hne : some wo.heap.size ≠ u7.ownBlock := row_ne_iter (own_row HRW.out) HRG.out
      have hrow2 := Lib.hid ((own_row HRW.out).kept hg2 (Or.inr hne.symm))
      have hB5 := Lib.hid (HB4.out.grown hg2 (by omega) (fun j hj => by cases hj; omega))
      have hC2 := Lib.hid (HC.out.step hlk hat)
      have hR2 := Lib.hid hrg2
      have hz5 : wo.heap.size ≤ w5.heap.size := by have := hg2.size; omega
      have hM := Lib.hid HRG.out.left_eq
      clear hs2 hkey hlk hv hat hrg2 ex hg2 hne
      go_wp2_with (refine wpList_app rfl _ _ elS rfl rfl hrow2.out #[encStr x] rfl (by simp [encStr]; rfl) (by omega) (by simp) hz5 ?_)
      intro v' w6 h1' h2'
      have hR3 := Lib.hid (hR2.out.kept h2' (row_ne_low hrow2.out (by omega)) (row_ne_iter hrow2.out hR2.out))
      have H1 : Hid (Own wo.heap.size w6 v' (ss ++ [x])) := by
       show Own _ _ _ _
       unfold Own
       rw [List.length_append, List.map_append]
       exact h1'
      have hB6 := Lib.hid (hB5.out.grown h2' (by omega) (fun j hj => by have := (hrow2.out.lt j hj).1; omega))
      have hz6 : wo.heap.size ≤ w6.heap.size := by have := h2'.size; omega
      have hM3 := Lib.hid hR3.out.left_eq
      clear h1' h2' hz5 hen
      go_wp2_with fail
      go_roundw
      case rel => exact ⟨_, cnt2, ss ++ [x], hR3.out, by simp; omega, H1.out, hC2.out, hB6.out, hz6⟩
      case measure => rw [hM3.out, hM.out]; exact hlt
end Go.Proofs.YtlmljhnogmfcfaaGreat.Ku
namespace Go.Proofs.YtlmljhnogmfcfaaGreat.Je
open Go.RowKit Ap Mi Nw Ja Jb Jc Km Kt Ks Kf

def lb (l : List ByteArray) : List Bs := l.map (·.data.toList)
theorem lb_len (l : List ByteArray) : (lb l).length = l.length := List.length_map _
theorem lb_get (l : List ByteArray) {i : Nat} (h : i < l.length) : (lb l)[i]'(by rw [lb_len]; exact h) = l[i].data.toList := by unfold lb; simp
theorem lb_str (k : ByteArray) : (⟨k.data.toList.toArray⟩ : ByteArray) = k := by cases k; rfl
theorem rd_lb {w : World} {A : Option Addr} {l : List ByteArray} {c : Nat} (h : Sl w A l c) : Ks.Rd w A (lb l) := by
 intro h0
 rw [lb_len] at h0
 obtain ⟨b, o, rfl, hb, _⟩ := h.at_ h0
 refine ⟨b, o, rfl, hb, fun j hj => ?_⟩
 have hj' : j < l.length := by rw [lb_len] at hj; exact hj
 obtain ⟨b', o', e, _, hc⟩ := h.at_ hj'
 injection e with e; injection e with e1 e2
 subst e1; subst e2
 rw [hc, lb_get l hj', lb_str]
theorem less_iff (a b : ByteArray) : Op.bytesLess a.toList b.toList = true ↔ a.data.toList < b.data.toList := by
 rw [Lib.toList_data, Lib.toList_data, bytesLess_eq]; simp
theorem good_sorted {l : List ByteArray} (h : good l l.length) : Sorted (lb l) := by
 have key : ∀ d i, (hi : i + d + 1 < l.length) → l[i].data.toList < l[i + d + 1].data.toList := by
  intro d
  induction d with
  | zero =>
   intro i hi
   have := (h (i + 0 + 1) hi (by omega)).2 (by omega)
   rw [less_iff] at this
   exact this
  | succ d ih =>
   intro i hi
   have h1 := ih i (by omega)
   have := (h (i + (d + 1) + 1) hi (by omega)).2 (by omega)
   rw [less_iff] at this
   exact List.lt_trans h1 this
 unfold Sorted lb
 rw [List.pairwise_map, List.pairwise_iff_getElem]
 intro i j hi hj hij
 have := key (j - i - 1) i (by omega)
 have e : i + (j - i - 1) + 1 = j := by omega
 simpa only [e] using this
theorem valid_lb (t : ByteArray) : validTagL t.data.toList = decide (tagOk t) := by
 unfold validTagL
 rw [Bool.eq_iff_iff, decide_eq_true_eq, decide_eq_true_eq]
 unfold tagOk
 simp
theorem ok_tags (l : List ByteArray) : okT l ↔ tagsE (lb l) = 0 ∧ tagsL (lb l) = lb l := by
 constructor
 ·rintro ⟨h16, hg⟩
  have hs := tags_of_sorted _ (good_sorted hg)
  have hv : (lb l).all validTagL = true := by
   rw [List.all_eq_true]
   intro x hx
   unfold lb at hx
   obtain ⟨t, ht, rfl⟩ := List.mem_map.1 hx
   obtain ⟨i, hi, rfl⟩ := List.getElem_of_mem ht
   show validTagL _ = true
   rw [valid_lb, decide_eq_true (hg i hi hi).1]
  refine ⟨?_, hs⟩
  unfold tagsE
  rw [if_pos hv, hs, lb_len, if_neg (by omega)]
 ·rintro ⟨h0, hs⟩
  have hv : (lb l).all validTagL = true := by
   cases e : (lb l).all validTagL with
   | true => rfl
   | false => unfold tagsE at h0; rw [e] at h0; simp at h0
  have h16 : ¬ 16 < (tagsL (lb l)).length := by
   intro hh; unfold tagsE at h0; rw [if_pos hv, if_pos hh] at h0; cases h0
  rw [hs, lb_len] at h16
  have hsr := tags_sorted (lb l)
  rw [hs] at hsr
  unfold Sorted lb at hsr
  rw [List.pairwise_map, List.pairwise_iff_getElem] at hsr
  refine ⟨by omega, fun i hi _ => ⟨?_, fun h0 => ?_⟩⟩
  ·rw [List.all_eq_true] at hv
   have := hv l[i].data.toList (by unfold lb; exact List.mem_map.2 ⟨l[i], List.getElem_mem hi, rfl⟩)
   rw [valid_lb] at this
   exact of_decide_eq_true this
  ·rw [less_iff]
   exact hsr (i - 1) i (by omega) hi (by omega)
theorem pvalid_any (k : ByteArray) (w : World) : Calls Tryz.prog 135 #[.string k] w fun q w' => q = .returned (.bool (decide (keyOk k))) ∧ w' = w := by
 by_cases h0 : 1 ≤ k.size
 ·by_cases h1 : k.size ≤ 250
  ·have HS : Hid (keyOk k) := ⟨h0, h1⟩
   have g0 : (k.size : Int) ≥ 1 := by omega
   have g1 : (k.size : Int) ≤ 250 := by omega
   go_enter Tryz.func135, Tryz.ntmps135
   go_wp2_with fail
   go_ret
   exact ⟨retB (by simp [HS.out]), rfl⟩
  ·have HS : Hid (¬ keyOk k) := fun h => h1 h.2
   have g0 : (k.size : Int) ≥ 1 := by omega
   have g1 : ¬ (k.size : Int) ≤ 250 := by omega
   go_enter Tryz.func135, Tryz.ntmps135
   go_wp2_with fail
   go_ret
   exact ⟨retB (by simp [HS.out]), rfl⟩
 ·have HS : Hid (¬ keyOk k) := fun h => h0 h.1
  have g0 : ¬ (k.size : Int) ≥ 1 := by omega
  go_enter Tryz.func135, Tryz.ntmps135
  go_wp2_with fail
  go_ret
  exact ⟨retB (by simp [HS.out]), rfl⟩
theorem map_inj {l m : List Bs} (h : l.map (fun s => (⟨s.toArray⟩ : ByteArray)) = m.map (fun s => (⟨s.toArray⟩ : ByteArray))) : l = m := by
 refine (List.map_inj_right (f := fun s : Bs => (⟨s.toArray⟩ : ByteArray)) ?_).1 h
 intro x y e
 have := congrArg (fun b : ByteArray => b.data.toList) e
 simpa using this
theorem seq_any (A C : Option Addr) (l m : List Bs) (c d : Nat) (w : World) (hA : Ks.Rd w A l) (hC : Ks.Rd w C m) (hl : l.length ≤ 1000000) (hm : m.length ≤ 1000000) :
  Calls Tryz.prog 136 #[.slice A l.length c, .slice C m.length d] w (fun e w' => e = .returned (.bool (decide (l = m))) ∧ ∃ n, w' = w.drewN n) := by
 by_cases hlen : l.length = m.length
 ·by_cases h0 : l.length = 0
  ·have e1 : l = [] := List.eq_nil_of_length_eq_zero h0
   have e2 : m = [] := List.eq_nil_of_length_eq_zero (by omega)
   subst e1; subst e2
   refine (Tryz.slices_Equal_string_empty A C c 0 d w (by omega)).mono ?_
   rintro e w' ⟨rfl, rfl⟩
   exact ⟨rfl, 0, rfl⟩
  ·obtain ⟨b1, o1, rfl, _, c1⟩ := hA (by omega)
   obtain ⟨b2, o2, rfl, _, c2⟩ := hC (by omega)
   refine (Tryz.slices_Equal_string b1 o1 l.length c b2 o2 m.length d (l.map fun s => ⟨s.toArray⟩) (m.map fun s => ⟨s.toArray⟩) w (by simp) (by simp) (by omega) (by omega) ?_ ?_).mono ?_
   ·intro j hj
    rw [List.length_map] at hj
    rw [c1 j hj]
    simp [List.getElem?_eq_getElem hj]
   ·intro j hj
    rw [List.length_map] at hj
    rw [c2 j hj]
    simp [List.getElem?_eq_getElem hj]
   ·rintro e w' ⟨rfl, q, rfl⟩
    refine ⟨retB ?_, q, rfl⟩
    rw [List.take_of_length_le (by simp), List.take_of_length_le (by simp), Bool.eq_iff_iff, decide_eq_true_eq, decide_eq_true_eq]
    exact ⟨map_inj, fun h => by rw [h]⟩
 ·refine (Tryz.slices_Equal_string_lens A C l.length c m.length d w hlen).mono ?_
  rintro e w' ⟨rfl, rfl⟩
  refine ⟨retB ?_, 0, rfl⟩
  rw [eq_comm, decide_eq_false_iff_not]
  intro e; subst e; exact hlen rfl
set_option maxRecDepth 100000 in
theorem named_any (k : ByteArray) (c : Nat) (A : Option Addr) (l : List ByteArray) (w : World) (hl : Sl w A l c) (hn : l.length ≤ 1000) (hx : ∀ t ∈ l, t.size ≤ 1000000) :
  Calls Tryz.prog 99 #[.string k, .slice A l.length c] w fun q w' => ∃ b, q = .returned (.bool b) ∧ (b = true ↔ keyOk k ∧ okT l) ∧ Below w.heap.size w w' := by
 have HS := Lib.hid hl
 have HT := Lib.hid (Ku.tags_any A c (lb l) w (rd_lb hl) (by rw [lb_len]; omega) (fun x hx' => by
  unfold lb at hx'
  obtain ⟨t, ht, rfl⟩ := List.mem_map.1 hx'
  have := hx t ht
  simpa using this))
 rw [lb_len] at HT
 have HK := Lib.hid (pvalid_any k)
 have HO := Lib.hid (ok_tags l)
 have HL : Hid ((lb l).length = l.length) := lb_len l
 have hcm := Rs.max hl
 unfold maxLen at hcm
 clear hl hx
 go_enter Tryz.func99, Tryz.ntmps99
 go_wp2_with fail
 refine HT.out.mono ?_
 rintro q w1 ⟨v, rfl, hown, hb⟩
 obtain ⟨B, d, rfl, hd⟩ := own_shape (own_row hown)
 have HR := Lib.hid (Ks.Rd.of_own (own_row hown))
 have HB := Lib.hid hb
 have SL := Lib.hid (rd_lb (HS.out.below hb (Nat.le_refl _)))
 obtain ⟨m, hm⟩ : ∃ m, m = tagsV (lb l) := ⟨_, rfl⟩
 obtain ⟨e, he⟩ : ∃ e, e = tagsE (lb l) := ⟨_, rfl⟩
 rw [← hm] at HR hd ⊢
 rw [← he]
 have HM := Lib.hid hm
 have HE := Lib.hid he
 clear hm he hown hb
 go_wp2_with fail
 refine (HK.out _).mono ?_
 rintro q w2 ⟨rfl, rfl⟩
 by_cases hk : keyOk k
 case neg =>
  rw [decide_eq_false hk]
  have HF : Hid (false = true ↔ keyOk k ∧ okT l) := ⟨fun h => (by cases h), fun h => absurd h.1 hk⟩
  clear hk
  go_wp2_with fail
  go_ret
  exact ⟨false, rfl, HF.out, HB.out⟩
 rw [decide_eq_true hk]
 have HKO := Lib.hid hk
 clear hk
 by_cases e0 : e = 0
 case neg =>
  have HF : Hid (false = true ↔ keyOk k ∧ okT l) := ⟨fun h => (by cases h), fun h => absurd (by rw [HE.out]; exact (HO.out.1 h.2).1) e0⟩
  have eq0 : (e == 0) = false := by rw [beq_eq_false_iff_ne]; exact e0
  clear e0
  go_wp2_with fail
  go_ret
  exact ⟨false, rfl, HF.out, HB.out⟩
 subst e0
 have ht : tagsL (lb l) = m := by rw [HM.out]; unfold tagsV; rw [if_pos HE.out.symm]
 have hml : m.length ≤ 1000000 := by rw [← ht]; have := tags_len_le (lb l); rw [HL.out] at this; omega
 have HQ := Lib.hid (seq_any B A m (lb l) d c w2 HR.out SL.out hml (by rw [HL.out]; omega))
 rw [HL.out] at HQ
 have HF : Hid ((decide (m = lb l)) = true ↔ keyOk k ∧ okT l) := by
  show _ ↔ _
  rw [decide_eq_true_eq, HO.out, ht]
  exact ⟨fun h => ⟨HKO.out, HE.out.symm, h⟩, fun h => h.2.2⟩
 clear ht
 generalize decide (m = lb l) = z at HQ HF
 go_wp2_with fail
 refine HQ.out.mono ?_
 rintro q w3 ⟨rfl, nq, rfl⟩
 have HB3 : Hid (Below w.heap.size w (w2.drewN nq)) := HB.out.trans (((Only.refl (fun _ => False) w2).drewN nq).below (fun _ h => h.elim) HB.out.size)
 go_wp2_with fail
 go_ret
 exact ⟨z, rfl, HF.out, HB3.out⟩
set_option maxRecDepth 100000 in
theorem pcost_any (k : ByteArray) (vn c vc : Nat) (V A : Option Addr) (l : List ByteArray) (w : World) (hl : Sl w A l c) (hv : vn ≤ 1000000) (hn : l.length ≤ 1000) (hx : ∀ t ∈ l, t.size ≤ 1000000) :
  Calls Tryz.prog 66 #[.string k, .slice V vn vc, .slice A l.length c] w (vPost w (.tuple #[.int .i64 (costV k vn l), .int .i64 (costN k vn l)])) := by
 have HS := Lib.hid hl
 have g2 : (vn : Int) ≤ 1000000 := by omega
 have hcap := Rs.max hl
 unfold maxLen at hcap
 unfold vPost
 have HN := Lib.hid (named_any k c A l w hl hn hx)
 clear hl hx
 obtain ⟨cv, hcv⟩ : ∃ z, z = costV k vn l := ⟨_, rfl⟩
 obtain ⟨cn, hcn⟩ : ∃ z, z = costN k vn l := ⟨_, rfl⟩
 have HC : Hid (cv = costV k vn l ∧ cn = costN k vn l) := ⟨hcv, hcn⟩
 rw [← hcv, ← hcn]
 clear hcv hcn
 go_enter Tryz.func66, Tryz.ntmps66
 go_wp2_with fail
 refine HN.out.mono ?_
 rintro q w1 ⟨b, rfl, hbi, hb⟩
 have HB := Lib.hid hb
 have HBI := Lib.hid hbi
 clear hb hbi
 cases b
 case false =>
  have HR : Hid (cv = 0 ∧ cn = 2) := by rw [HC.out.1, HC.out.2]; exact cost_bad (fun g => by have := HBI.out.2 g; cases this)
  go_wp2_with fail
  go_ret2
  exact ⟨(by rw [HR.out.1, HR.out.2]; try rfl), HB.out⟩
 have HG : Hid (keyOk k ∧ okT l) := HBI.out.1 rfl
 by_cases hvn : 65536 < vn
 ·have hvI : (vn : Int) > 65536 := by omega
  have HR : Hid (cv = 0 ∧ cn = 5) := by rw [HC.out.1, HC.out.2]; exact cost_long HG.out hvn
  clear hvn
  go_wp2_with fail
  go_ret2
  exact ⟨(by rw [HR.out.1, HR.out.2]; try rfl), HB.out⟩
 have hvI : ¬ (vn : Int) > 65536 := by omega
 have HR : Hid (cv = 64 + (k.size : Int) + (vn : Int) + (sumT l l.length : Int) ∧ cn = 0) := by rw [HC.out.1, HC.out.2]; exact cost_good HG.out (by omega)
 have hk250 : k.size ≤ 250 := HG.out.1.2
 have g1 : (k.size : Int) ≤ 250 := by omega
 have hl16 : l.length ≤ 16 := HG.out.2.1
 have hgl : Hid (good l l.length) := HG.out.2.2
 clear hvn
 go_wp2_with fail
 go_loopw [8, 10, 28] (fun s _ i wr => ∃ K : Nat, K ≤ l.length ∧ i = .int .i64 (K : Int) ∧ s = .int .i64 (64 + (k.size : Int) + (vn : Int) + (sumT l K : Int)) ∧ wr = w1) (fun _ _ i _ => l.length - (intOf i).toNat)
 case atStart => exact ⟨0, Nat.zero_le _, rfl, by simp [sumT], rfl⟩
 case round =>
  obtain ⟨K, hK, rfl, rfl, rfl⟩ := hrel
  have hsum := sumT_le hK (fun i hi _ => hgl.out i hi hi)
  obtain ⟨sk, hsk⟩ : ∃ z, z = sumT l K := ⟨_, rfl⟩
  have HSK := Lib.hid hsk
  rw [← hsk] at hsum ⊢
  clear hsk
  by_cases hlt : K < l.length
  ·have j1 : (K : Int) < (l.length : Int) := by omega
   obtain ⟨b, o, rfl, lb, a0⟩ := (HS.out.below HB.out (Nat.le_refl _)).at_ hlt
   obtain ⟨t, ht⟩ : ∃ t, t = l[K] := ⟨_, rfl⟩
   have HT := Lib.hid ht
   have hts : t.size ≤ 64 := by rw [ht]; exact (hgl.out K hlt hlt).1.2
   rw [← ht] at a0
   clear ht
   go_wp2_with fail
   go_roundw
   case rel => exact ⟨K + 1, by omega, by go_num, by rw [sumT_succ hlt, ← HSK.out, ← HT.out]; go_num, trivial⟩
   case measure => simp [intOf]; omega
  ·obtain rfl : K = l.length := by omega
   have hnn : ¬ (l.length : Int) < l.length := by omega
   clear hlt
   go_wp2_with fail
   go_ret2
   exact ⟨(by rw [HR.out.1, HR.out.2, HSK.out]; try rfl), HB.out⟩
end Go.Proofs.YtlmljhnogmfcfaaGreat.Je
namespace Go.Proofs.YtlmljhnogmfcfaaGreat.Je
open Go.RowKit Ap Mi Nw Ja Jb Jc

structure Ah (F : Nat → Prop) (w : World) (g : Nat) (s : Ac) : Prop where
 bk : Blk w g (cells s) 127
 inF : F g
 ok : Ok s
section
variable {F F' : Nat → Prop} {w w' : World} {g : Nat} {s : Ac}
theorem Ah.lt (h : Ah F w g s) : g < w.heap.size := h.bk.lt
theorem Ah.mono (h : Ah F w g s) (hFG : ∀ j, j < w.heap.size → F j → F' j) : Ah F' w g s := ⟨h.bk, hFG _ h.lt h.inF, h.ok⟩
theorem Ah.tight (h : Ah F w g s) : Ah (fun j => F j ∧ j < w.heap.size) w g s := h.mono fun _ hj hf => ⟨hf, hj⟩
theorem Ah.only (h : Ah F w g s) (ho : Only F' w w') (hn : ∀ j, F j → ¬ F' j) : Ah F w' g s := ⟨h.bk.only ho (hn _ h.inF), h.inF, h.ok⟩
theorem Ah.below {B : Nat} (h : Ah F w g s) (hb : Below B w w') (hB : w.heap.size ≤ B) : Ah F w' g s :=
 h.only (Only.of_below hb hB (fun _ => False)) (fun _ _ hf => hf)
def wrPost (F : Nat → Prop) (w : World) (g : Nat) (s : Ac) (v : Value) : Ending → World → Prop := fun e w' => e = .returned v ∧ Ah (More F w) w' g s ∧ Only F w w'
def mkPost (w : World) (s : Ac) : Ending → World → Prop := fun e w' => ∃ g, e = .returned (.pointer (some ⟨g, 0, none⟩)) ∧ Ah (fun j => w.heap.size ≤ j) w' g s ∧ Below w.heap.size w w'
def newPost (w : World) (s : Ac) : Ending → World → Prop := fun e w' => ∃ g, e = .returned (.tuple #[.pointer (some ⟨g, 0, none⟩), .int .i64 0]) ∧ Ah (fun j => w.heap.size ≤ j) w' g s ∧ Below w.heap.size w w'
theorem iscost_any (c : Int) (w : World) : Calls Tryz.prog 101 #[.int .i64 c] w fun q w' => q = .returned (.bool (decide (isC c))) ∧ w' = w := by
 by_cases h0 : 65 ≤ c
 ·by_cases h1 : c ≤ 67000
  ·have HS : Hid (isC c) := ⟨h0, h1⟩
   have g0 : c ≥ 65 := h0
   go_enter Tryz.func101, Tryz.ntmps101
   go_wp2_with fail
   go_ret
   exact ⟨retB (by simp [HS.out]), rfl⟩
  ·have HS : Hid (¬ isC c) := fun h => h1 h.2
   have g0 : c ≥ 65 := h0
   go_enter Tryz.func101, Tryz.ntmps101
   go_wp2_with fail
   go_ret
   exact ⟨retB (by simp [HS.out]), rfl⟩
 ·have HS : Hid (¬ isC c) := fun h => h0 h.1
  have g0 : ¬ c ≥ 65 := h0
  go_enter Tryz.func101, Tryz.ntmps101
  go_wp2_with fail
  go_ret
  exact ⟨retB (by simp [HS.out]), rfl⟩
theorem iscost_yes {c : Int} (h : isC c) (w : World) : Calls Tryz.prog 101 #[.int .i64 c] w fun q w' => q = .returned (.bool true) ∧ w' = w := by
 refine (iscost_any c w).mono ?_
 rintro q w' ⟨rfl, rfl⟩; exact ⟨retB (by simp [h]), rfl⟩
theorem iscost_no {c : Int} (h : ¬ isC c) (w : World) : Calls Tryz.prog 101 #[.int .i64 c] w fun q w' => q = .returned (.bool false) ∧ w' = w := by
 refine (iscost_any c w).mono ?_
 rintro q w' ⟨rfl, rfl⟩; exact ⟨retB (by simp [h]), rfl⟩
set_option maxRecDepth 100000 in
theorem usable_any (h : Ah F w g s) : Calls Tryz.prog 100 #[.pointer (some ⟨g, 0, none⟩)] w fun q w' => q = .returned (.bool true) ∧ w' = w := by
 obtain ⟨hb, _, hok⟩ := h
 obtain ⟨b, e, x, n⟩ := s
 obtain ⟨⟨hb1, hb2, he1, he2⟩, hn0, hn1, hlo, hhi⟩ := hok
 simp only at hb1 hb2 he1 he2 hn0 hn1 hlo hhi
 unfold cells at hb
 obtain ⟨x0, x1, x2, x3, _⟩ := hb.four
 have lg := hb.lt
 have HB1 := Lib.hid hb1
 clear hb
 go_enter Tryz.func100, Tryz.ntmps100
 go_wp2_with fail
 go_ret
 exact ⟨retB (by have := HB1.out; simp <;> omega), rfl⟩
def am (x n : Int) : Value := .agg #[.int .i64 x, .int .i64 n]
def posB (x n : Int) : Prop := 0 ≤ n ∧ 65 * n ≤ x ∧ x ≤ 67000 * n
instance (x n : Int) : Decidable (posB x n) := inferInstanceAs (Decidable (_ ∧ _))
theorem put2 {w w1 : World} {k : Nat} {p q : Value} {t : TypeId} (h : Blk w1 k #[p, q] t) (hb : Below k w w1) (hz : k ≤ w1.heap.size) (a b : Value) :
  ((w1.setCell ⟨k, 0, none⟩ a).setCell ⟨k, 1, none⟩ b).cell? ⟨k, 0, none⟩ = some a ∧ ((w1.setCell ⟨k, 0, none⟩ a).setCell ⟨k, 1, none⟩ b).cell? ⟨k, 1, none⟩ = some b ∧
  Below k w ((w1.setCell ⟨k, 0, none⟩ a).setCell ⟨k, 1, none⟩ b) := by
 have := Blk.two ((h.set 0 a).set 1 b)
 exact ⟨this.1, this.2.1, hb.trans ((((Only.refl (fun j => j = k) w1).put (ad := ⟨k, 0, none⟩) rfl a).put (ad := ⟨k, 1, none⟩) rfl b).below (fun j hj => by rw [hj]; exact Nat.le_refl _) hz)⟩
set_option maxRecDepth 100000 in
theorem poss_any (x n : Int) (hn0 : -10 ≤ n) (hn1 : n ≤ 3000000) (w : World) :
  Calls Tryz.prog 165 #[am x n] w (vPost w (.bool (decide (posB x n)))) := by
 have HP : Hid (posB x n ↔ (0 ≤ n ∧ 65 * n ≤ x ∧ x ≤ 67000 * n)) := Iff.rfl
 unfold am
 obtain ⟨v, hv⟩ : ∃ v, v = w.alloc (.cells #[.int .i64 x, .int .i64 n] 125) := ⟨_, rfl⟩
 have HB : Hid (Below w.heap.size w v) := by show Below _ _ _; rw [hv]; exact bnew _ _
 obtain ⟨P, hP⟩ : ∃ P, P = vPost w (.bool (decide (posB x n))) := ⟨_, rfl⟩
 have HQ : Hid (∀ b, (b = true ↔ posB x n) → P (.returned (.bool b)) v) := by
  show ∀ b, _
  intro b hb
  rw [hP]; exact ⟨retB (by rw [Bool.eq_iff_iff, hb]; simp), HB.out⟩
 rw [← hP]
 clear hP
 by_cases k0 : n ≥ 0
 case neg =>
  have HE := Lib.hid (HQ.out false (by rw [HP.out]; simp; omega))
  go_enter Tryz.func165, Tryz.ntmps165
  go_wp2_with fail
  rw [← hv]
  exact HE.out
 by_cases k1 : x ≥ 65 * n
 case neg =>
  have HE := Lib.hid (HQ.out false (by rw [HP.out]; simp; omega))
  go_enter Tryz.func165, Tryz.ntmps165
  go_wp2_with fail
  rw [← hv]
  exact HE.out
 by_cases k2 : x ≤ 67000 * n
 case neg =>
  have HE := Lib.hid (HQ.out false (by rw [HP.out]; simp; omega))
  go_enter Tryz.func165, Tryz.ntmps165
  go_wp2_with fail
  rw [← hv]
  exact HE.out
 have HE := Lib.hid (HQ.out true (by rw [HP.out]; simp; omega))
 go_enter Tryz.func165, Tryz.ntmps165
 go_wp2_with fail
 rw [← hv]
 exact HE.out
set_option maxRecDepth 100000 in
theorem with_any (x n c : Int) (hx0 : 0 ≤ x) (hx1 : x ≤ 1000000000000) (hn0 : 0 ≤ n) (hn1 : n ≤ 3000000) (hc0 : 0 ≤ c) (hc1 : c ≤ 100000) (w : World) :
  Calls Tryz.prog 102 #[am x n, .int .i64 c] w (vPost w (am (x + c) (n + 1))) := by
 unfold am vPost
 obtain ⟨v9, hv9⟩ : ∃ v9, v9 = (w.alloc (.cells #[.int .i64 x, .int .i64 n] 125)).alloc (.cells #[.int .i64 (x + c), .int .i64 (n + 1)] 125) := ⟨_, rfl⟩
 have HB : Hid (Below w.heap.size w v9) := by show Below _ _ _; rw [hv9]; exact (bnew w _).alloc (by simp) _
 have HT : Hid (Blk v9 (w.heap.size + 1) #[.int .i64 (x + c), .int .i64 (n + 1)] 125) := by
  show Blk _ _ _ _; rw [hv9]
  have := Blk.new (w.alloc (.cells #[.int .i64 x, .int .i64 n] 125)) #[.int .i64 (x + c), .int .i64 (n + 1)] 125
  simpa using this
 go_enter Tryz.func102, Tryz.ntmps102
 go_wp2_with fail
 rw [← hv9]
 clear hv9
 obtain ⟨t0, t1, _⟩ := Blk.two HT.out
 exact bodyPost_ret (v := .agg #[.int .i64 (x + c), .int .i64 (n + 1)]) (by simp [results, Tryz.results102, go_sem, t0, t1]) rfl ⟨rfl, HB.out⟩
def woN (s : Ac) (c : Int) : Int := if ¬ isC c then 3 else if can s c then 0 else 9
def woX (s : Ac) (c : Int) : Int := if isC c ∧ can s c then s.x - c else 0
def woM (s : Ac) (c : Int) : Int := if isC c ∧ can s c then s.n - 1 else 0
set_option maxRecDepth 100000 in
theorem without_any (h : Ah F w g s) (c : Int) : Calls Tryz.prog 133 #[.pointer (some ⟨g, 0, none⟩), .int .i64 c] w (vPost w (.tuple #[am (woX s c) (woM s c), .int .i64 (woN s c)])) := by
 obtain ⟨v0, hv0⟩ : ∃ v0, v0 = w.alloc (.cells #[.int .i64 0, .int .i64 0] 125) := ⟨_, rfl⟩
 have b0 : Below w.heap.size w v0 := by rw [hv0]; exact bnew w _
 have R0 : Hid (Blk v0 w.heap.size #[.int .i64 0, .int .i64 0] 125) := by show Blk _ _ _ _; rw [hv0]; exact Blk.new w _ _
 have h0 := h.below b0 (Nat.le_refl _)
 have HU := Lib.hid (usable_any h0)
 have HB0 := Lib.hid b0
 obtain ⟨r0, r1, rf0, rf1⟩ := Blk.two R0.out
 have lr := R0.out.lt
 have BK : Blk v0 g (cells s) 127 := h0.bk
 obtain ⟨x0, x1, x2, x3, _⟩ := BK.four
 have lg := BK.lt
 have lw := h.lt
 obtain ⟨⟨hb1, hb2, he1, he2⟩, hn0, hn1, hlo, hhi⟩ := h.ok
 obtain ⟨b, e, x, n⟩ := s
 simp only at hb1 hb2 he1 he2 hn0 hn1 hlo hhi x0 x1 x2 x3
 by_cases hc : isC c
 case neg =>
  have HI := Lib.hid (iscost_no hc)
  have e1 : woX ⟨b, e, x, n⟩ c = 0 := if_neg (fun q => hc q.1)
  have e2 : woM ⟨b, e, x, n⟩ c = 0 := if_neg (fun q => hc q.1)
  have e3 : woN ⟨b, e, x, n⟩ c = 3 := if_pos hc
  rw [e1, e2, e3]
  clear hc e1 e2 e3 b0 h0 h BK
  unfold vPost am
  go_enter Tryz.func133, Tryz.ntmps133
  go_wp2_with fail
  rw [← hv0]
  clear hv0
  refine HU.out.mono ?_
  rintro q w1 ⟨rfl, rfl⟩
  go_wp2_with fail
  refine (HI.out w1).mono ?_
  rintro q w2 ⟨rfl, rfl⟩
  go_wp2_with fail
  obtain ⟨t0, t1, t2⟩ := put2 R0.out HB0.out HB0.out.size (.int .i64 0) (.int .i64 0)
  exact bodyPost_ret (v := .tuple #[.agg #[.int .i64 0, .int .i64 0], .int .i64 3]) (by simp [results, Tryz.results133, go_sem, t0, t1]) rfl ⟨rfl, t2⟩
 have HI := Lib.hid (iscost_yes hc)
 have HC : Hid (can ⟨b, e, x, n⟩ c ↔ posB (x - c) (n - 1)) := by
  show _ ↔ _
  unfold can posB
  simp only
  omega
 have HQ := Lib.hid (poss_any (x - c) (n - 1) (by omega) (by omega))
 obtain ⟨hc1, hc2⟩ := hc
 clear b0 h0 h BK
 unfold vPost am at HQ ⊢
 go_enter Tryz.func133, Tryz.ntmps133
 go_wp2_with fail
 rw [← hv0]
 clear hv0
 refine HU.out.mono ?_
 rintro q w1 ⟨rfl, rfl⟩
 go_wp2_with fail
 refine (HI.out w1).mono ?_
 rintro q w2 ⟨rfl, rfl⟩
 go_wp2_with fail
 go_region
 obtain ⟨v, hv⟩ : ∃ v, v = (w2.alloc (.cells #[.int .i64 (x - c), .int .i64 (n - 1)] 125)).drew := ⟨_, rfl⟩
 have b2 : Below w2.heap.size w2 v := by rw [hv]; exact (bnew w2 _).drew
 have S0 : Hid (Blk v w2.heap.size #[.int .i64 (x - c), .int .i64 (n - 1)] 125) := by show Blk _ _ _ _; rw [hv]; exact (Blk.new w2 _ _).drewN 1
 have R1 := Lib.hid (R0.out.below b2 lr)
 have HB1 : Hid (Below w.heap.size w v) := HB0.out.trans (b2.mono HB0.out.size)
 obtain ⟨s0, s1, _⟩ := S0.out.two
 have ls := S0.out.lt
 rw [← hv]
 clear hv b2 x0 x1 x2 x3 r0 r1 rf0 rf1
 go_wp2_with fail
 refine (HQ.out v).mono ?_
 rintro q w3 ⟨rfl, hb3⟩
 have S3 := Lib.hid (S0.out.below hb3 ls)
 have R3 := Lib.hid (R1.out.below hb3 (Nat.lt_of_lt_of_le lr (by have := S0.out.lt; omega)))
 have HB3 : Hid (Below w.heap.size w w3) := HB1.out.trans (hb3.mono HB1.out.size)
 obtain ⟨s0, s1, _⟩ := S3.out.two
 obtain ⟨r0, r1, rf0, rf1⟩ := R3.out.two
 have ls := S3.out.lt
 have lr := R3.out.lt
 clear hb3
 by_cases hp : posB (x - c) (n - 1)
 ·rw [decide_eq_true hp]
  have hk := HC.out.2 hp
  have e1 : woX ⟨b, e, x, n⟩ c = x - c := if_pos ⟨⟨hc1, hc2⟩, hk⟩
  have e2 : woM ⟨b, e, x, n⟩ c = n - 1 := if_pos ⟨⟨hc1, hc2⟩, hk⟩
  have e3 : woN ⟨b, e, x, n⟩ c = 0 := by unfold woN; rw [if_neg (fun q => q ⟨hc1, hc2⟩), if_pos hk]
  have E1 := Lib.hid e1
  have E2 := Lib.hid e2
  have E3 := Lib.hid e3
  clear e1 e2 e3 hk hp
  go_wp2_with fail
  obtain ⟨t0, t1, t2⟩ := put2 R3.out HB3.out HB3.out.size (.int .i64 (x - c)) (.int .i64 (n - 1))
  exact bodyPost_ret (v := .tuple #[.agg #[.int .i64 (x - c), .int .i64 (n - 1)], .int .i64 0]) (by simp [results, Tryz.results133, go_sem, t0, t1]) rfl ⟨by rw [E1.out, E2.out, E3.out], t2⟩
 ·rw [decide_eq_false hp]
  have hk : ¬ can ⟨b, e, x, n⟩ c := fun q => hp (HC.out.1 q)
  have e1 : woX ⟨b, e, x, n⟩ c = 0 := if_neg (fun q => hk q.2)
  have e2 : woM ⟨b, e, x, n⟩ c = 0 := if_neg (fun q => hk q.2)
  have e3 : woN ⟨b, e, x, n⟩ c = 9 := by unfold woN; rw [if_neg (fun q => q ⟨hc1, hc2⟩), if_neg hk]
  have E1 := Lib.hid e1
  have E2 := Lib.hid e2
  have E3 := Lib.hid e3
  clear e1 e2 e3 hk hp
  go_wp2_with fail
  obtain ⟨t0, t1, t2⟩ := put2 R3.out HB3.out HB3.out.size (.int .i64 0) (.int .i64 0)
  exact bodyPost_ret (v := .tuple #[.agg #[.int .i64 0, .int .i64 0], .int .i64 9]) (by simp [results, Tryz.results133, go_sem, t0, t1]) rfl ⟨by rw [E1.out, E2.out, E3.out], t2⟩
set_option maxRecDepth 100000 in
theorem new_yes {b e : Int} (h : bud b e) (w : World) : Calls Tryz.prog 40 #[.int .i64 b, .int .i64 e] w (newPost w ⟨b, e, 0, 0⟩) := by
 obtain ⟨h1, h2, h3, h4⟩ := h
 have k1 : ¬ b < 1 := by omega
 have k2 : ¬ b > 1099511627776 := by omega
 have k3 : ¬ e < 1 := by omega
 have k4 : ¬ e > 1048576 := by omega
 obtain ⟨v9, hv9⟩ : ∃ v9, v9 = w.alloc (.cells #[.int .i64 b, .int .i64 e, .int .i64 0, .int .i64 0] 127) := ⟨_, rfl⟩
 have HE : Hid (newPost w ⟨b, e, 0, 0⟩ (.returned (.tuple #[.pointer (some ⟨w.heap.size, 0, none⟩), .int .i64 0])) v9) := by
  refine ⟨w.heap.size, rfl, ⟨?_, Nat.le_refl _, ok_new ⟨h1, h2, h3, h4⟩⟩, ?_⟩
  ·rw [hv9]; exact Blk.new _ _ _
  ·rw [hv9]; exact bnew _ _
 obtain ⟨P, hP⟩ : ∃ P, P = newPost w ⟨b, e, 0, 0⟩ := ⟨_, rfl⟩
 rw [← hP] at HE ⊢
 clear hP
 go_enter Tryz.func40, Tryz.ntmps40
 go_wp2_with fail
 rw [← hv9]
 clear hv9
 exact HE.out
set_option maxRecDepth 100000 in
theorem new_no {b e : Int} (h : ¬ bud b e) (w : World) : Calls Tryz.prog 40 #[.int .i64 b, .int .i64 e] w (vPost w (.tuple #[.pointer none, .int .i64 2])) := by
 have HE : Hid (vPost w (.tuple #[.pointer none, .int .i64 2]) (.returned (.tuple #[.pointer none, .int .i64 2])) w) := ⟨rfl, Below.refl _ _⟩
 obtain ⟨P, hP⟩ : ∃ P, P = vPost w (.tuple #[.pointer none, .int .i64 2]) := ⟨_, rfl⟩
 rw [← hP] at HE ⊢
 clear hP
 by_cases k1 : b < 1
 case pos =>
  clear h
  go_enter Tryz.func40, Tryz.ntmps40
  go_wp2_with fail
  exact HE.out
 have m1 : 1 ≤ b := by omega
 by_cases k2 : b > 1099511627776
 case pos =>
  clear h
  go_enter Tryz.func40, Tryz.ntmps40
  go_wp2_with fail
  exact HE.out
 have m2 : b ≤ 1099511627776 := by omega
 by_cases k3 : e < 1
 case pos =>
  clear h
  go_enter Tryz.func40, Tryz.ntmps40
  go_wp2_with fail
  exact HE.out
 have m3 : 1 ≤ e := by omega
 have k4 : e > 1048576 := by
  rcases Int.lt_or_le 1048576 e with q | q
  ·exact q
  ·exact absurd ⟨m1, m2, m3, q⟩ h
 clear h
 go_enter Tryz.func40, Tryz.ntmps40
 go_wp2_with fail
 exact HE.out
theorem same_post {v : World} {T : Ac} {N n : Int} (h : Ah F w g s) (hv : Below w.heap.size w v) (eT : T = s) (eN : N = n) : wrPost F w g T (.int .i64 N) (.returned (.int .i64 n)) v := by
 subst eT; subst eN
 exact ⟨rfl, (h.below hv (Nat.le_refl _)).mono (fun _ _ hf => Or.inl hf), Only.of_below hv (Nat.le_refl _) _⟩
theorem put_post {v : World} {T : Ac} {N x n : Int} (h : Ah F w g s) (hv : Below w.heap.size w v) (hT : Ok T) (eT : T = { s with x := x, n := n }) (eN : N = 0) :
  wrPost F w g T (.int .i64 N) (.returned (.int .i64 0)) ((v.setCell ⟨g, 2, none⟩ (.int .i64 x)).setCell ⟨g, 3, none⟩ (.int .i64 n)) := by
 have hb := h.bk.below hv h.lt
 have ho : Only F v ((v.setCell ⟨g, 2, none⟩ (.int .i64 x)).setCell ⟨g, 3, none⟩ (.int .i64 n)) := (only_own h.inF _).put (ad := ⟨g, 3, none⟩) h.inF _
 refine ⟨by rw [eN], ⟨?_, Or.inl h.inF, hT⟩, (Only.of_below hv (Nat.le_refl _) F).trans (ho.mono (fun _ _ hj => Or.inl hj))⟩
 rw [eT]
 have := (hb.set 2 (.int .i64 x)).set 3 (.int .i64 n)
 exact this
theorem wr_alloc {v : World} {T : Ac} {V : Value} {q : Ending} (h : wrPost F w g T V q v) (o : Obj) : wrPost F w g T V q (v.alloc o) :=
 ⟨h.1, h.2.1.below (bnew v o) (Nat.le_refl _), h.2.2.trans (Only.of_below (bnew v o) (Nat.le_refl _) _)⟩
set_option maxRecDepth 100000 in
theorem add_any (h : Ah F w g s) (c : Int) : Calls Tryz.prog 68 #[.pointer (some ⟨g, 0, none⟩), .int .i64 c] w (wrPost F w g (addT s c) (.int .i64 (addN s c))) := by
 have HU := Lib.hid (usable_any h)
 by_cases hc : isC c
 case neg =>
  have HE : Hid (∀ v, Below w.heap.size w v → wrPost F w g (addT s c) (.int .i64 (addN s c)) (.returned (.int .i64 3)) v) := fun v hv => same_post h hv (if_neg (fun q => hc q.1)) (if_pos hc)
  obtain ⟨P, hP⟩ : ∃ P, P = wrPost F w g (addT s c) (.int .i64 (addN s c)) := ⟨_, rfl⟩
  rw [← hP] at HE ⊢
  clear hP
  have HI := Lib.hid (iscost_no hc)
  clear hc h
  go_enter Tryz.func68, Tryz.ntmps68
  go_wp2_with fail
  refine HU.out.mono ?_
  rintro q w0 ⟨rfl, rfl⟩
  go_wp2_with fail
  refine (HI.out _).mono ?_
  rintro q w9 ⟨rfl, rfl⟩
  go_wp2_with fail
  exact HE.out _ (Below.refl _ _)
 have HI := Lib.hid (iscost_yes hc)
 by_cases hf : 2097152 ≤ s.n
 case pos =>
  have HE : Hid (∀ v, Below w.heap.size w v → wrPost F w g (addT s c) (.int .i64 (addN s c)) (.returned (.int .i64 7)) v) := fun v hv => same_post h hv (if_neg (fun q => by have := q.2; omega)) (by unfold addN; rw [if_neg (by simpa using hc), if_pos hf])
  obtain ⟨P, hP⟩ : ∃ P, P = wrPost F w g (addT s c) (.int .i64 (addN s c)) := ⟨_, rfl⟩
  rw [← hP] at HE ⊢
  clear hP
  clear hc
  obtain ⟨b, e, x, n⟩ := s
  obtain ⟨⟨hb1, hb2, he1, he2⟩, hn0, hn1, hlo, hhi⟩ := h.ok
  simp only at hb1 hb2 he1 he2 hn0 hn1 hlo hhi
  have BK : Blk w g #[.int .i64 b, .int .i64 e, .int .i64 x, .int .i64 n] 127 := h.bk
  obtain ⟨x0, x1, x2, x3, xf0, xf1, xf2, xf3⟩ := BK.four
  have lg := BK.lt
  clear BK
  simp only at hf
  have hq : (n == 2097152) = true := by rw [beq_iff_eq]; omega
  clear h hf
  go_enter Tryz.func68, Tryz.ntmps68
  go_wp2_with fail
  refine HU.out.mono ?_
  rintro q w0 ⟨rfl, rfl⟩
  go_wp2_with fail
  refine (HI.out _).mono ?_
  rintro q w9 ⟨rfl, rfl⟩
  go_wp2_with fail
  exact HE.out _ (Below.refl _ _)
 have HE : Hid (∀ v, Below w.heap.size w v → wrPost F w g (addT s c) (.int .i64 (addN s c)) (.returned (.int .i64 0)) ((v.setCell ⟨g, 2, none⟩ (.int .i64 (s.x + c))).setCell ⟨g, 3, none⟩ (.int .i64 (s.n + 1)))) := fun v hv => put_post h hv (h.ok.add c) (if_pos ⟨hc, by omega⟩) (by unfold addN; rw [if_neg (by simpa using hc), if_neg hf])
 obtain ⟨P, hP⟩ : ∃ P, P = wrPost F w g (addT s c) (.int .i64 (addN s c)) := ⟨_, rfl⟩
 rw [← hP] at HE ⊢
 clear hP
 have HG := Lib.hid h
 obtain ⟨b, e, x, n⟩ := s
 obtain ⟨⟨hb1, hb2, he1, he2⟩, hn0, hn1, hlo, hhi⟩ := h.ok
 simp only at hb1 hb2 he1 he2 hn0 hn1 hlo hhi
 unfold isC at hc
 simp only at hf HE
 have hq : (n == 2097152) = false := by rw [beq_eq_false_iff_ne]; omega
 have HW := Lib.hid (with_any x n c (by omega) (by omega) (by omega) (by omega) (by omega) (by omega) w)
 unfold vPost am at HW
 have BK : Blk w g #[.int .i64 b, .int .i64 e, .int .i64 x, .int .i64 n] 127 := h.bk
 obtain ⟨x0, x1, x2, x3, xf0, xf1, xf2, xf3⟩ := BK.four
 have lg := BK.lt
 clear BK
 clear h hf
 go_enter Tryz.func68, Tryz.ntmps68
 go_wp2_with fail
 refine HU.out.mono ?_
 rintro q w0 ⟨rfl, rfl⟩
 go_wp2_with fail
 refine (HI.out _).mono ?_
 rintro q w9 ⟨rfl, rfl⟩
 go_wp2_with fail
 refine HW.out.mono ?_
 rintro q v ⟨rfl, hb⟩
 have HV := Lib.hid hb
 clear hb
 have BK : Blk v g #[.int .i64 b, .int .i64 e, .int .i64 x, .int .i64 n] 127 := HG.out.bk.below HV.out HG.out.lt
 obtain ⟨x0, x1, x2, x3, xf0, xf1, xf2, xf3⟩ := BK.four
 have lg := BK.lt
 clear BK
 go_wp2_with fail
 exact HE.out _ HV.out
theorem wo_cases (s : Ac) (c : Int) : (woN s c = 3 ∧ ¬ isC c) ∨ (woN s c = 9 ∧ isC c ∧ ¬ can s c) ∨ (woN s c = 0 ∧ woX s c = s.x - c ∧ woM s c = s.n - 1 ∧ isC c ∧ can s c) := by
 by_cases hc : isC c
 ·by_cases hk : can s c
  ·exact Or.inr (Or.inr ⟨by unfold woN; rw [if_neg (by simpa using hc), if_pos hk], if_pos ⟨hc, hk⟩, if_pos ⟨hc, hk⟩, hc, hk⟩)
  ·exact Or.inr (Or.inl ⟨by unfold woN; rw [if_neg (by simpa using hc), if_neg hk], hc, hk⟩)
 ·exact Or.inl ⟨if_pos hc, hc⟩
set_option maxRecDepth 100000 in
theorem rem_any (h : Ah F w g s) (c : Int) : Calls Tryz.prog 98 #[.pointer (some ⟨g, 0, none⟩), .int .i64 c] w (wrPost F w g (remT s c) (.int .i64 (remN s c))) := by
 have HW := Lib.hid (without_any h c)
 unfold vPost am at HW
 have HX : Hid (Ah F w g s) := h
 rcases wo_cases s c with ⟨e0, hc⟩ | ⟨e0, hc, hk⟩ | ⟨e0, e1, e2, hc, hk⟩
 ·have HE : Hid (∀ v, Below w.heap.size w v → wrPost F w g (remT s c) (.int .i64 (remN s c)) (.returned (.int .i64 3)) v) := fun v hv => same_post h hv (if_neg (fun q => hc q.1)) (if_pos hc)
  obtain ⟨P, hP⟩ : ∃ P, P = wrPost F w g (remT s c) (.int .i64 (remN s c)) := ⟨_, rfl⟩
  rw [← hP] at HE ⊢
  clear hP
  rw [e0] at HW
  generalize woX s c = a at HW
  generalize woM s c = d at HW
  clear e0 hc h
  go_enter Tryz.func98, Tryz.ntmps98
  go_wp2_with fail
  refine HW.out.mono ?_
  rintro q w1 ⟨rfl, hb⟩
  have HB := Lib.hid hb
  clear hb
  go_wp2_with fail
  exact HE.out _ (HB.out.trans ((bnew w1 _).mono HB.out.size))
 ·have HE : Hid (∀ v, Below w.heap.size w v → wrPost F w g (remT s c) (.int .i64 (remN s c)) (.returned (.int .i64 9)) v) := fun v hv => same_post h hv (if_neg (fun q => hk q.2)) (by unfold remN; rw [if_neg (by simpa using hc), if_neg hk])
  obtain ⟨P, hP⟩ : ∃ P, P = wrPost F w g (remT s c) (.int .i64 (remN s c)) := ⟨_, rfl⟩
  rw [← hP] at HE ⊢
  clear hP
  rw [e0] at HW
  generalize woX s c = a at HW
  generalize woM s c = d at HW
  clear e0 hc h hk
  go_enter Tryz.func98, Tryz.ntmps98
  go_wp2_with fail
  refine HW.out.mono ?_
  rintro q w1 ⟨rfl, hb⟩
  have HB := Lib.hid hb
  clear hb
  go_wp2_with fail
  exact HE.out _ (HB.out.trans ((bnew w1 _).mono HB.out.size))
 ·have HE : Hid (∀ v o, Below w.heap.size w v → wrPost F w g (remT s c) (.int .i64 (remN s c)) (.returned (.int .i64 0)) (((v.setCell ⟨g, 2, none⟩ (.int .i64 (s.x - c))).setCell ⟨g, 3, none⟩ (.int .i64 (s.n - 1))).alloc o)) := fun v o hv => wr_alloc (put_post h hv (h.ok.rem c) (if_pos ⟨hc, hk⟩) (by unfold remN; rw [if_neg (by simpa using hc), if_pos hk])) o
  obtain ⟨P, hP⟩ : ∃ P, P = wrPost F w g (remT s c) (.int .i64 (remN s c)) := ⟨_, rfl⟩
  rw [← hP] at HE ⊢
  clear hP
  rw [e0, e1, e2] at HW
  obtain ⟨b, e, x, n⟩ := s
  obtain ⟨⟨hb1, hb2, he1, he2⟩, hn0, hn1, hlo, hhi⟩ := h.ok
  simp only at hb1 hb2 he1 he2 hn0 hn1 hlo hhi
  simp only at HE HW
  clear e0 e1 e2 hc hk h
  go_enter Tryz.func98, Tryz.ntmps98
  go_wp2_with fail
  refine HW.out.mono ?_
  rintro q w1 ⟨rfl, hb⟩
  have HB := Lib.hid hb
  clear hb
  have BK : Blk w1 g #[.int .i64 b, .int .i64 e, .int .i64 x, .int .i64 n] 127 := HX.out.bk.below HB.out HX.out.lt
  obtain ⟨x0, x1, x2, x3, xf0, xf1, xf2, xf3⟩ := BK.four
  have lg := BK.lt
  clear BK
  go_wp2_with (fail)
  exact HE.out _ _ HB.out
set_option maxRecDepth 100000 in
theorem fits_any (h : Ah F w g s) (c : Int) : Calls Tryz.prog 67 #[.pointer (some ⟨g, 0, none⟩), .int .i64 c] w (vPost w (.bool (fitB s c))) := by
 have HU := Lib.hid (usable_any h)
 by_cases hc : isC c
 case neg =>
  have HE : Hid (vPost w (.bool (fitB s c)) (.returned (.bool false)) w) := ⟨by rw [show fitB s c = false from by unfold fitB; simp [hc]], Below.refl _ _⟩
  obtain ⟨P, hP⟩ : ∃ P, P = vPost w (.bool (fitB s c)) := ⟨_, rfl⟩
  rw [← hP] at HE ⊢
  clear hP
  have HI := Lib.hid (iscost_no hc)
  clear hc
  go_enter Tryz.func67, Tryz.ntmps67
  go_wp2_with fail
  refine HU.out.mono ?_
  rintro q w0 ⟨rfl, rfl⟩
  go_wp2_with fail
  refine (HI.out _).mono ?_
  rintro q w9 ⟨rfl, rfl⟩
  go_wp2_with fail
  exact HE.out
 have HI := Lib.hid (iscost_yes hc)
 have HE : Hid (vPost w (.bool (fitB s c)) (.returned (.bool (decide (c ≤ s.b)))) w) := ⟨by rw [show fitB s c = (decide (c ≤ s.b)) from by unfold fitB; simp [hc]], Below.refl _ _⟩
 obtain ⟨P, hP⟩ : ∃ P, P = vPost w (.bool (fitB s c)) := ⟨_, rfl⟩
 rw [← hP] at HE ⊢
 clear hP
 clear hc
 obtain ⟨b, e, x, n⟩ := s
 obtain ⟨⟨hb1, hb2, he1, he2⟩, hn0, hn1, hlo, hhi⟩ := h.ok
 simp only at hb1 hb2 he1 he2 hn0 hn1 hlo hhi
 have BK : Blk w g #[.int .i64 b, .int .i64 e, .int .i64 x, .int .i64 n] 127 := h.bk
 obtain ⟨x0, x1, x2, x3, xf0, xf1, xf2, xf3⟩ := BK.four
 have lg := BK.lt
 clear BK
 clear h
 go_enter Tryz.func67, Tryz.ntmps67
 go_wp2_with fail
 refine HU.out.mono ?_
 rintro q w0 ⟨rfl, rfl⟩
 go_wp2_with fail
 refine (HI.out _).mono ?_
 rintro q w9 ⟨rfl, rfl⟩
 go_wp2_with fail
 exact HE.out
set_option maxRecDepth 100000 in
theorem over_any (h : Ah F w g s) : Calls Tryz.prog 138 #[.pointer (some ⟨g, 0, none⟩)] w (vPost w (.tuple #[.int .i64 (ovB s), .int .i64 (ovE s)])) := by
 have HU := Lib.hid (usable_any h)
 unfold vPost
 obtain ⟨b, e, x, n⟩ := s
 obtain ⟨⟨hb1, hb2, he1, he2⟩, hn0, hn1, hlo, hhi⟩ := h.ok
 simp only at hb1 hb2 he1 he2 hn0 hn1 hlo hhi
 have BK : Blk w g #[.int .i64 b, .int .i64 e, .int .i64 x, .int .i64 n] 127 := h.bk
 obtain ⟨x0, x1, x2, x3, xf0, xf1, xf2, xf3⟩ := BK.four
 have lg := BK.lt
 clear BK
 unfold ovB ovE
 simp only
 clear h
 have HV : Hid (Below w.heap.size w w.drew) := (Below.refl _ _).drew
 go_enter Tryz.func138, Tryz.ntmps138
 go_wp2_with fail
 refine HU.out.mono ?_
 rintro q w0 ⟨rfl, rfl⟩
 go_wp2_with fail
 go_region
 all_goals
  go_wp2_with fail
 all_goals
  go_ret2
  refine ⟨?_, HV.out⟩
  simp <;> omega
set_option maxRecDepth 100000 in
theorem used_any (h : Ah F w g s) : Calls Tryz.prog 82 #[.pointer (some ⟨g, 0, none⟩)] w (vPost w (.tuple #[.int .i64 s.x, .int .i64 s.n])) := by
 have HU := Lib.hid (usable_any h)
 unfold vPost
 obtain ⟨b, e, x, n⟩ := s
 obtain ⟨⟨hb1, hb2, he1, he2⟩, hn0, hn1, hlo, hhi⟩ := h.ok
 simp only at hb1 hb2 he1 he2 hn0 hn1 hlo hhi
 have BK : Blk w g #[.int .i64 b, .int .i64 e, .int .i64 x, .int .i64 n] 127 := h.bk
 obtain ⟨x0, x1, x2, x3, xf0, xf1, xf2, xf3⟩ := BK.four
 have lg := BK.lt
 clear BK
 clear h
 have HV : Hid (Below w.heap.size w w.drew) := (Below.refl _ _).drew
 go_enter Tryz.func82, Tryz.ntmps82
 go_wp2_with fail
 refine HU.out.mono ?_
 rintro q w0 ⟨rfl, rfl⟩
 go_wp2_with fail
 go_region
 go_wp2_with fail
 go_ret2
 exact ⟨rfl, HV.out⟩
set_option maxRecDepth 100000 in
theorem copy_any (h : Ah F w g s) : Calls Tryz.prog 81 #[.pointer (some ⟨g, 0, none⟩)] w (mkPost w s) := by
 have HU := Lib.hid (usable_any h)
 have HOK : Hid (Ok s) := h.ok
 obtain ⟨v9, hv9⟩ : ∃ v9, v9 = w.alloc (.cells #[.int .i64 s.b, .int .i64 s.e, .int .i64 s.x, .int .i64 s.n] 127) := ⟨_, rfl⟩
 have HE : Hid (mkPost w s (.returned (.pointer (some ⟨w.heap.size, 0, none⟩))) v9) := by
  refine ⟨w.heap.size, rfl, ⟨?_, Nat.le_refl _, HOK.out⟩, ?_⟩
  ·rw [hv9]; exact Blk.new _ _ _
  ·rw [hv9]; exact bnew _ _
 obtain ⟨P, hP⟩ : ∃ P, P = mkPost w s := ⟨_, rfl⟩
 rw [← hP] at HE ⊢
 clear hP
 have BK : Blk w g #[.int .i64 s.b, .int .i64 s.e, .int .i64 s.x, .int .i64 s.n] 127 := h.bk
 obtain ⟨x0, x1, x2, x3, _⟩ := BK.four
 have lg := BK.lt
 clear BK h
 go_enter Tryz.func81, Tryz.ntmps81
 go_wp2_with fail
 refine HU.out.mono ?_
 rintro q w0 ⟨rfl, rfl⟩
 go_wp2_with fail
 rw [← hv9]
 clear hv9
 exact HE.out
end
def zeroC : Array Value := #[.int .i64 0, .int .i64 0, .int .i64 0, .int .i64 0]
def Idle (w : World) (p : Option Addr) : Prop := p = none ∨ ∃ g, p = some ⟨g, 0, none⟩ ∧ Blk w g zeroC 127
theorem Idle.below {w w' : World} {p : Option Addr} (h : Idle w p) (hb : Below w.heap.size w w') : Idle w' p := by
 rcases h with h | ⟨g, h, h1⟩
 ·exact Or.inl h
 ·exact Or.inr ⟨g, h, h1.below hb h1.lt⟩
section
variable {w : World} {p : Option Addr}
end
end Go.Proofs.YtlmljhnogmfcfaaGreat.Je
