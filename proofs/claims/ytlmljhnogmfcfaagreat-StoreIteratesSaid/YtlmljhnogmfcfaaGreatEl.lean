/- Proves what the law's spoil leaves: it writes only to the rows of the entry that it is given, and every entry that may be written stays so; and what the law's gives, all and used return. Conditions: as each theorem names them. -/
import Derived.Test.YtlmljhnogmfcfaaGreatNw
import Derived.Test.YtlmljhnogmfcfaaGreatRg
import Derived.BigQuiet
import Derived.Deep.QuietTactic
import Derived.Deep.Cut
import Derived.Lib.Strings
import Derived.Lib.ConvBytes
import Derived.StillTailTactics
namespace Go.Proofs.YtlmljhnogmfcfaaGreat.Ea
open Go.RowKit Ap Mi Nw

structure En where
 k : ByteArray
 v : List UInt8
 t : List ByteArray
 d : Int
 n : Int
 s : Int
structure Em where
 e : En
 A : Option Addr
 a : Nat
 B : Option Addr
 b : Nat
def zeroE : En := ⟨⟨#[]⟩, [], [], 0, 0, 0⟩
def zeroM : Em := ⟨zeroE, none, 0, none, 0⟩
def keyOk (k : ByteArray) : Prop := 1 ≤ k.size ∧ k.size ≤ 250
instance (k : ByteArray) : Decidable (keyOk k) := inferInstanceAs (Decidable (_ ∧ _))
def tagOk (k : ByteArray) : Prop := 1 ≤ k.size ∧ k.size ≤ 64
instance (k : ByteArray) : Decidable (tagOk k) := inferInstanceAs (Decidable (_ ∧ _))
def good (l : List ByteArray) (K : Nat) : Prop := ∀ i (h : i < l.length), i < K → tagOk l[i] ∧ (0 < i → Op.bytesLess (l[i - 1]'(by omega)).toList l[i].toList = true)
theorem good_zero (l : List ByteArray) : good l 0 := fun i _ hi => by omega
theorem good_succ {l : List ByteArray} {K : Nat} (hK : K < l.length) (hg : good l K) (h1 : tagOk l[K]) (h2 : 0 < K → Op.bytesLess (l[K - 1]'(by omega)).toList l[K].toList = true) : good l (K + 1) := fun i hi hiK => by
 by_cases e : i = K
 ·subst e; exact ⟨h1, h2⟩
 ·exact hg i hi (by omega)
def okT (l : List ByteArray) : Prop := l.length ≤ 16 ∧ good l l.length
def sumT (l : List ByteArray) (K : Nat) : Nat := ((l.take K).map ByteArray.size).sum
theorem sumT_zero (l : List ByteArray) : sumT l 0 = 0 := by simp [sumT]
theorem sumT_succ {l : List ByteArray} {K : Nat} (h : K < l.length) : sumT l (K + 1) = sumT l K + l[K].size := by
 unfold sumT
 rw [List.take_succ_eq_append_getElem h, List.map_append, List.sum_append]; simp
theorem sumT_bound {l : List ByteArray} {M : Nat} (h : ∀ t ∈ l, t.size ≤ M) : ∀ {K : Nat}, K ≤ l.length → sumT l K ≤ K * M
 | 0, _ => by simp [sumT]
 | K + 1, hK => by
  have h1 := sumT_bound h (K := K) (by omega)
  have h2 := h _ (List.getElem_mem (show K < l.length by omega))
  rw [sumT_succ (by omega), Nat.add_mul]
  omega
def cost (e : En) : Nat := e.k.size + e.v.length + 64 + sumT e.t e.t.length
def used (l : List En) : Nat := (l.map cost).sum
theorem used_nil : used [] = 0 := rfl
theorem used_cons (x : En) (l : List En) : used (x :: l) = cost x + used l := by simp [used]
theorem used_append (l m : List En) : used (l ++ m) = used l + used m := by simp [used]
theorem used_take {l : List En} {K : Nat} (h : K < l.length) : used (l.take (K + 1)) = used (l.take K) + cost l[K] := by
 rw [List.take_succ_eq_append_getElem h, used_append, used_cons, used_nil, Nat.add_zero]
def okE (x : En) : Prop := keyOk x.k ∧ x.v.length ≤ 65536 ∧ okT x.t
structure Fit (x : En) : Prop where
 k : x.k.size ≤ 1000000
 v : x.v.length ≤ 1000000
 t : x.t.length ≤ 1000
 e : ∀ t ∈ x.t, t.size ≤ 1000000
 d : 0 ≤ x.d ∧ x.d < 18446744073709551616
 n : 0 ≤ x.n ∧ x.n < 18446744073709551616
 s : 0 ≤ x.s ∧ x.s < 18446744073709551616
theorem Fit.cost {x : En} (h : Fit x) : cost x ≤ 2000000000 := by
 have h1 := sumT_bound h.e (Nat.le_refl _)
 have := h.k; have := h.v; have := h.t
 have : x.t.length * 1000000 ≤ 1000 * 1000000 := Nat.mul_le_mul_right _ this
 unfold Ea.cost
 omega
theorem Fit.zero : Fit zeroE := ⟨by decide, by decide, by decide, by simp [zeroE], by decide, by decide, by decide⟩
theorem used_le {l : List En} (h : ∀ x ∈ l, Fit x) : used l ≤ l.length * 2000000000 := by
 induction l with
 | nil => simp [used]
 | cons x r ih =>
  rw [used_cons, List.length_cons, Nat.add_mul]
  have := (h x (by simp)).cost
  have := ih (fun y hy => h y (by simp [hy]))
  omega
section
variable {α : Type} (f : α → En)
def fnd : List α → ByteArray → Option Nat
 | [], _ => none
 | x :: r, k => if (f x).k = k then some 0 else (fnd r k).map (· + 1)
theorem fnd_some {l : List α} {k : ByteArray} {i : Nat} (h : fnd f l k = some i) : ∃ hi : i < l.length, (f l[i]).k = k := by
 induction l generalizing i with
 | nil => cases h
 | cons x r ih =>
  unfold fnd at h
  split at h
  ·cases h; exact ⟨by simp, by assumption⟩
  ·cases e : fnd f r k with
   | none => rw [e] at h; cases h
   | some j =>
    rw [e] at h; cases h
    obtain ⟨h1, h2⟩ := ih e
    exact ⟨by simp; omega, by simpa using h2⟩
theorem fnd_lt {l : List α} {k : ByteArray} {i : Nat} (h : fnd f l k = some i) : i < l.length := (fnd_some f h).1
theorem fnd_none {l : List α} {k : ByteArray} (h : fnd f l k = none) : ∀ x ∈ l, (f x).k ≠ k := by
 induction l with
 | nil => simp
 | cons x r ih =>
  unfold fnd at h
  split at h
  ·cases h
  ·rename_i hx
   cases e : fnd f r k with
   | none => intro y hy; rcases List.mem_cons.1 hy with rfl | hy; exact hx; exact ih e y hy
   | some j => rw [e] at h; cases h
theorem fnd_at {l : List α} {k : ByteArray} {K : Nat} (hK : K < l.length) (h : ∀ i (hi : i < l.length), i < K → (f l[i]).k ≠ k) (he : (f l[K]).k = k) : fnd f l k = some K := by
 induction l generalizing K with
 | nil => simp at hK
 | cons x r ih =>
  unfold fnd
  cases K with
  | zero =>
   have h0 : (f x).k = k := he
   rw [if_pos h0]
  | succ K =>
   have h0 : ¬ (f x).k = k := h 0 (by simp) (by omega)
   rw [if_neg h0, ih (K := K) (by simpa using hK) (fun i hi hiK => h (i + 1) (Nat.succ_lt_succ hi) (by omega)) he]
   rfl
theorem fnd_no {l : List α} {k : ByteArray} (h : ∀ i (hi : i < l.length), (f l[i]).k ≠ k) : fnd f l k = none := by
 induction l with
 | nil => rfl
 | cons x r ih =>
  unfold fnd
  have h0 : ¬ (f x).k = k := h 0 (by simp)
  rw [if_neg h0, ih (fun i hi => h (i + 1) (Nat.succ_lt_succ hi))]
  rfl
theorem fnd_map (l : List α) (k : ByteArray) : fnd f l k = fnd id (l.map f) k := by
 induction l with
 | nil => rfl
 | cons x r ih => unfold fnd; rw [ih]; rfl
end
def wo {α : Type} (l : List α) (i : Nat) : List α := l.take i ++ l.drop (i + 1)
theorem wo_map {α β : Type} (g : α → β) (l : List α) (i : Nat) : (wo l i).map g = wo (l.map g) i := by unfold wo; simp
theorem wo_mem {α : Type} {l : List α} {i : Nat} {x : α} (h : x ∈ wo l i) : x ∈ l := by
 unfold wo at h
 rcases List.mem_append.1 h with h | h
 ·exact List.mem_of_mem_take h
 ·exact List.mem_of_mem_drop h
theorem wo_len {α : Type} {l : List α} {i : Nat} (h : i < l.length) : (wo l i).length + 1 = l.length := by unfold wo; simp; omega
def evN (b e c : Int) : List En → Nat
 | [] => 0
 | x :: r => if (r.length : Int) + 2 > e ∨ (used (x :: r) : Int) + c > b then evN b e c r + 1 else 0
theorem evN_le (b e c : Int) (l : List En) : evN b e c l ≤ l.length := by
 induction l with
 | nil => simp [evN]
 | cons x r ih => unfold evN; split <;> simp <;> omega
def evQ (b e c : Int) (l : List En) (n : Nat) : Prop := (l.length : Int) - n + 1 > e ∨ (used (l.drop n) : Int) + c > b
theorem evN_go {b e c : Int} {l : List En} {n : Nat} (h : n < evN b e c l) : evQ b e c l n := by
 induction l generalizing n with
 | nil => simp [evN] at h
 | cons x r ih =>
  unfold evN at h
  split at h
  ·rename_i hq
   cases n with
   | zero => unfold evQ; simp only [List.length_cons, List.drop_zero]; rcases hq with hq | hq; exact Or.inl (by omega); exact Or.inr (by omega)
   | succ n =>
    have := ih (n := n) (by omega)
    unfold evQ at this ⊢
    simp only [List.length_cons, List.drop_succ_cons]
    rcases this with h | h
    ·left; omega
    ·right; exact h
  ·omega
theorem evN_stop {b e c : Int} (he : 1 ≤ e) (hc : c ≤ b) (l : List En) : ¬ evQ b e c l (evN b e c l) := by
 induction l with
 | nil => unfold evQ evN used; simp; omega
 | cons x r ih =>
  unfold evN
  split
  ·unfold evQ at ih ⊢
   simp only [List.length_cons, List.drop_succ_cons]
   intro h
   apply ih
   rcases h with h | h
   ·left; omega
   ·right; exact h
  ·rename_i hq
   unfold evQ
   simp only [List.length_cons, List.drop_zero]
   intro h
   apply hq
   rcases h with h | h
   ·left; omega
   ·right; exact h
structure Sx where
 b : Int
 e : Int
 l : List En
def bud (b e : Int) : Prop := 1 ≤ b ∧ b ≤ 1099511627776 ∧ 1 ≤ e ∧ e ≤ 1048576
instance (b e : Int) : Decidable (bud b e) := inferInstanceAs (Decidable (_ ∧ _))
open Classical in
noncomputable def putE (b : Int) (x : En) : Int := if ¬ (keyOk x.k ∧ okT x.t) then 2 else if 65536 < x.v.length then 5 else if b < (cost x : Int) then 12 else 0
noncomputable def putN (s : Sx) (x : En) : Int := putE s.b x
theorem putE_cases (b : Int) (x : En) : (putE b x = 2 ∧ ¬ keyOk x.k) ∨ (putE b x = 2 ∧ keyOk x.k ∧ ¬ okT x.t) ∨ (putE b x = 5 ∧ keyOk x.k ∧ okT x.t ∧ 65536 < x.v.length) ∨ (putE b x = 12 ∧ keyOk x.k ∧ okT x.t ∧ x.v.length ≤ 65536 ∧ b < (cost x : Int)) ∨ (putE b x = 0 ∧ keyOk x.k ∧ okT x.t ∧ x.v.length ≤ 65536 ∧ (cost x : Int) ≤ b) := by
 unfold putE
 by_cases h0 : keyOk x.k
 ·by_cases h1 : okT x.t
  ·rw [if_neg (fun h => h ⟨h0, h1⟩)]
   by_cases h2 : 65536 < x.v.length
   ·rw [if_pos h2]; exact Or.inr (Or.inr (Or.inl ⟨rfl, h0, h1, h2⟩))
   ·rw [if_neg h2]
    by_cases h3 : b < (cost x : Int)
    ·rw [if_pos h3]; exact Or.inr (Or.inr (Or.inr (Or.inl ⟨rfl, h0, h1, by omega, h3⟩)))
    ·rw [if_neg h3]; exact Or.inr (Or.inr (Or.inr (Or.inr ⟨rfl, h0, h1, by omega, by omega⟩)))
  ·rw [if_pos (fun h => h1 h.2)]; exact Or.inr (Or.inl ⟨rfl, h0, h1⟩)
 ·rw [if_pos (fun h => h0 h.1)]; exact Or.inl ⟨rfl, h0⟩
def rest {α : Type} (f : α → En) (l : List α) (k : ByteArray) : List α := match fnd f l k with | some i => wo l i | none => l
theorem rest_map {α : Type} (f : α → En) (l : List α) (k : ByteArray) : (rest f l k).map f = rest id (l.map f) k := by
 unfold rest
 rw [fnd_map]
 cases fnd id (l.map f) k with
 | none => rfl
 | some i => exact wo_map f l i
theorem rest_mem {α : Type} {f : α → En} {l : List α} {k : ByteArray} {x : α} (h : x ∈ rest f l k) : x ∈ l := by
 unfold rest at h
 split at h
 ·exact wo_mem h
 ·exact h
theorem rest_len {α : Type} (f : α → En) (l : List α) (k : ByteArray) : (rest f l k).length ≤ l.length := by
 unfold rest
 split
 ·rename_i i h
  have := wo_len (fnd_lt f h)
  omega
 ·exact Nat.le_refl _
noncomputable def putG (s : Sx) (x : En) : List En := if putN s x = 0 then (rest id s.l x.k).take (evN s.b s.e (cost x) (rest id s.l x.k)) else []
noncomputable def putT (s : Sx) (x : En) : Sx := if putN s x = 0 then { s with l := (rest id s.l x.k).drop (evN s.b s.e (cost x) (rest id s.l x.k)) ++ [x] } else s
open Classical in
noncomputable def lookN (s : Sx) (k : ByteArray) : Int := if ¬ keyOk k then 2 else match fnd id s.l k with | some _ => 0 | none => 9
noncomputable def lookE (s : Sx) (k : ByteArray) : En := if lookN s k = 0 then s.l.getD ((fnd id s.l k).getD 0) zeroE else zeroE
noncomputable def remT (s : Sx) (k : ByteArray) : Sx := if lookN s k = 0 then { s with l := wo s.l ((fnd id s.l k).getD 0) } else s
noncomputable def useT (s : Sx) (k : ByteArray) : Sx := if lookN s k = 0 then { s with l := wo s.l ((fnd id s.l k).getD 0) ++ [lookE s k] } else s
noncomputable def touT (s : Sx) (k : ByteArray) (d : Int) : Sx := if lookN s k = 0 then { s with l := wo s.l ((fnd id s.l k).getD 0) ++ [{ lookE s k with d := d }] } else s
def dueE (d now : Int) : Bool := decide (d ≠ 18446744073709551615 ∧ d ≤ now)
def ltE (x y : En) : Bool := decide (x.d < y.d) || (decide (x.d = y.d) && Op.bytesLess x.k.toList y.k.toList)
def insE {α : Type} (f : α → En) (x : α) : List α → List α
 | [] => [x]
 | y :: r => if ltE (f y) (f x) then y :: insE f x r else x :: y :: r
def expG {α : Type} (f : α → En) (now : Int) (l : List α) : List α := (l.filter (fun x => dueE (f x).d now)).foldl (fun a x => insE f x a) []
def expS {α : Type} (f : α → En) (now : Int) (l : List α) : List α := l.filter (fun x => ! dueE (f x).d now)
def expT (s : Sx) (now : Int) : Sx := { s with l := expS id now s.l }
theorem insE_mem {α : Type} {f : α → En} {x z : α} {l : List α} (h : z ∈ insE f x l) : z = x ∨ z ∈ l := by
 induction l with
 | nil => exact Or.inl (by simpa [insE] using h)
 | cons y r ih =>
  unfold insE at h
  split at h
  ·rcases List.mem_cons.1 h with rfl | h
   ·exact Or.inr (by simp)
   ·rcases ih h with h | h
    ·exact Or.inl h
    ·exact Or.inr (by simp [h])
  ·rcases List.mem_cons.1 h with rfl | h
   ·exact Or.inl rfl
   ·exact Or.inr h
theorem insE_len {α : Type} (f : α → En) (x : α) (l : List α) : (insE f x l).length = l.length + 1 := by
 induction l with
 | nil => rfl
 | cons y r ih => unfold insE; split <;> simp [ih]
theorem insE_at {α : Type} (f : α → En) (x : α) {l : List α} {K : Nat} (hK : K ≤ l.length) (h : ∀ i (hi : i < l.length), i < K → ltE (f l[i]) (f x) = true) (hn : ∀ hk : K < l.length, ltE (f l[K]) (f x) = false) : insE f x l = l.take K ++ x :: l.drop K := by
 induction l generalizing K with
 | nil => simp at hK; subst hK; rfl
 | cons y r ih =>
  cases K with
  | zero =>
   have h0 : ltE (f y) (f x) = false := hn (by simp)
   unfold insE
   rw [if_neg (by rw [h0]; simp)]
   simp
  | succ K =>
   unfold insE
   have h0 : ltE (f y) (f x) = true := h 0 (by simp) (by omega)
   rw [if_pos h0, ih (K := K) (by simpa using hK) (fun i hi hiK => h (i + 1) (Nat.succ_lt_succ hi) (by omega)) (fun hk => hn (Nat.succ_lt_succ hk))]
   simp
theorem expS_snoc {α : Type} (f : α → En) (now : Int) (l : List α) (x : α) : expS f now (l ++ [x]) = expS f now l ++ (if dueE (f x).d now then [] else [x]) := by
 unfold expS
 rw [List.filter_append]
 congr 1
 by_cases h : dueE (f x).d now = true
 ·rw [if_pos h, List.filter_cons, if_neg (by simp [h]), List.filter_nil]
 ·rw [if_neg h, List.filter_cons, if_pos (by simpa using h), List.filter_nil]
theorem expG_snoc {α : Type} (f : α → En) (now : Int) (l : List α) (x : α) : expG f now (l ++ [x]) = if dueE (f x).d now then insE f x (expG f now l) else expG f now l := by
 unfold expG
 rw [List.filter_append, List.foldl_append]
 by_cases h : dueE (f x).d now = true
 ·rw [if_pos h, List.filter_cons, if_pos h, List.filter_nil]; rfl
 ·rw [if_neg h, List.filter_cons, if_neg h, List.filter_nil]; rfl
theorem expG_mem {α : Type} {f : α → En} {now : Int} {l : List α} {x : α} (h : x ∈ expG f now l) : x ∈ l := by
 have aux : ∀ (m a : List α), x ∈ m.foldl (fun a x => insE f x a) a → x ∈ m ∨ x ∈ a := by
  intro m
  induction m with
  | nil => intro a h; exact Or.inr h
  | cons y r ih =>
   intro a h
   rw [List.foldl_cons] at h
   rcases ih _ h with h | h
   ·exact Or.inl (by simp [h])
   ·rcases insE_mem h with h | h
    ·exact Or.inl (by simp [h])
    ·exact Or.inr h
 rcases aux _ _ h with h | h
 ·exact (List.mem_filter.1 h).1
 ·cases h
theorem exp_len {α : Type} (f : α → En) (now : Int) (l : List α) : (expS f now l).length ≤ l.length ∧ (expG f now l).length ≤ l.length := by
 refine ⟨List.length_filter_le _ _, ?_⟩
 have aux : ∀ (m a : List α), (m.foldl (fun a x => insE f x a) a).length = m.length + a.length := by
  intro m
  induction m with
  | nil => simp
  | cons y r ih => intro a; rw [List.foldl_cons, ih, insE_len, List.length_cons]; omega
 unfold expG
 rw [aux]
 simpa using List.length_filter_le _ _
def nextT (l : List En) : Int := l.foldl (fun t x => min t x.d) 18446744073709551615
theorem nextT_take {l : List En} {K : Nat} (h : K < l.length) : nextT (l.take (K + 1)) = min (nextT (l.take K)) l[K].d := by
 unfold nextT
 rw [List.take_succ_eq_append_getElem h, List.foldl_append]
 rfl
def keysL (l : List En) : List ByteArray := l.map (·.k)
theorem keysL_take {l : List En} {K : Nat} (h : K < l.length) : keysL (l.take (K + 1)) = keysL (l.take K) ++ [l[K].k] := by
 unfold keysL
 rw [List.take_succ_eq_append_getElem h, List.map_append]
 rfl
end Go.Proofs.YtlmljhnogmfcfaaGreat.Ea
namespace Go.Proofs.YtlmljhnogmfcfaaGreat.Eb
open Go.RowKit Ap Mi Nw Ea

def vPost (w : World) (v : Value) : Ending → World → Prop := fun q w' => q = .returned v ∧ Below w.heap.size w w'
def byV (v : List UInt8) : List Value := v.map fun b => .int .u8 (b.toNat : Int)
def strs (l : List ByteArray) : List Value := l.map Value.string
theorem byV_len (v : List UInt8) : (byV v).length = v.length := List.length_map _
theorem strs_len (v : List ByteArray) : (strs v).length = v.length := List.length_map _
def emC (x : Em) : List Value := [.string x.e.k, .slice x.A x.e.v.length x.a, .slice x.B x.e.t.length x.b, .int .u64 x.e.d, .int .u64 x.e.n, .int .u64 x.e.s]
def emV (x : Em) : Value := .agg #[.string x.e.k, .slice x.A x.e.v.length x.a, .slice x.B x.e.t.length x.b, .int .u64 x.e.d, .int .u64 x.e.n, .int .u64 x.e.s]
def emA (x : Em) : Array Value := #[.string x.e.k, .slice x.A x.e.v.length x.a, .slice x.B x.e.t.length x.b, .int .u64 x.e.d, .int .u64 x.e.n, .int .u64 x.e.s]
def emL (l : List Em) : List Value := l.flatMap emC
theorem emL_nil : emL [] = [] := rfl
theorem emL_cons (x : Em) (l : List Em) : emL (x :: l) = emC x ++ emL l := by unfold emL; rw [List.flatMap_cons]
theorem emL_append (l m : List Em) : emL (l ++ m) = emL l ++ emL m := by unfold emL; rw [List.flatMap_append]
theorem emL_one (x : Em) : emL [x] = emC x := by rw [emL_cons, emL_nil, List.append_nil]
theorem emL_len : ∀ (l : List Em), (emL l).length = l.length * 6
 | [] => rfl
 | x :: r => by rw [emL_cons, List.length_append, emL_len r, List.length_cons]; simp [emC]; omega
theorem emL_take : ∀ (l : List Em) (k : Nat), (emL l).take (k * 6) = emL (l.take k)
 | [], k => by simp [emL]
 | x :: r, 0 => by simp [emL]
 | x :: r, k + 1 => by
  rw [emL_cons, List.take_succ_cons, emL_cons, ← emL_take r k, show (k + 1) * 6 = (emC x).length + k * 6 from by simp [emC]; omega, List.take_length_add_append]
theorem emL_drop : ∀ (l : List Em) (k : Nat), (emL l).drop (k * 6) = emL (l.drop k)
 | [], k => by simp [emL]
 | x :: r, 0 => by simp
 | x :: r, k + 1 => by
  rw [emL_cons, List.drop_succ_cons, ← emL_drop r k, show (k + 1) * 6 = (emC x).length + k * 6 from by simp [emC]; omega, List.drop_length_add_append]
theorem emL_one' (l : List Em) : ∀ u ∈ emL l, u.oneCell' = true := by
 intro u hu
 unfold emL at hu
 obtain ⟨x, _, hx⟩ := List.mem_flatMap.1 hu
 unfold emC at hx
 simp only [List.mem_cons, List.not_mem_nil, or_false] at hx
 rcases hx with rfl | rfl | rfl | rfl | rfl | rfl <;> rfl
theorem emL_get : ∀ (l : List Em) (k : Nat) (h : k < l.length), (emL l)[k * 6]? = some (.string l[k].e.k) ∧ (emL l)[k * 6 + 1]? = some (.slice l[k].A l[k].e.v.length l[k].a) ∧ (emL l)[k * 6 + 2]? = some (.slice l[k].B l[k].e.t.length l[k].b) ∧ (emL l)[k * 6 + 3]? = some (.int .u64 l[k].e.d) ∧ (emL l)[k * 6 + 4]? = some (.int .u64 l[k].e.n) ∧ (emL l)[k * 6 + 5]? = some (.int .u64 l[k].e.s)
 | [], _, h => by simp at h
 | x :: r, 0, _ => by rw [emL_cons]; exact ⟨rfl, rfl, rfl, rfl, rfl, rfl⟩
 | x :: r, k + 1, h => by
  have := emL_get r k (by simpa using h)
  rw [show (k + 1) * 6 = k * 6 + 1 + 1 + 1 + 1 + 1 + 1 from by omega, emL_cons]
  exact this
structure RE (G : Nat → Prop) (w : World) (x : Em) : Prop where
 f : Fit x.e
 v : Rs w 1 x.A x.e.v.length x.a (byV x.e.v)
 t : Rs w 1 x.B x.e.t.length x.b (strs x.e.t)
 gv : ∀ a, x.A = some a → G a.block
 gt : ∀ a, x.B = some a → G a.block
section
variable {G G' F : Nat → Prop} {w w' : World} {x : Em} {l : List Em} {A : Option Addr} {c : Nat}
theorem RE.below (h : RE G w x) {B : Nat} (hb : Below B w w') (hB : w.heap.size ≤ B) : RE G w' x := ⟨h.f, h.v.below hb hB, h.t.below hb hB, h.gv, h.gt⟩
theorem RE.only (h : RE G w x) (ho : Only F w w') (hn : ∀ j, F j → ¬ G j) : RE G w' x := ⟨h.f, h.v.only ho (fun a e hf => hn _ hf (h.gv a e)), h.t.only ho (fun a e hf => hn _ hf (h.gt a e)), h.gv, h.gt⟩
theorem RE.mono (h : RE G w x) (hG : ∀ j, G j → G' j) : RE G' w x := ⟨h.f, h.v, h.t, fun a e => hG _ (h.gv a e), fun a e => hG _ (h.gt a e)⟩
theorem RE.zero : RE G w zeroM := ⟨Fit.zero, Rs.nil _ _, Rs.nil _ _, (fun a e => by cases e), (fun a e => by cases e)⟩
structure RL (G : Nat → Prop) (w : World) (A : Option Addr) (c : Nat) (l : List Em) : Prop where
 r : Rs w 6 A l.length c (emL l)
 g : ∀ a, A = some a → G a.block
 e : ∀ x ∈ l, RE G w x
theorem RL.nil : RL G w none 0 [] := ⟨Rs.nil _ _, (fun a e => by cases e), (fun x hx => by cases hx)⟩
theorem RL.below (h : RL G w A c l) {B : Nat} (hb : Below B w w') (hB : w.heap.size ≤ B) : RL G w' A c l := ⟨h.r.below hb hB, h.g, fun x hx => (h.e x hx).below hb hB⟩
theorem RL.only (h : RL G w A c l) (ho : Only F w w') (hn : ∀ j, F j → ¬ G j) : RL G w' A c l := ⟨h.r.only ho (fun a e hf => hn _ hf (h.g a e)), h.g, fun x hx => (h.e x hx).only ho hn⟩
theorem RL.mono (h : RL G w A c l) (hG : ∀ j, G j → G' j) : RL G' w A c l := ⟨h.r, fun a e => hG _ (h.g a e), fun x hx => (h.e x hx).mono hG⟩
theorem RL.fits (h : RL G w A c l) : ∀ x ∈ l, Fit x.e := fun x hx => (h.e x hx).f
theorem RL.at_ (h : RL G w A c l) {k : Nat} (hk : k < l.length) : ∃ b o, A = some ⟨b, o, none⟩ ∧ b < w.heap.size ∧ w.cell? ⟨b, o + k * 6, none⟩ = some (.string l[k].e.k) ∧ w.cell? ⟨b, o + k * 6 + 1, none⟩ = some (.slice l[k].A l[k].e.v.length l[k].a) ∧ w.cell? ⟨b, o + k * 6 + 2, none⟩ = some (.slice l[k].B l[k].e.t.length l[k].b) ∧ w.cell? ⟨b, o + k * 6 + 3, none⟩ = some (.int .u64 l[k].e.d) ∧ w.cell? ⟨b, o + k * 6 + 4, none⟩ = some (.int .u64 l[k].e.n) ∧ w.cell? ⟨b, o + k * 6 + 5, none⟩ = some (.int .u64 l[k].e.s) := by
 obtain ⟨g0, g1, g2, g3, g4, g5⟩ := emL_get l k hk
 obtain ⟨b, o, rfl, hb, c0⟩ := h.r.rd.at_ g0
 refine ⟨b, o, rfl, hb, c0, ?_, ?_, ?_, ?_, ?_⟩
 all_goals
  first
  | (obtain ⟨b', o', e, _, c1⟩ := h.r.rd.at_ g1; injection e with e; injection e with e1 e2; subst e1; subst e2; exact c1)
  | (obtain ⟨b', o', e, _, c1⟩ := h.r.rd.at_ g2; injection e with e; injection e with e1 e2; subst e1; subst e2; exact c1)
  | (obtain ⟨b', o', e, _, c1⟩ := h.r.rd.at_ g3; injection e with e; injection e with e1 e2; subst e1; subst e2; exact c1)
  | (obtain ⟨b', o', e, _, c1⟩ := h.r.rd.at_ g4; injection e with e; injection e with e1 e2; subst e1; subst e2; exact c1)
  | (obtain ⟨b', o', e, _, c1⟩ := h.r.rd.at_ g5; injection e with e; injection e with e1 e2; subst e1; subst e2; exact c1)
end
theorem six {w : World} {g : Nat} {a b c d e f : Value} {t : TypeId} (h : Blk w g #[a, b, c, d, e, f] t) : w.cell? ⟨g, 0, none⟩ = some a ∧ w.cell? ⟨g, 1, none⟩ = some b ∧ w.cell? ⟨g, 2, none⟩ = some c ∧ w.cell? ⟨g, 3, none⟩ = some d ∧ w.cell? ⟨g, 4, none⟩ = some e ∧ w.cell? ⟨g, 5, none⟩ = some f ∧ ∀ i, w.frozen? ⟨g, i, none⟩ = false := ⟨h.cell 0, h.cell 1, h.cell 2, h.cell 3, h.cell 4, h.cell 5, fun i => h.frozen i⟩
theorem key_any (k : ByteArray) (w : World) : Calls Tryz.prog 15 #[.string k] w fun q w' => q = .returned (.bool (decide (keyOk k))) ∧ w' = w := by
 by_cases h0 : 1 ≤ k.size
 ·by_cases h1 : k.size ≤ 250
  ·have HS : Hid (keyOk k) := ⟨h0, h1⟩
   have g0 : (k.size : Int) ≥ 1 := by omega
   have g1 : (k.size : Int) ≤ 250 := by omega
   go_enter Tryz.func15, Tryz.ntmps15
   go_wp2_with fail
   go_ret
   exact ⟨retB (by simp [HS.out]), rfl⟩
  ·have HS : Hid (¬ keyOk k) := fun h => h1 h.2
   have g0 : (k.size : Int) ≥ 1 := by omega
   have g1 : ¬ (k.size : Int) ≤ 250 := by omega
   go_enter Tryz.func15, Tryz.ntmps15
   go_wp2_with fail
   go_ret
   exact ⟨retB (by simp [HS.out]), rfl⟩
 ·have HS : Hid (¬ keyOk k) := fun h => h0 h.1
  have g0 : ¬ (k.size : Int) ≥ 1 := by omega
  go_enter Tryz.func15, Tryz.ntmps15
  go_wp2_with fail
  go_ret
  exact ⟨retB (by simp [HS.out]), rfl⟩
theorem due_any (d n : Int) (w : World) : Calls Tryz.prog 85 #[.int .u64 d, .int .u64 n] w fun e w' => e = .returned (.bool (dueE d n)) ∧ w' = w := by
 by_cases h : d = 18446744073709551615
 ·have HD : Hid (dueE d n = false) := by show _ = _; unfold dueE; simp [h]
  have hb : (d != 18446744073709551615) = false := by simpa using h
  clear h
  go_enter Tryz.func85, Tryz.ntmps85
  go_wp2_with fail
  go_ret
  exact ⟨retB HD.out.symm, rfl⟩
 ·have hb : (d != 18446744073709551615) = true := by simpa using h
  by_cases k : d ≤ n
  ·have HD : Hid (dueE d n = true) := by show _ = _; unfold dueE; simp [h, k]
   clear h
   go_enter Tryz.func85, Tryz.ntmps85
   go_wp2_with fail
   go_ret
   exact ⟨retB (by rw [HD.out]), rfl⟩
  ·have HD : Hid (dueE d n = false) := by show _ = _; unfold dueE; simp [h, k]
   clear h
   go_enter Tryz.func85, Tryz.ntmps85
   go_wp2_with fail
   go_ret
   exact ⟨retB (by rw [HD.out]), rfl⟩
end Go.Proofs.YtlmljhnogmfcfaaGreat.Eb
namespace Go.Proofs.YtlmljhnogmfcfaaGreat.Ec
open Go.RowKit Ap Mi Nw Ea Eb

theorem drawn {w : World} {B : Nat} {v : World} (h : Below B w v) (n : Nat) : Below B w (v.drewN n) := below_drewN h n
theorem Rs_str {w : World} {A : Option Addr} {c : Nat} {l : List ByteArray} (h : Rs w 1 A l.length c (strs l)) {K : Nat} (hk : K < l.length) : ∃ b o, A = some ⟨b, o, none⟩ ∧ b < w.heap.size ∧ w.cell? ⟨b, o + K, none⟩ = some (.string l[K]) :=
 h.rd.at_ (by unfold strs; rw [List.getElem?_map, List.getElem?_eq_getElem hk]; rfl)
theorem str_yes {a b : ByteArray} (h : a = b) : (a.toList == b.toList) = true := by rw [h]; simp
theorem str_no {a b : ByteArray} (h : ¬ a = b) : (a.toList == b.toList) = false := by
 rw [beq_eq_false_iff_ne]
 intro e
 rw [Lib.toList_data, Lib.toList_data] at e
 apply h
 cases a; cases b
 simp only [ByteArray.mk.injEq]
 exact Array.toList_inj.1 e
open Classical in
set_option maxRecDepth 100000 in
theorem tags_any (A : Option Addr) (c : Nat) (l : List ByteArray) (w : World) (hl : Rs w 1 A l.length c (strs l)) (hn : l.length ≤ 1000) :
  Calls Tryz.prog 56 #[.slice A l.length c] w (vPost w (.bool (decide (okT l)))) := by
 have HS := Lib.hid hl
 have hcap := Rs.max hl
 unfold maxLen at hcap
 unfold vPost
 clear hl
 have HAT : Hid (∀ wr, Below w.heap.size w wr → ∀ K (h : K < l.length), ∃ b o, A = some ⟨b, o, none⟩ ∧ b < wr.heap.size ∧ wr.cell? ⟨b, o + K, none⟩ = some (.string l[K])) := fun wr hb K h => Rs_str (HS.out.below hb (Nat.le_refl _)) h
 have HN : Hid (¬ good l l.length → decide (okT l) = false) := fun h => decide_eq_false (fun g => h g.2)
 have HG : Hid (good l l.length → decide (okT l) = decide ((l.length : Int) ≤ 16)) := fun h => by
  rw [decide_eq_decide]; exact ⟨fun g => by have := g.1; omega, fun g => ⟨by omega, h⟩⟩
 obtain ⟨z, hz⟩ : ∃ z, z = decide (okT l) := ⟨_, rfl⟩
 rw [← hz] at HN HG ⊢
 clear hz
 go_enter Tryz.func56, Tryz.ntmps56
 go_wp2_with fail
 go_loopw [3] (fun i wr => ∃ K : Nat, K ≤ l.length ∧ i = .int .i64 (K : Int) ∧ Hid (good l K) ∧ Below w.heap.size w wr) (fun i _ => l.length - (intOf i).toNat)
 case atStart => exact ⟨0, Nat.zero_le _, rfl, good_zero _, Below.refl _ _⟩
 case round =>
  obtain ⟨K, hK, rfl, GK, hb⟩ := hrel
  have HBW := Lib.hid hb
  clear hb
  by_cases hlt : K < l.length
  ·have j1 : (K : Int) < (l.length : Int) := by omega
   obtain ⟨b, o, rfl, lb, a0⟩ := HAT.out wr HBW.out K hlt
   obtain ⟨t, ht⟩ : ∃ t, t = l[K] := ⟨_, rfl⟩
   have HT := Lib.hid ht
   rw [← ht] at a0
   clear ht
   have HNO : Hid (¬ tagOk t → z = false) := fun h => HN.out (fun g => h (by rw [HT.out]; exact (g K hlt hlt).1))
   by_cases t0 : t.size < 1
   ·have d0 : decide ((t.size : Int) < 1) = true := by simp; omega
    have HZ := Lib.hid (HNO.out (fun g => by have := g.1; omega))
    clear t0
    go_wp2_with fail
    go_quiet (fail)
    go_wp2_with fail
    go_ret
    exact ⟨retB (by rw [HZ.out]), drawn HBW.out _⟩
   have d0 : decide ((t.size : Int) < 1) = false := by simp; omega
   by_cases t1 : 64 < t.size
   ·have d1 : decide ((64 : Int) < (t.size : Int)) = true := by simp; omega
    have d1n : decide (64 < t.size) = true := by simp; omega
    have HZ := Lib.hid (HNO.out (fun g => by have := g.2; omega))
    clear t0 t1
    go_wp2_with fail
    go_quiet (fail)
    go_wp2_with fail
    go_ret
    exact ⟨retB (by rw [HZ.out]), drawn HBW.out _⟩
   have d1 : decide ((64 : Int) < (t.size : Int)) = false := by simp; omega
   have d1n : decide (64 < t.size) = false := by simp; omega
   have hto : tagOk t := ⟨by omega, by omega⟩
   have HTO := Lib.hid hto
   clear hto t0 t1
   by_cases h0 : 0 < K
   ·obtain ⟨b', o', e, _, a1⟩ := HAT.out wr HBW.out (K - 1) (by omega)
    injection e with e; injection e with e1 e2
    subst e1; subst e2
    obtain ⟨p, hp⟩ : ∃ p, p = l[K - 1] := ⟨_, rfl⟩
    have HP := Lib.hid hp
    rw [← hp] at a1
    have hw : ((K : Int) - 1) = ((K - 1 : Nat) : Int) := by omega
    have hgt : decide ((0 : Int) < (K : Int)) = true := by simp; omega
    have hgt2 : decide (0 < K) = true := by simp; omega
    clear hp
    by_cases hless : Op.bytesLess p.toList t.toList = true
    ·have GK2 : Hid (good l (K + 1)) := good_succ hlt GK.out (by rw [← HT.out]; exact HTO.out) (fun _ => by rw [← HT.out, ← HP.out]; exact hless)
     have hl2 : (!Op.bytesLess p.toList t.toList) = false := by rw [hless]; rfl
     clear hless
     go_wp2_with fail
     go_quiet (fail)
     go_wp2_with fail
     go_roundw
     case rel => exact ⟨K + 1, by omega, by go_num, GK2.out, drawn HBW.out _⟩
     case measure => simp [intOf]; omega
    ·have HZ := Lib.hid (HN.out (fun g => hless (by rw [HT.out, HP.out]; exact (g K hlt hlt).2 h0)))
     have hl2 : (!Op.bytesLess p.toList t.toList) = true := by simpa using hless
     clear hless
     go_wp2_with fail
     go_quiet (fail)
     go_wp2_with fail
     go_ret
     exact ⟨retB (by rw [HZ.out]), drawn HBW.out _⟩
   ·have GK2 : Hid (good l (K + 1)) := good_succ hlt GK.out (by rw [← HT.out]; exact HTO.out) (fun h => absurd h h0)
    have hgt : decide ((0 : Int) < (K : Int)) = false := by simp; omega
    have hgt2 : decide (0 < K) = false := by simp; omega
    clear h0
    go_wp2_with fail
    go_quiet (fail)
    go_wp2_with fail
    go_roundw
    case rel => exact ⟨K + 1, by omega, by go_num, GK2.out, drawn HBW.out _⟩
    case measure => simp [intOf]; omega
  ·obtain rfl : K = l.length := by omega
   have hnn : ¬ (l.length : Int) < l.length := by omega
   have HZ := Lib.hid (HG.out GK.out)
   clear hlt
   go_wp2_with fail
   go_ret
   exact ⟨retB (by rw [HZ.out]), HBW.out⟩
theorem em_new (w : World) (x : Em) (t : TypeId) : Blk (w.alloc (.cells (emA x) t)) w.heap.size (emA x) t := Blk.new w _ _
set_option maxRecDepth 100000 in
theorem cost_any {G : Nat → Prop} (x : Em) (w : World) (hx : RE G w x) :
  Calls Tryz.prog 24 #[emV x] w (vPost w (.int .i64 (cost x.e : Int))) := by
 have HX := Lib.hid hx
 have hcap := Rs.max hx.t
 unfold maxLen at hcap
 have hk1 := hx.f.k; have hv1 := hx.f.v; have ht1 := hx.f.t
 have HSB : Hid (∀ K, K ≤ x.e.t.length → sumT x.e.t K ≤ 1000000000) := fun K hK => by
  have h1 := sumT_bound hx.f.e hK
  have : K * 1000000 ≤ 1000 * 1000000 := Nat.mul_le_mul_right _ (by have := hx.f.t; omega)
  omega
 have HC : Hid ((cost x.e : Int) = (x.e.k.size : Int) + (x.e.v.length : Int) + 64 + (sumT x.e.t x.e.t.length : Int)) := by show _ = _; unfold cost; omega
 obtain ⟨v0, hv0⟩ : ∃ v0, v0 = w.alloc (.cells (emA x) 42) := ⟨_, rfl⟩
 have HB0 : Hid (Below w.heap.size w v0) := by show Below _ _ _; rw [hv0]; exact bnew _ _
 have HK0 : Hid (Blk v0 w.heap.size (emA x) 42) := by show Blk _ _ _ _; rw [hv0]; exact em_new w x _
 have HAT : Hid (∀ K (h : K < x.e.t.length), ∃ b o, x.B = some ⟨b, o, none⟩ ∧ b < v0.heap.size ∧ v0.cell? ⟨b, o + K, none⟩ = some (.string x.e.t[K])) := fun K h => Rs_str (HX.out.t.below HB0.out (Nat.le_refl _)) h
 unfold emA at hv0 HK0
 obtain ⟨x0, x1, x2, _, _, _, _⟩ := six HK0.out
 have lg := HK0.out.lt
 unfold vPost emV
 clear hx
 obtain ⟨cv, hcv⟩ : ∃ z : Int, z = (cost x.e : Int) := ⟨_, rfl⟩
 rw [← hcv] at HC ⊢
 clear hcv
 go_enter Tryz.func24, Tryz.ntmps24
 go_upto_region 1 with fail
 rw [← hv0]
 clear hv0
 go_wp2_with fail
 go_loopw [3, 4] (fun s i wr => ∃ K : Nat, K ≤ x.e.t.length ∧ i = .int .i64 (K : Int) ∧ s = .int .i64 ((x.e.k.size : Int) + (x.e.v.length : Int) + 64 + (sumT x.e.t K : Int)) ∧ wr = v0) (fun _ i _ => x.e.t.length - (intOf i).toNat)
 case atStart => exact ⟨0, Nat.zero_le _, rfl, by rw [sumT_zero]; simp, rfl⟩
 case round =>
  obtain ⟨K, hK, rfl, rfl, rfl⟩ := hrel
  have hsum := HSB.out K hK
  obtain ⟨sk, hsk⟩ : ∃ z, z = sumT x.e.t K := ⟨_, rfl⟩
  have HSK := Lib.hid hsk
  rw [← hsk] at hsum ⊢
  clear hsk
  by_cases hlt : K < x.e.t.length
  ·have j1 : (K : Int) < (x.e.t.length : Int) := by omega
   obtain ⟨b, o, eB, lb, a0⟩ := HAT.out K hlt
   rw [eB] at x2
   obtain ⟨t, ht⟩ : ∃ t, t = x.e.t[K] := ⟨_, rfl⟩
   have HT := Lib.hid ht
   have hts : t.size ≤ 1000000 := by rw [ht]; exact HX.out.f.e _ (List.getElem_mem hlt)
   rw [← ht] at a0
   clear ht eB
   go_wp2_with fail
   go_roundw
   case rel => exact ⟨K + 1, by omega, by go_num, by rw [sumT_succ hlt, ← HSK.out, ← HT.out]; go_num, trivial⟩
   case measure => simp [intOf]; omega
  ·obtain rfl : K = x.e.t.length := by omega
   have hnn : ¬ (x.e.t.length : Int) < x.e.t.length := by omega
   clear hlt
   go_wp2_with fail
   go_ret
   exact ⟨retI (by rw [HC.out, HSK.out]), HB0.out⟩
set_option maxRecDepth 100000 in
theorem used_any {G : Nat → Prop} (A : Option Addr) (c : Nat) (l : List Em) (w : World) (hl : RL G w A c l) (hn : l.length ≤ 1000) :
  Calls Tryz.prog 39 #[.slice A l.length c] w (vPost w (.int .i64 (used (l.map Em.e) : Int))) := by
 have HL := Lib.hid hl
 have hcap := Rs.max hl.r
 unfold maxLen at hcap
 unfold vPost
 have HSB : Hid (∀ K, K ≤ l.length → used ((l.map Em.e).take K) ≤ 2000000000000) := fun K hK => by
  have h1 := used_le (l := (l.map Em.e).take K) (fun y hy => by obtain ⟨z, hz, rfl⟩ := List.mem_map.1 (List.mem_of_mem_take hy); exact hl.fits z hz)
  rw [List.length_take, List.length_map] at h1
  have : min K l.length * 2000000000 ≤ 1000 * 2000000000 := Nat.mul_le_mul_right _ (by omega)
  omega
 have HU : Hid (∀ K (h : K < l.length), used ((l.map Em.e).take (K + 1)) = used ((l.map Em.e).take K) + cost l[K].e) := fun K h => by
  rw [used_take (by rw [List.length_map]; exact h)]; simp
 have HF : Hid (used ((l.map Em.e).take l.length) = used (l.map Em.e)) := by show _ = _; rw [List.take_of_length_le (by simp)]
 have HAT : Hid (∀ wr, Below w.heap.size w wr → ∀ K (h : K < l.length), RE G wr l[K] ∧ ∃ b o, A = some ⟨b, o, none⟩ ∧ b < wr.heap.size ∧ _) := fun wr hb K h => ⟨(hl.e _ (List.getElem_mem h)).below hb (Nat.le_refl _), (hl.below hb (Nat.le_refl _)).at_ h⟩
 have HZ : Hid (used ((l.map Em.e).take 0) = 0) := rfl
 obtain ⟨U, hU⟩ : ∃ U : Nat → Nat, U = fun K => used ((l.map Em.e).take K) := ⟨_, rfl⟩
 replace HSB : Hid (∀ K, K ≤ l.length → U K ≤ 2000000000000) := by show ∀ K, _ → _; rw [hU]; exact HSB.out
 replace HU : Hid (∀ K (h : K < l.length), U (K + 1) = U K + cost l[K].e) := by show ∀ K h, _; rw [hU]; exact HU.out
 replace HF : Hid (U l.length = used (l.map Em.e)) := by show _ = _; rw [hU]; exact HF.out
 replace HZ : Hid (U 0 = 0) := by show _ = _; rw [hU]; exact HZ.out
 clear hl hU
 go_enter Tryz.func39, Tryz.ntmps39
 go_wp2_with fail
 go_loopw [3, 4] (fun s i wr => ∃ K : Nat, K ≤ l.length ∧ i = .int .i64 (K : Int) ∧ s = .int .i64 (U K : Int) ∧ Below w.heap.size w wr) (fun _ i _ => l.length - (intOf i).toNat)
 case atStart => exact ⟨0, Nat.zero_le _, rfl, by rw [HZ.out]; rfl, Below.refl _ _⟩
 case round =>
  obtain ⟨K, hK, rfl, rfl, hb⟩ := hrel
  have HBW := Lib.hid hb
  have hsum := HSB.out K hK
  clear hb
  by_cases hlt : K < l.length
  ·have j1 : (K : Int) < (l.length : Int) := by omega
   have hs2 := HSB.out (K + 1) (by omega)
   have hs3 := HU.out K hlt
   obtain ⟨hre, b, o, rfl, lb, a0, a1, a2, a3, a4, a5⟩ := HAT.out wr HBW.out K hlt
   obtain ⟨x, hx⟩ : ∃ x, x = l[K] := ⟨_, rfl⟩
   have HX := Lib.hid hx
   rw [← hx] at a0 a1 a2 a3 a4 a5 hre hs3
   have HCO := Lib.hid (cost_any x wr hre)
   obtain ⟨cx, hcx⟩ : ∃ cx, cx = cost x.e := ⟨_, rfl⟩
   rw [← hcx] at HCO hs3
   have HS3 := Lib.hid hs3
   have hs4 : U K + cx ≤ 2000000000000 := by omega
   unfold emV vPost at HCO
   clear hx hcx hs3 hs2 hre
   go_wp2_with fail
   refine HCO.out.mono ?_
   rintro q w2 ⟨rfl, hb⟩
   have HB2 := Lib.hid (HBW.out.trans (hb.mono HBW.out.size))
   clear hb
   go_wp2_with fail
   go_roundw
   case rel => exact ⟨K + 1, by omega, by go_num, by rw [HS3.out]; go_num, HB2.out⟩
   case measure => simp [intOf]; omega
  ·obtain rfl : K = l.length := by omega
   have hnn : ¬ (l.length : Int) < l.length := by omega
   clear hlt
   go_wp2_with fail
   go_ret
   exact ⟨retI (by rw [HF.out]), HBW.out⟩
def fndI : Option Nat → Int
 | some i => (i : Int)
 | none => -1
set_option maxRecDepth 100000 in
theorem find_any {G : Nat → Prop} (A : Option Addr) (c : Nat) (l : List Em) (k : ByteArray) (w : World) (hl : RL G w A c l) (hn : l.length ≤ 1000) :
  Calls Tryz.prog 57 #[.slice A l.length c, .string k] w fun q w' => q = .returned (.int .i64 (fndI (fnd Em.e l k))) ∧ w' = w := by
 have HL := Lib.hid hl
 have hcap := Rs.max hl.r
 unfold maxLen at hcap
 have HAT : Hid (∀ K (h : K < l.length), ∃ b o, A = some ⟨b, o, none⟩ ∧ b < w.heap.size ∧ w.cell? ⟨b, o + K * 6, none⟩ = some (.string l[K].e.k)) := fun K h => by
  obtain ⟨b, o, e, hb, h0, _⟩ := hl.at_ h; exact ⟨b, o, e, hb, h0⟩
 have HY : Hid (∀ K (h : K < l.length), (∀ i (hi : i < l.length), i < K → l[i].e.k ≠ k) → l[K].e.k = k → fndI (fnd Em.e l k) = (K : Int)) := fun K h h1 h2 => by rw [fnd_at Em.e h h1 h2]; rfl
 have HNO : Hid ((∀ i (hi : i < l.length), l[i].e.k ≠ k) → fndI (fnd Em.e l k) = -1) := fun h1 => by rw [fnd_no Em.e h1]; rfl
 obtain ⟨r, hr⟩ : ∃ r, r = fndI (fnd Em.e l k) := ⟨_, rfl⟩
 rw [← hr] at HY HNO ⊢
 clear hl hr
 go_enter Tryz.func57, Tryz.ntmps57
 go_wp2_with fail
 go_loopw [5] (fun i wr => ∃ K : Nat, K ≤ l.length ∧ i = .int .i64 (K : Int) ∧ Hid (∀ i (hi : i < l.length), i < K → l[i].e.k ≠ k) ∧ wr = w) (fun i _ => l.length - (intOf i).toNat)
 case atStart => exact ⟨0, Nat.zero_le _, rfl, (fun i _ hi => by omega), rfl⟩
 case round =>
  obtain ⟨K, hK, rfl, HP, rfl⟩ := hrel
  by_cases hlt : K < l.length
  ·have j1 : (K : Int) < (l.length : Int) := by omega
   obtain ⟨b, o, rfl, lb, a0⟩ := HAT.out K hlt
   obtain ⟨t, ht⟩ : ∃ t, t = l[K].e.k := ⟨_, rfl⟩
   have HT := Lib.hid ht
   rw [← ht] at a0
   clear ht
   by_cases heq : t = k
   ·have HR := Lib.hid (HY.out K hlt HP.out (by rw [← HT.out]; exact heq))
    have hee := str_yes heq
    clear heq
    go_wp2_with fail
    go_ret
    exact ⟨retI HR.out.symm, rfl⟩
   ·have HP2 : Hid (∀ i (hi : i < l.length), i < K + 1 → l[i].e.k ≠ k) := fun i hi hiK => by
     by_cases e : i = K
     ·subst e; rw [← HT.out]; exact heq
     ·exact HP.out i hi (by omega)
    have hee := str_no heq
    clear heq
    go_wp2_with fail
    go_roundw
    case rel => exact ⟨K + 1, by omega, by go_num, HP2, trivial⟩
    case measure => simp [intOf]; omega
  ·obtain rfl : K = l.length := by omega
   have hnn : ¬ (l.length : Int) < l.length := by omega
   have HR := Lib.hid (HNO.out (fun i hi => HP.out i hi hi))
   clear hlt
   go_wp2_with fail
   go_ret
   exact ⟨retI HR.out.symm, rfl⟩
end Go.Proofs.YtlmljhnogmfcfaaGreat.Ec
namespace Go.Proofs.YtlmljhnogmfcfaaGreat.Ed
open Go.RowKit Ap Mi Nw Ea Eb Ec

theorem elB : Elm Tryz.prog 38 5 (.int .u8 0) 1 where
 sl := Tryz.underlying38
 info := by kernel_rfl
 small := by
  have h : (Tryz.prog.info? 5).map (·.bytes) = some 1 := by kernel_rfl
  intro i hi; rw [hi] at h; simp at h; omega
 cells := rfl
 pos := by omega
theorem elS : Elm Tryz.prog 39 9 (.string ⟨#[]⟩) 1 where
 sl := Tryz.underlying39
 info := by kernel_rfl
 small := by
  have h : (Tryz.prog.info? 9).map (·.bytes) = some 16 := by kernel_rfl
  intro i hi; rw [hi] at h; simp at h; omega
 cells := rfl
 pos := by omega
theorem elE : Elm Tryz.prog 30 42 (.agg #[.string ⟨#[]⟩, .slice none 0 0, .slice none 0 0, .int .u64 0, .int .u64 0, .int .u64 0]) 6 where
 sl := Tryz.underlying30
 info := by kernel_rfl
 small := by
  have h : (Tryz.prog.info? 42).map (·.bytes) = some 88 := by kernel_rfl
  intro i hi; rw [hi] at h; simp at h; omega
 cells := rfl
 pos := by omega
section
variable {P : Program}
theorem run_new {t e : TypeId} {z : Value} {sz : Nat} (hel : Elm P t e z sz) (tx ty : TypeId) {w : World}
  (x : Value) (m : Nat) (news : List Value) (hs : Src P sz tx x m news w) (hm : m ≤ 1000000000) :
  ∃ A c w', (Builtin.append_ #[t, tx] ty #[.slice none 0 0, x]).run P w = .ok (.slice A m c) w' ∧ w'.ownsRow w.heap.size e sz (.slice A m c) m news ∧ w.grownBy w' none := by
 have hi := hel.info
 rw [Option.map_eq_some_iff] at hi
 obtain ⟨i, hi1, hi2⟩ := hi
 simp only [Prod.mk.injEq] at hi2
 obtain ⟨hz, hsz⟩ := hi2
 have hb := hel.small i hi1
 subst hsz
 have hmul : (0 + m) * i.bytes ≤ 2000000000 * 1024 := Nat.mul_le_mul (by omega) hb
 by_cases hm0 : m = 0
 ·subst hm0
  obtain rfl : news = [] := List.eq_nil_of_length_eq_zero (by simpa using hs.newsLen)
  have hr := run_append_nothing (P := P) w t tx ty e i hel.sl hi1 none 0 0 (Nat.le_refl _) x hs
  exact ⟨none, 0, w, hr, World.ownsRow_nil _ _ _ _, World.grownBy.refl w _⟩
 ·have hold : (Builtin.firstCells i.size 0 (.slice none 0 0)).run P w.drew = .ok ([] : List Value).toArray w.drew := run_firstCells_none w.drew i.size 0 0 0
  have hge := grownCap_ge w (0 + m) 0 e
  have hcm : grownCap w (0 + m) 0 e ≤ maxLen := grownCap_le_maxLen w (0 + m) 0 e (by unfold maxLen; omega)
  have hr := run_append_grow_src (P := P) w t tx ty e i z hel.sl hi1 hz none 0 0 [] hold x m news hs (by omega) (by omega) (growslice_fits (by omega) (by omega))
  have hlen : news.length = m * i.size := hs.newsLen
  simp only [Nat.zero_add, List.nil_append] at hr hge hcm
  refine ⟨some ⟨w.heap.size, 0, none⟩, grownCap w m 0 e, _, hr, ?_, ⟨rfl, rfl, rfl, by simp, fun k hk _ => heap_alloc_old w.drew _ (by simpa using hk)⟩⟩
  refine ⟨hlen, .inr ⟨w.heap.size, _, _, rfl, Nat.le_refl _, heap_alloc_new w.drew _, hge, hcm, ?_, ?_⟩⟩
  ·simp only [Array.size_append, List.size_toArray, size_zeroCells, hel.cells, hlen, ← Nat.add_mul]
   congr 1
   omega
  ·simp only [Array.toList_append, ← hlen]
   exact List.take_left
theorem wpList_new {ops : Array Oper} {rest : List Oper} {o : Oper} {a : Act} {Q : Exit → Act → World → Prop} (hgd : o.guard = none) (s x : Operand) {t e : TypeId} {z : Value} {sz : Nat} (hel : Elm P t e z sz) (tx : TypeId)
  (ho : o.op = .call { callee := .builtin .append, args := #[s, x], argTypes := #[t, tx] })
  {w : World} (hs : a.eval s = .slice none 0 0)
  (v : Value) (hx : a.eval x = v) (m : Nat) (news : List Value) (hsrc : Src P sz tx v m news w) (hm : m ≤ 1000000000)
  (hK : ∀ A' c' w', w'.ownsRow w.heap.size e sz (.slice A' m c') m news → w.grownBy w' none → wpList P ops Q rest (a.put o.dst (.slice A' m c')) w') :
  wpList P ops Q (o :: rest) a w :=
 wpList_plain hgd fun _ hK' => by
  obtain ⟨A', c', w', hr, h1, h2⟩ := run_new (P := P) hel tx o.type v m news hsrc hm
  unfold Oper.wp execOp
  simp only [ho, resolve, invoke, builtin, Sem.run_bind, Sem.run_pure, Result.andThen_ok, List.map_toArray, List.map_cons, List.map_nil, hs, hx, hr]
  exact hK' _ _ (hK A' c' w' h1 h2)
end
theorem below_of_grown {w w' : World} {row : Option Nat} {B : Nat} (h : w.grownBy w' row) (hB : B ≤ w.heap.size) (hr : ∀ k, row = some k → B ≤ k) : Below B w w' := (Below.refl B w).grown h hB hr
theorem fresh {w w' : World} (h : w.grownBy w' none) : Below w.heap.size w w' := below_of_grown h (Nat.le_refl _) (fun k e => by cases e)
theorem byV_one (v : List UInt8) : ∀ u ∈ byV v, u.oneCell' = true := by intro u hu; obtain ⟨y, _, rfl⟩ := List.mem_map.1 hu; rfl
theorem strs_one (v : List ByteArray) : ∀ u ∈ strs v, u.oneCell' = true := by intro u hu; obtain ⟨y, _, rfl⟩ := List.mem_map.1 hu; rfl
theorem own_rs {B sz n c : Nat} {w : World} {e : TypeId} {A : Option Addr} {xs : List Value} (h : w.ownsRow B e sz (.slice A n c) n xs) : Rs w sz A n c xs ∧ (∀ a, A = some a → B ≤ a.block) := by
 obtain ⟨A', c', e1, hm, _⟩ := Mine.of_own h
 injection e1 with e1 e2 e3
 subst e1; subst e3
 exact ⟨Rs.mine hm, fun a ha => (hm.base ha).1⟩
theorem own_keep {B sz n : Nat} {w w' : World} {e : TypeId} {v : Value} {xs : List Value} (h : w.ownsRow B e sz v n xs) {F : Nat → Prop} (ho : Only F w w') (hn : ∀ j, v.ownBlock = some j → ¬ F j) : w'.ownsRow B e sz v n xs := by
 refine ⟨h.1, ?_⟩
 rcases h.2 with h2 | ⟨g, cap, cur, hv, hB, hg, r⟩
 ·exact Or.inl h2
 ·exact Or.inr ⟨g, cap, cur, hv, hB, (ho.block g (Array.getElem?_eq_some_iff.1 hg).1 (hn g (by rw [hv]; rfl))).trans hg, r⟩
theorem own_keepB {B sz n : Nat} {w w' : World} {e : TypeId} {v : Value} {xs : List Value} (h : w.ownsRow B e sz v n xs) (hb : Below w.heap.size w w') : w'.ownsRow B e sz v n xs :=
 own_keep h (Only.of_below hb (Nat.le_refl _) (fun _ => False)) (fun _ _ hf => hf)
structure OwE (B : Nat) (w : World) (x : Em) : Prop where
 f : Fit x.e
 v : w.ownsRow B 5 1 (.slice x.A x.e.v.length x.a) x.e.v.length (byV x.e.v)
 t : w.ownsRow B 9 1 (.slice x.B x.e.t.length x.b) x.e.t.length (strs x.e.t)
theorem own_base {B B' sz n : Nat} {w : World} {e : TypeId} {v : Value} {xs : List Value} (h : w.ownsRow B e sz v n xs) (hB : B' ≤ B) : w.ownsRow B' e sz v n xs := by
 refine ⟨h.1, ?_⟩
 rcases h.2 with h2 | ⟨g, cap, cur, hv, hb, r⟩
 ·exact Or.inl h2
 ·exact Or.inr ⟨g, cap, cur, hv, Nat.le_trans hB hb, r⟩
theorem OwE.base {B B' : Nat} {w : World} {x : Em} (h : OwE B w x) (hB : B' ≤ B) : OwE B' w x := ⟨h.f, own_base h.v hB, own_base h.t hB⟩
theorem OwE.below {B : Nat} {w w' : World} {x : Em} (h : OwE B w x) (hb : Below w.heap.size w w') : OwE B w' x := ⟨h.f, own_keepB h.v hb, own_keepB h.t hb⟩
theorem OwE.only {B : Nat} {w w' : World} {x : Em} (h : OwE B w x) {F : Nat → Prop} (ho : Only F w w') (hn : ∀ j, F j → ¬ B ≤ j) : OwE B w' x :=
 ⟨h.f, own_keep h.v ho (fun j e hf => hn j hf (by
  obtain ⟨A, c, e1, hm, ha⟩ := Mine.of_own h.v
  injection e1 with e1 e2 e3; subst e1; subst e3
  cases hA : x.A with
  | none => rw [hA] at e; cases e
  | some a => have := (hm.base hA).1; rw [hA] at e; cases e; exact this)), own_keep h.t ho (fun j e hf => hn j hf (by
  obtain ⟨A, c, e1, hm, ha⟩ := Mine.of_own h.t
  injection e1 with e1 e2 e3; subst e1; subst e3
  cases hA : x.B with
  | none => rw [hA] at e; cases e
  | some a => have := (hm.base hA).1; rw [hA] at e; cases e; exact this))⟩
theorem OwE.re {B : Nat} {w : World} {x : Em} (h : OwE B w x) : RE (fun j => B ≤ j) w x :=
 ⟨h.f, (own_rs h.v).1, (own_rs h.t).1, (own_rs h.v).2, (own_rs h.t).2⟩
theorem OwE.zero (B : Nat) (w : World) : OwE B w zeroM := ⟨Fit.zero, World.ownsRow_nil _ _ _ _, World.ownsRow_nil _ _ _ _⟩
def put6 (w : World) (r : Nat) (a b c d e f : Value) : World := (((((w.setCell ⟨r, 0, none⟩ a).setCell ⟨r, 1, none⟩ b).setCell ⟨r, 2, none⟩ c).setCell ⟨r, 3, none⟩ d).setCell ⟨r, 4, none⟩ e).setCell ⟨r, 5, none⟩ f
theorem put6_blk {w : World} {r : Nat} {p q x y z u : Value} {t : TypeId} (h : Blk w r #[p, q, x, y, z, u] t) (a b c d e f : Value) : Blk (put6 w r a b c d e f) r #[a, b, c, d, e, f] t :=
 (((((h.set 0 a).set 1 b).set 2 c).set 3 d).set 4 e).set 5 f
theorem put6_only (w : World) (r : Nat) (a b c d e f : Value) : Only (fun j => j = r) w (put6 w r a b c d e f) :=
 ((((((Only.refl (fun j => j = r) w).put (ad := ⟨r, 0, none⟩) rfl a).put (ad := ⟨r, 1, none⟩) rfl b).put (ad := ⟨r, 2, none⟩) rfl c).put (ad := ⟨r, 3, none⟩) rfl d).put (ad := ⟨r, 4, none⟩) rfl e).put (ad := ⟨r, 5, none⟩) rfl f
def zA : Array Value := #[.string ⟨#[]⟩, .slice none 0 0, .slice none 0 0, .int .u64 0, .int .u64 0, .int .u64 0]
def copyPost (w : World) (x : En) : Ending → World → Prop := fun q w' => ∃ y : Em, y.e = x ∧ q = .returned (emV y) ∧ OwE w.heap.size w' y ∧ Below w.heap.size w w'
set_option maxRecDepth 100000 in
theorem copy_any {G : Nat → Prop} (x : Em) (w : World) (hx : RE G w x) :
  Calls Tryz.prog 49 #[emV x] w (copyPost w x.e) := by
 have HX := Lib.hid hx
 obtain ⟨v0, hv0⟩ : ∃ v0, v0 = (w.alloc (.cells (emA x) 42)).alloc (.cells zA 42) := ⟨_, rfl⟩
 have HB0 : Hid (Below w.heap.size w v0) := by show Below _ _ _; rw [hv0]; exact (bnew _ _).alloc (by simp) _
 have HK0 : Hid (Blk v0 w.heap.size (emA x) 42) := by show Blk _ _ _ _; rw [hv0]; exact (Blk.new w _ _).below (bnew _ _) (by simp)
 have HR0 : Hid (Blk v0 (w.heap.size + 1) zA 42) := by
  show Blk _ _ _ _; rw [hv0]
  have := Blk.new (w.alloc (.cells (emA x) 42)) zA 42
  simpa using this
 have hsz : v0.heap.size = w.heap.size + 2 := by rw [hv0]; simp
 have HSZ := Lib.hid hsz
 have HSV := Lib.hid ((hx.v.below HB0.out (Nat.le_refl _)).src Tryz.underlying38 (by omega) (byV_one _))
 unfold emA zA at hv0
 unfold emA at HK0
 obtain ⟨x0, x1, x2, x3, x4, x5, xf⟩ := six HK0.out
 have lg := HK0.out.lt
 have hvl := hx.f.v
 have htl := hx.f.t
 unfold emV
 clear hx hsz
 go_enter Tryz.func49, Tryz.ntmps49
 go_upto_region 1 with fail
 rw [← hv0]
 clear hv0
 go_wp2_with (at_builtin; (refine wpList_new rfl _ _ elB _ rfl rfl _ rfl x.e.v.length _ HSV.out (by omega) ?_))
 intro A1 c1 w1 o1 g1
 have HO1 := Lib.hid o1
 have HB1 : Hid (Below v0.heap.size v0 w1) := fresh g1
 have HK1 := Lib.hid (HK0.out.below HB1.out lg)
 unfold emA at HK1
 obtain ⟨y0, y1, y2, y3, y4, y5, yf⟩ := six HK1.out
 have f1 := yf 1
 have lg1 := HK1.out.lt
 clear o1 g1 x0 x1 x2 x3 x4 x5 xf yf
 go_upto_region 2 with fail
 obtain ⟨v2, hv2⟩ : ∃ v2, v2 = w1.setCell ⟨w.heap.size, 1, none⟩ (.slice A1 x.e.v.length c1) := ⟨_, rfl⟩
 have HP2 : Hid (Only (fun j => j = w.heap.size) w1 v2) := by show Only _ _ _; rw [hv2]; exact only_own (F := fun j => j = w.heap.size) rfl _
 have HK2 : Hid (Blk v2 w.heap.size #[.string x.e.k, .slice A1 x.e.v.length c1, .slice x.B x.e.t.length x.b, .int .u64 x.e.d, .int .u64 x.e.n, .int .u64 x.e.s] 42) := by
  show Blk _ _ _ _; rw [hv2]; exact HK1.out.set 1 _
 rw [← hv2]
 clear hv2 y0 y1 y2 y3 y4 y5 f1
 have HBV2 : Hid (Below w.heap.size w v2) := (HB0.out.trans (HB1.out.mono HB0.out.size)).trans (HP2.out.below (fun j hj => by rw [hj]; exact Nat.le_refl _) (Nat.le_trans HB0.out.size HB1.out.size))
 have HR2 : Hid (Blk v2 (w.heap.size + 1) zA 42) := (HR0.out.below HB1.out HR0.out.lt).only HP2.out (by omega)
 have HO2 : Hid (v2.ownsRow (w.heap.size + 2) 5 1 (.slice A1 x.e.v.length c1) x.e.v.length (byV x.e.v)) := by
  show World.ownsRow _ _ _ _ _ _ _
  have := HO1.out
  rw [HSZ.out] at this
  exact own_keep this HP2.out (fun j e => by have h9 := (this.lt j e).1; omega)
 have HSS := Lib.hid ((HX.out.t.below HBV2.out (Nat.le_refl _)).src Tryz.underlying39 (by omega) (strs_one _))
 obtain ⟨x0, x1, x2, x3, x4, x5, xf⟩ := six HK2.out
 have lg2 := HK2.out.lt
 go_wp2_with (at_builtin; (refine wpList_new rfl _ _ elS _ rfl rfl _ rfl x.e.t.length _ HSS.out (by omega) ?_))
 intro A3 c3 w3 o3 g3
 have HO3 := Lib.hid o3
 have HB3 : Hid (Below v2.heap.size v2 w3) := fresh g3
 have HK3 := Lib.hid (HK2.out.below HB3.out lg2)
 have HR3 := Lib.hid (HR2.out.below HB3.out HR2.out.lt)
 obtain ⟨y0, y1, y2, y3, y4, y5, yf⟩ := six HK3.out
 have f2 := yf 2
 have lg3 := HK3.out.lt
 clear o3 g3 x0 x1 x2 x3 x4 x5 xf yf
 go_upto_region 3 with fail
 obtain ⟨v4, hv4⟩ : ∃ v4, v4 = w3.setCell ⟨w.heap.size, 2, none⟩ (.slice A3 x.e.t.length c3) := ⟨_, rfl⟩
 have HP4 : Hid (Only (fun j => j = w.heap.size) w3 v4) := by show Only _ _ _; rw [hv4]; exact only_own (F := fun j => j = w.heap.size) rfl _
 have HK4 : Hid (Blk v4 w.heap.size #[.string x.e.k, .slice A1 x.e.v.length c1, .slice A3 x.e.t.length c3, .int .u64 x.e.d, .int .u64 x.e.n, .int .u64 x.e.s] 42) := by
  show Blk _ _ _ _; rw [hv4]; exact HK3.out.set 2 _
 rw [← hv4]
 clear hv4 y0 y1 y2 y3 y4 y5 f2
 have HBV4 : Hid (Below w.heap.size w v4) := (HBV2.out.trans (HB3.out.mono HBV2.out.size)).trans (HP4.out.below (fun j hj => by rw [hj]; exact Nat.le_refl _) (Nat.le_trans HBV2.out.size HB3.out.size))
 have HR4 : Hid (Blk v4 (w.heap.size + 1) zA 42) := HR3.out.only HP4.out (by omega)
 have HO4 : Hid (v4.ownsRow (w.heap.size + 2) 5 1 (.slice A1 x.e.v.length c1) x.e.v.length (byV x.e.v)) :=
  own_keep (own_keepB HO2.out HB3.out) HP4.out (fun j e => by have h9 := (HO2.out.lt j e).1; omega)
 have HO5 : Hid (v4.ownsRow (w.heap.size + 2) 9 1 (.slice A3 x.e.t.length c3) x.e.t.length (strs x.e.t)) :=
  own_base (own_keep HO3.out HP4.out (fun j e => by have h9 := (HO3.out.lt j e).1; omega)) (by have := HR2.out.lt; omega)
 have HRZ := HR4.out
 unfold zA at HRZ
 obtain ⟨x0, x1, x2, x3, x4, x5, _⟩ := six HK4.out
 obtain ⟨r0, r1, r2, r3, r4, r5, rf⟩ := six HRZ
 have rf0 := rf 0; have rf1 := rf 1; have rf2 := rf 2; have rf3 := rf 3; have rf4 := rf 4; have rf5 := rf 5
 have lr := HRZ.lt
 have HRR := Lib.hid HRZ
 clear rf HRZ lg lg1 lg2 lg3
 have lg4 := HK4.out.lt
 go_wp2_with fail
 obtain ⟨v9, hv9⟩ : ∃ v9, v9 = put6 v4 (w.heap.size + 1) (.string x.e.k) (.slice A1 x.e.v.length c1) (.slice A3 x.e.t.length c3) (.int .u64 x.e.d) (.int .u64 x.e.n) (.int .u64 x.e.s) := ⟨_, rfl⟩
 have HP9 : Hid (Only (fun j => j = w.heap.size + 1) v4 v9) := by show Only _ _ _; rw [hv9]; exact put6_only _ _ _ _ _ _ _ _
 have HR9 : Hid (Blk v9 (w.heap.size + 1) #[.string x.e.k, .slice A1 x.e.v.length c1, .slice A3 x.e.t.length c3, .int .u64 x.e.d, .int .u64 x.e.n, .int .u64 x.e.s] 42) := by show Blk _ _ _ _; rw [hv9]; exact put6_blk HRR.out _ _ _ _ _ _
 unfold put6 at hv9
 rw [← hv9]
 obtain ⟨t0, t1, t2, t3, t4, t5, _⟩ := six HR9.out
 refine bodyPost_ret (v := .agg #[.string x.e.k, .slice A1 x.e.v.length c1, .slice A3 x.e.t.length c3, .int .u64 x.e.d, .int .u64 x.e.n, .int .u64 x.e.s]) (by simp [results, Tryz.results49, go_sem, t0, t1, t2, t3, t4, t5]) rfl ?_
 refine ⟨⟨x.e, A1, c1, A3, c3⟩, rfl, rfl, ⟨HX.out.f, ?_, ?_⟩, ?_⟩
 ·exact own_base (own_keep HO4.out HP9.out (fun j e => by have h9 := (HO4.out.lt j e).1; omega)) (by omega)
 ·exact own_base (own_keep HO5.out HP9.out (fun j e => by have h9 := (HO5.out.lt j e).1; omega)) (by omega)
 ·exact HBV4.out.trans (HP9.out.below (fun j hj => by rw [hj]; omega) HBV4.out.size)
end Go.Proofs.YtlmljhnogmfcfaaGreat.Ed
namespace Go.Proofs.YtlmljhnogmfcfaaGreat.Ee
open Go.RowKit Ap Mi Nw Ea Eb Ec Ed

theorem conv_rs {w : World} {A : Option Addr} {l : List UInt8} {n : Nat} (hn : n = l.length) (c : Nat) (h : Rs w 1 A n c (byV l)) : (convert 38 9 (.slice A n c)).run Tryz.prog w = .ok (.string ⟨l.toArray⟩) w := by
 subst hn
 by_cases h0 : l.length = 0
 ·have e : l = [] := List.eq_nil_of_length_eq_zero h0
  subst e
  rw [run_convert_bytes_string w 38 9 5 A _ c Tryz.underlying38 Tryz.underlying5 Tryz.underlying9]
  cases A <;> rfl
 ·have hg : ∀ k (hk : k < l.length), (byV l)[k]? = some (.int .u8 (l[k].toNat : Int)) := fun k hk => by unfold byV; rw [List.getElem?_map, List.getElem?_eq_getElem hk]; rfl
  obtain ⟨b, o, rfl, _, _⟩ := h.rd.at_ (hg 0 (by omega))
  exact run_convert_bytes_back (P := Tryz.prog) w 38 9 5 ⟨b, o, none⟩ c l Tryz.underlying38 Tryz.underlying5 Tryz.underlying9 fun j hj => by
   obtain ⟨b', o', e, _, hc⟩ := h.rd.at_ (hg j hj)
   injection e with e; injection e with e1 e2; subst e1; subst e2
   rw [Nw.add_lit]; exact hc
set_option maxRecDepth 100000 in
theorem strings_true {w : World} {A B : Option Addr} {c d n m : Nat} {l : List ByteArray} (hn : l.length = n) (hm : l.length = m) (h1 : Rs w 1 A n c (strs l)) (h2 : Rs w 1 B m d (strs l)) :
  Calls Tryz.prog 45 #[.slice A n c, .slice B m d] w (boolTo true w) := by
 subst hn; subst hm
 have hc1 := Rs.max h1
 have hc2 := Rs.max h2
 have hl1 := Rs.le h1
 unfold maxLen at hc1 hc2
 have hee : (l.length == l.length) = true := by simp
 have hee2 : ((l.length : Int) == (l.length : Int)) = true := by simp
 have HA : Hid (∀ K (h : K < l.length), ∃ b o, A = some ⟨b, o, none⟩ ∧ b < w.heap.size ∧ w.cell? ⟨b, o + K, none⟩ = some (.string l[K])) := fun K h => Rs_str h1 h
 have HC : Hid (∀ K (h : K < l.length), ∃ b o, B = some ⟨b, o, none⟩ ∧ b < w.heap.size ∧ w.cell? ⟨b, o + K, none⟩ = some (.string l[K])) := fun K h => Rs_str h2 h
 unfold boolTo
 clear h1 h2
 go_enter Tryz.func45, Tryz.ntmps45
 go_wp2_with fail
 go_loopw [5] (fun i wr => ∃ K : Nat, K ≤ l.length ∧ i = .int .i64 (K : Int) ∧ ∃ n, wr = w.drewN n) (fun i _ => l.length - (intOf i).toNat)
 case atStart => exact ⟨0, Nat.zero_le _, rfl, 0, rfl⟩
 case round =>
  obtain ⟨K, hK, rfl, nq0, rfl⟩ := hrel
  by_cases hlt : K < l.length
  ·have j1 : (K : Int) < (l.length : Int) := by omega
   obtain ⟨b, o, rfl, lb, a0⟩ := HA.out K hlt
   obtain ⟨b2, o2, rfl, lb2, a2⟩ := HC.out K hlt
   obtain ⟨t, ht⟩ : ∃ t, t = l[K] := ⟨_, rfl⟩
   rw [← ht] at a0 a2
   have het := str_yes (rfl : t = t)
   have het2 : (!(t.toList == t.toList)) = false := by rw [het]; rfl
   clear ht
   go_wp2_with fail
   go_quiet (fail)
   go_wp2_with fail
   go_roundw
   case rel => exact ⟨K + 1, by omega, by go_num, by first | exact ⟨_, rfl⟩ | exact ⟨_, by rw [World.drewN_drewN]⟩⟩
   case measure => simp [intOf]; omega
  ·obtain rfl : K = l.length := by omega
   have hnn : ¬ (l.length : Int) < l.length := by omega
   clear hlt
   go_wp2_with fail
   go_ret
   exact ⟨rfl, drawn (Below.refl _ _) _⟩
set_option maxRecDepth 100000 in
theorem same_true {G G' : Nat → Prop} {w : World} {x y : Em} (he : y.e = x.e) (hx : RE G w x) (hy : RE G' w y) :
  Calls Tryz.prog 19 #[emV x, emV y] w (boolTo true w) := by
 obtain ⟨e, A, a, B, b⟩ := x
 obtain ⟨e', C, c, D, d⟩ := y
 simp only at he
 subst he
 obtain ⟨k, v, t, dd, vn, st⟩ := e'
 obtain ⟨v0, hv0⟩ : ∃ v0, v0 = (w.alloc (.cells (emA ⟨⟨k, v, t, dd, vn, st⟩, A, a, B, b⟩) 42)).alloc (.cells (emA ⟨⟨k, v, t, dd, vn, st⟩, C, c, D, d⟩) 42) := ⟨_, rfl⟩
 have HB0 : Hid (Below w.heap.size w v0) := by show Below _ _ _; rw [hv0]; exact (bnew _ _).alloc (by simp) _
 have HK0 : Hid (Blk v0 w.heap.size (emA ⟨⟨k, v, t, dd, vn, st⟩, A, a, B, b⟩) 42) := by show Blk _ _ _ _; rw [hv0]; exact (Blk.new w _ _).below (bnew _ _) (by simp)
 have HR0 : Hid (Blk v0 (w.heap.size + 1) (emA ⟨⟨k, v, t, dd, vn, st⟩, C, c, D, d⟩) 42) := by
  show Blk _ _ _ _; rw [hv0]
  have := Blk.new (w.alloc (.cells (emA ⟨⟨k, v, t, dd, vn, st⟩, A, a, B, b⟩) 42)) (emA ⟨⟨k, v, t, dd, vn, st⟩, C, c, D, d⟩) 42
  simpa using this
 have X := hx.below HB0.out (Nat.le_refl _)
 have Y := hy.below HB0.out (Nat.le_refl _)
 have c1 := conv_rs rfl a X.v
 have c2 := conv_rs rfl c Y.v
 have HSS := Lib.hid (strings_true rfl rfl X.t Y.t)
 unfold boolTo at HSS ⊢
 unfold emA at hv0 HK0 HR0
 simp only at hv0 HK0 HR0 c1 c2 HSS
 obtain ⟨x0, x1, x2, x3, x4, x5, _⟩ := six HK0.out
 obtain ⟨y0, y1, y2, y3, y4, y5, _⟩ := six HR0.out
 have lg := HK0.out.lt
 have lr := HR0.out.lt
 have e1 := str_yes (rfl : k = k)
 obtain ⟨s, hs⟩ : ∃ s : ByteArray, s = ⟨v.toArray⟩ := ⟨_, rfl⟩
 rw [← hs] at c1 c2
 have e2 := str_yes (rfl : s = s)
 have e3 : (dd == dd) = true := by simp
 have e4 : (vn == vn) = true := by simp
 have e5 : (st == st) = true := by simp
 unfold emV
 simp only
 clear hs hx hy X Y
 go_enter Tryz.func19, Tryz.ntmps19
 go_upto_region 1 with fail
 rw [← hv0]
 clear hv0
 go_wp2_with fail
 refine HSS.out.mono ?_
 rintro q w2 ⟨rfl, hb⟩
 have HB2 := Lib.hid (HB0.out.trans (hb.mono HB0.out.size))
 have K2 := HK0.out.below hb lg
 have R2 := HR0.out.below hb lr
 clear x0 x1 x2 x3 x4 x5 y0 y1 y2 y3 y4 y5 lg lr
 obtain ⟨x0, x1, x2, x3, x4, x5, _⟩ := six K2
 obtain ⟨y0, y1, y2, y3, y4, y5, _⟩ := six R2
 have lg := K2.lt
 have lr := R2.lt
 clear hb K2 R2 c1 c2
 go_wp2_with fail
 go_ret
 exact ⟨rfl, HB2.out⟩
end Go.Proofs.YtlmljhnogmfcfaaGreat.Ee
namespace Go.Proofs.YtlmljhnogmfcfaaGreat.El
open Go.RowKit Ap Mi Nw Ea Eb Ec Ed Ee

def Ty (w : World) (e : TypeId) (P : Value → Prop) (A : Option Addr) (n c : Nat) : Prop := ∃ xs, w.ownsRow 0 e 1 (.slice A n c) n xs ∧ ∀ u ∈ xs, P u
theorem Ty.only {w w' : World} {e : TypeId} {P : Value → Prop} {A : Option Addr} {n c : Nat} (h : Ty w e P A n c) {F : Nat → Prop} (ho : Only F w w') (hn : ∀ a, A = some a → ¬ F a.block) : Ty w' e P A n c := by
 obtain ⟨xs, h1, h2⟩ := h
 refine ⟨xs, own_keep h1 ho (fun j ej => ?_), h2⟩
 cases hA : A with
 | none => rw [hA] at ej; cases ej
 | some a => rw [hA] at ej; cases ej; exact hn a hA
theorem Ty.below {w w' : World} {e : TypeId} {P : Value → Prop} {A : Option Addr} {n c : Nat} (h : Ty w e P A n c) (hb : Below w.heap.size w w') : Ty w' e P A n c :=
 h.only (Only.of_below hb (Nat.le_refl _) (fun _ => False)) (fun _ _ hf => hf)
theorem Ty.set {w : World} {e e0 : TypeId} {P : Value → Prop} {A : Option Addr} {n c g k : Nat} {cur : Array Value} {u : Value} (hb : w.heap[g]? = some (.cells cur e0 (0, 0))) (hu : e = e0 → P u) (h : Ty w e P A n c) : Ty (w.setCell ⟨g, k, none⟩ u) e P A n c := by
 obtain ⟨xs, ⟨h1, h2⟩, h3⟩ := h
 rcases h2 with h2 | ⟨g', cap, cur', hv, hB, hg, hc, hm, hs, ht⟩
 ·exact ⟨xs, ⟨h1, Or.inl h2⟩, h3⟩
 ·by_cases e1 : g' = g
  ·subst e1
   rw [hb] at hg
   injection hg with hg
   injection hg with hg1 hg2 hg3
   subst hg1; subst hg2
   have hh := heap_setCell_same w g' k cur e0 u hb
   refine ⟨((cur.setIfInBounds k u).toList.take (n * 1)), ⟨?_, Or.inr ⟨g', cap, cur.setIfInBounds k u, hv, hB, hh, hc, hm, by simpa using hs, rfl⟩⟩, fun z hz => ?_⟩
   ·rw [List.length_take, Array.length_toList, Array.size_setIfInBounds, hs]; omega
   ·rw [Array.toList_setIfInBounds, List.take_set] at hz
    rcases List.mem_or_eq_of_mem_set hz with hz | hz
    ·rw [ht] at hz; exact h3 z hz
    ·rw [hz]; exact hu rfl
  ·refine ⟨xs, ⟨h1, Or.inr ⟨g', cap, cur', hv, hB, ?_, hc, hm, hs, ht⟩⟩, h3⟩
   rw [heap_setCell_other w ⟨g, k, none⟩ g' u e1]
   exact hg
def P8 (u : Value) : Prop := ∃ b : Nat, b < 256 ∧ u = .int .u8 (b : Int)
def PS (u : Value) : Prop := ∃ s : ByteArray, u = .string s
structure Wr (w : World) (x : Em) : Prop where
 v : Ty w 5 P8 x.A x.e.v.length x.a
 t : Ty w 9 PS x.B x.e.t.length x.b
theorem OwE.wr {B : Nat} {w : World} {x : Em} (h : OwE B w x) : Wr w x := by
 refine ⟨⟨_, own_base h.v (Nat.zero_le _), fun u hu => ?_⟩, ⟨_, own_base h.t (Nat.zero_le _), fun u hu => ?_⟩⟩
 ·obtain ⟨b, _, rfl⟩ := List.mem_map.1 hu; exact ⟨b.toNat, b.toNat_lt, rfl⟩
 ·obtain ⟨b, _, rfl⟩ := List.mem_map.1 hu; exact ⟨b, rfl⟩
theorem Wr.below {w w' : World} {x : Em} (h : Wr w x) (hb : Below w.heap.size w w') : Wr w' x := ⟨h.v.below hb, h.t.below hb⟩
theorem Wr.only {w w' : World} {x : Em} (h : Wr w x) {F : Nat → Prop} (ho : Only F w w') (hn : ∀ a, x.A = some a ∨ x.B = some a → ¬ F a.block) : Wr w' x := ⟨h.v.only ho (fun a ha => hn a (Or.inl ha)), h.t.only ho (fun a ha => hn a (Or.inr ha))⟩
theorem ty_ne : (5 : TypeId) ≠ 9 := by decide
theorem Wr.putS {w : World} {g k : Nat} {cur : Array Value} {u : Value} (hb : w.heap[g]? = some (.cells cur 9 (0, 0))) (hu : PS u) {y : Em} (h : Wr w y) : Wr (w.setCell ⟨g, k, none⟩ u) y :=
 ⟨h.v.set hb (fun e => absurd e ty_ne), h.t.set hb (fun _ => hu)⟩
theorem Ty.at_ {w : World} {e : TypeId} {P : Value → Prop} {A : Option Addr} {n c : Nat} (h : Ty w e P A n c) {k : Nat} (hk : k < n) : ∃ g cur u, A = some ⟨g, 0, none⟩ ∧ g < w.heap.size ∧ w.heap[g]? = some (.cells cur e (0, 0)) ∧ w.cell? ⟨g, k, none⟩ = some u ∧ P u ∧ w.frozen? ⟨g, k, none⟩ = false := by
 obtain ⟨xs, ⟨h1, h2⟩, h3⟩ := h
 rcases h2 with ⟨_, h2⟩ | ⟨g, cap, cur, hv, hB, hg, hc, hm, hs, ht⟩
 ·omega
 ·injection hv with hv1 hv2 hv3
  have hkx : k < xs.length := by omega
  have e1 : (cur.toList.take (n * 1))[k]? = xs[k]? := by rw [ht]
  rw [List.getElem?_take, if_pos (by omega), Array.getElem?_toList, List.getElem?_eq_getElem hkx] at e1
  exact ⟨g, cur, xs[k], hv1, (Array.getElem?_eq_some_iff.1 hg).1, hg, by rw [cell_of_row w g k cur _ (0, 0) hg]; exact e1, h3 _ (List.getElem_mem hkx), frozen_of_row w g k _ _ hg⟩
def Rows (x : Em) (j : Nat) : Prop := (∃ a, x.A = some a ∧ a.block = j) ∨ (∃ a, x.B = some a ∧ a.block = j)
def RowsL (l : List Em) (j : Nat) : Prop := ∃ x ∈ l, Rows x j
theorem rs6_at {w : World} {A : Option Addr} {c : Nat} {l : List Em} (h : Rs w 6 A l.length c (emL l)) {k : Nat} (hk : k < l.length) : ∃ b o, A = some ⟨b, o, none⟩ ∧ b < w.heap.size ∧ w.cell? ⟨b, o + k * 6, none⟩ = some (.string l[k].e.k) ∧ w.cell? ⟨b, o + k * 6 + 1, none⟩ = some (.slice l[k].A l[k].e.v.length l[k].a) ∧ w.cell? ⟨b, o + k * 6 + 2, none⟩ = some (.slice l[k].B l[k].e.t.length l[k].b) ∧ w.cell? ⟨b, o + k * 6 + 3, none⟩ = some (.int .u64 l[k].e.d) ∧ w.cell? ⟨b, o + k * 6 + 4, none⟩ = some (.int .u64 l[k].e.n) ∧ w.cell? ⟨b, o + k * 6 + 5, none⟩ = some (.int .u64 l[k].e.s) := by
 obtain ⟨g0, g1, g2, g3, g4, g5⟩ := emL_get l k hk
 obtain ⟨b, o, rfl, hb, c0⟩ := h.rd.at_ g0
 have key : ∀ {i : Nat} {v : Value}, (emL l)[i]? = some v → w.cell? ⟨b, o + i, none⟩ = some v := fun gi => by
  obtain ⟨b', o', e, _, c1⟩ := h.rd.at_ gi
  injection e with e; injection e with e1 e2; subst e1; subst e2; exact c1
 exact ⟨b, o, rfl, hb, c0, key g1, key g2, key g3, key g4, key g5⟩
structure R0 (w : World) (x : Em) : Prop where
 v : Rs w 1 x.A x.e.v.length x.a (byV x.e.v)
 t : Rs w 1 x.B x.e.t.length x.b (strs x.e.t)
 k : x.e.k.size ≤ 9223372036854775807
 e : ∀ t ∈ x.e.t, t.size ≤ 9223372036854775807
 d : 0 ≤ x.e.d ∧ x.e.d < 18446744073709551616
 n : 0 ≤ x.e.n ∧ x.e.n < 18446744073709551616
 s : 0 ≤ x.e.s ∧ x.e.s < 18446744073709551616
def lgt (e : En) : Prop := e.t.length ≤ 20 ∧ (∀ t ∈ e.t, t.size ≤ 300) ∧ e.k.size ≤ 300 ∧ e.v.length ≤ 300
theorem R0.below {w w' : World} {x : Em} (h : R0 w x) (hb : Below w.heap.size w w') : R0 w' x := ⟨h.v.below hb (Nat.le_refl _), h.t.below hb (Nat.le_refl _), h.k, h.e, h.d, h.n, h.s⟩
theorem R0.re {w : World} {x : Em} (h : R0 w x) (hl : lgt x.e) {G : Nat → Prop} (h1 : ∀ a, x.A = some a → G a.block) (h2 : ∀ a, x.B = some a → G a.block) : RE G w x :=
 ⟨⟨by have := hl.2.2.1; omega, by have := hl.2.2.2; omega, by have := hl.1; omega, fun t ht => by have := hl.2.1 t ht; omega, h.d, h.n, h.s⟩, h.v, h.t, h1, h2⟩
end Go.Proofs.YtlmljhnogmfcfaaGreat.El
