/- Proves what the methods Refs and Copy of an arena and the copies of slices return, and what they leave in memory. Conditions: as each theorem names them. -/
import Derived.Test.YtlmljhnogmfcfaaGreatMi
import Derived.Test.YtlmljhnogmfcfaaGreatNw
import Derived.Test.YtlmljhnogmfcfaaGreatRg
import Derived.Deep.Cut
import Derived.IntWalk
import Derived.Deep.RegionHeld3
namespace Go.Proofs.YtlmljhnogmfcfaaGreat.Nm
open Go.RowKit

structure St where
 gens : List Nat
 tk : List Bool
 fr : List Nat
theorem st_eq {a b : St} (h1 : a.gens = b.gens) (h2 : a.tk = b.tk) (h3 : a.fr = b.fr) : a = b := by cases a; cases b; simp at h1 h2 h3; rw [h1, h2, h3]
structure Inv (M _G : Nat) (s : St) : Prop where
 tl : s.tk.length = s.gens.length
 le : s.gens.length ≤ M
 nd : s.fr.Nodup
 fre : ∀ n ∈ s.fr, s.tk[n]? = some false
 cnt : s.fr.length + s.tk.count true = s.tk.length
theorem Inv.frl {M G : Nat} {s : St} (h : Inv M G s) : s.fr.length ≤ s.gens.length := by have := h.cnt; have := h.tl; omega
theorem Inv.lt {M G : Nat} {s : St} (h : Inv M G s) {n : Nat} (hn : n ∈ s.fr) : n < s.gens.length := by
 rw [← h.tl]; exact (List.getElem?_eq_some_iff.1 (h.fre n hn)).1
theorem Inv.mono {M G : Nat} (G' : Nat) {s : St} (h : Inv M G s) : Inv M G' s := ⟨h.tl, h.le, h.nd, h.fre, h.cnt⟩
theorem Inv.start (M G : Nat) : Inv M G ⟨[], [], []⟩ := ⟨rfl, Nat.zero_le _, List.nodup_nil, by simp, rfl⟩

def gv (x : Nat) : Int := IntKind.i64.wrap (x : Int)
theorem gv_one : gv 1 = 1 := by decide
theorem gv_succ (x : Nat) : gv (x + 1) = IntKind.i64.wrap (gv x + 1) := by unfold gv; rw [IntKind.wrap_i64, IntKind.wrap_i64, IntKind.wrap_i64]; omega
def ist (s : St) (n : Int) : Bool := decide (0 ≤ n) && (s.tk[n.toNat]? == some true)
def genAt (s : St) (n : Int) : Nat := (s.gens[n.toNat]?).getD 0
def aN (s : St) (n : Int) : Int := if ist s n = true then n else 0
def aG (s : St) (n : Int) : Int := if ist s n = true then gv (genAt s n) else 0
def aE (s : St) (n : Int) : Int := if ist s n = true then 0 else 9
def hasB (s : St) (n g : Int) : Bool := ist s n && decide (gv (genAt s n) = g)
theorem ist_spec {s : St} {n : Int} (h : ist s n = true) : 0 ≤ n ∧ s.tk[n.toNat]? = some true := by
 unfold ist at h
 simp only [Bool.and_eq_true, decide_eq_true_eq, beq_iff_eq] at h
 exact h
theorem ist_nat {s : St} {k : Nat} : ist s (k : Int) = (s.tk[k]? == some true) := by unfold ist; simp
theorem ist_neg {s : St} {n : Int} (h : n < 0) : ist s n = false := by unfold ist; rw [decide_eq_false (by omega)]; rfl
theorem ist_far {s : St} {n : Int} (h : (s.tk.length : Int) ≤ n) : ist s n = false := by
 unfold ist
 rw [List.getElem?_eq_none (by omega)]
 simp
theorem genAt_nat {s : St} {k : Nat} (h : k < s.gens.length) : genAt s (k : Int) = s.gens[k] := by unfold genAt; rw [Int.toNat_natCast, List.getElem?_eq_getElem h]; rfl
theorem ans_yes {s : St} {n : Int} (h : ist s n = true) : aN s n = n ∧ aG s n = gv (genAt s n) ∧ aE s n = 0 := by unfold aN aG aE; rw [if_pos h, if_pos h, if_pos h]; exact ⟨rfl, rfl, rfl⟩
theorem ans_no {s : St} {n : Int} (h : ist s n = false) : aN s n = 0 ∧ aG s n = 0 ∧ aE s n = 9 := by unfold aN aG aE; rw [h]; exact ⟨rfl, rfl, rfl⟩
def tkS (M : Nat) (s : St) : St :=
 match s.fr.getLast? with
 | some n => ⟨s.gens, s.tk.set n true, s.fr.dropLast⟩
 | none => if s.gens.length = M then s else ⟨s.gens ++ [1], s.tk ++ [true], []⟩
def tkN (M : Nat) (s : St) : Int :=
 match s.fr.getLast? with
 | some n => (n : Int)
 | none => if s.gens.length = M then 0 else (s.gens.length : Int)
def tkG (M : Nat) (s : St) : Int :=
 match s.fr.getLast? with
 | some n => gv (genAt s (n : Int))
 | none => if s.gens.length = M then 0 else 1
def tkE (M : Nat) (s : St) : Int :=
 match s.fr.getLast? with
 | some _ => 0
 | none => if s.gens.length = M then 7 else 0
theorem tk_full {M : Nat} {s : St} (h : s.fr = []) (hM : s.gens.length = M) : tkS M s = s ∧ tkN M s = 0 ∧ tkG M s = 0 ∧ tkE M s = 7 := by
 unfold tkS tkN tkG tkE; rw [h]; simp [hM]
theorem tk_new {M : Nat} {s : St} (h : s.fr = []) (hM : s.gens.length ≠ M) : tkS M s = ⟨s.gens ++ [1], s.tk ++ [true], []⟩ ∧ tkN M s = (s.gens.length : Int) ∧ tkG M s = 1 ∧ tkE M s = 0 := by
 unfold tkS tkN tkG tkE; rw [h]; simp [hM]
theorem tk_old {M : Nat} {s : St} {r : List Nat} {n : Nat} (h : s.fr = r ++ [n]) : tkS M s = ⟨s.gens, s.tk.set n true, r⟩ ∧ tkN M s = (n : Int) ∧ tkG M s = gv (genAt s (n : Int)) ∧ tkE M s = 0 := by
 unfold tkS tkN tkG tkE; rw [h]; simp
theorem tk_ways (M : Nat) (s : St) : (s.fr = [] ∧ s.gens.length = M) ∨ (s.fr = [] ∧ s.gens.length ≠ M) ∨ ∃ r n, s.fr = r ++ [n] := by
 rcases List.eq_nil_or_concat s.fr with h | ⟨r, n, h⟩
 ·by_cases hM : s.gens.length = M
  ·exact Or.inl ⟨h, hM⟩
  ·exact Or.inr (Or.inl ⟨h, hM⟩)
 ·exact Or.inr (Or.inr ⟨r, n, by rw [h, List.concat_eq_append]⟩)
theorem count_set_true : ∀ (l : List Bool) (n : Nat), l[n]? = some false → (l.set n true).count true = l.count true + 1
 | [], n, h => by simp at h
 | b :: r, 0, h => by simp at h; subst h; simp
 | b :: r, n + 1, h => by
  rw [List.set_cons_succ, List.count_cons, List.count_cons, count_set_true r n (by simpa using h)]; omega
theorem count_set_false : ∀ (l : List Bool) (n : Nat), l[n]? = some true → (l.set n false).count true + 1 = l.count true
 | [], n, h => by simp at h
 | b :: r, 0, h => by simp at h; subst h; simp
 | b :: r, n + 1, h => by
  have := count_set_false r n (by simpa using h)
  rw [List.set_cons_succ, List.count_cons, List.count_cons]; omega
theorem tk_inv {M G : Nat} {s : St} (h : Inv M G s) : Inv M G (tkS M s) := by
 rcases tk_ways M s with ⟨h1, h2⟩ | ⟨h1, h2⟩ | ⟨r, n, h1⟩
 ·rw [(tk_full h1 h2).1]; exact h
 ·rw [(tk_new h1 h2).1]
  have := h.tl; have := h.le; have hc := h.cnt
  rw [h1] at hc
  refine ⟨by simp; omega, by simp; omega, List.nodup_nil, by simp, by simp at hc ⊢; omega⟩
 ·rw [(tk_old h1).1]
  have hf := h.fre; have hn := h.nd; have hc := h.cnt
  rw [h1] at hf hn hc
  have hfn := hf n (by simp)
  have hnr : n ∉ r := fun hm => by
   have := (List.nodup_append.1 hn).2.2 n hm n (by simp)
   exact this rfl
  refine ⟨by simp; exact h.tl, h.le, (List.nodup_append.1 hn).1, fun k hk => ?_, ?_⟩
  ·rw [List.getElem?_set_ne (fun (e : n = k) => hnr (by rw [e]; exact hk))]; exact hf k (by simp [hk])
  ·show r.length + (s.tk.set n true).count true = (s.tk.set n true).length
   rw [count_set_true _ _ hfn, List.length_set]; simp at hc; omega

def frS (s : St) (n g : Int) : St := if hasB s n g = true then ⟨s.gens.set n.toNat (genAt s n + 1), s.tk.set n.toNat false, s.fr ++ [n.toNat]⟩ else s
def frE (s : St) (n g : Int) : Int := if hasB s n g = true then 0 else 9
theorem has_spec {s : St} {n g : Int} (h : hasB s n g = true) : ist s n = true ∧ gv (genAt s n) = g := by
 unfold hasB at h; simp only [Bool.and_eq_true, decide_eq_true_eq] at h; exact h
theorem has_mk {s : St} {n g : Int} (h : ist s n = true) (hg : gv (genAt s n) = g) : hasB s n g = true := by unfold hasB; rw [h, decide_eq_true hg]; rfl
theorem fr_yes {s : St} {n g : Int} (h : hasB s n g = true) : frS s n g = ⟨s.gens.set n.toNat (genAt s n + 1), s.tk.set n.toNat false, s.fr ++ [n.toNat]⟩ ∧ frE s n g = 0 := by unfold frS frE; rw [if_pos h, if_pos h]; exact ⟨rfl, rfl⟩
theorem fr_no {s : St} {n g : Int} (h : hasB s n g = false) : frS s n g = s ∧ frE s n g = 9 := by unfold frS frE; rw [h]; exact ⟨rfl, rfl⟩
theorem fr_inv {M G : Nat} {s : St} (h : Inv M G s) (n g : Int) : Inv M G (frS s n g) := by
 cases hb : hasB s n g
 ·rw [(fr_no hb).1]; exact h
 ·rw [(fr_yes hb).1]
  obtain ⟨h1, h2⟩ := has_spec hb
  obtain ⟨h3, h4⟩ := ist_spec h1
  have hc := h.cnt
  have hcs := count_set_false _ _ h4
  have hnf : n.toNat ∉ s.fr := fun hm => by have := h.fre _ hm; rw [h4] at this; cases this
  refine ⟨by simp; exact h.tl, by simpa using h.le, ?_, fun k hk => ?_, ?_⟩
  ·refine List.nodup_append.2 ⟨h.nd, by simp, fun a ha b hb e => ?_⟩
   rw [List.mem_singleton.1 hb] at e
   exact hnf (e ▸ ha)
  ·show (s.tk.set n.toNat false)[k]? = some false
   have hk : k ∈ s.fr ++ [n.toNat] := hk
   rcases List.mem_append.1 hk with hk | hk
   ·rw [List.getElem?_set_ne (fun (e : n.toNat = k) => hnf (by rw [e]; exact hk))]; exact h.fre k hk
   ·rw [List.mem_singleton.1 hk, List.getElem?_set_self (List.getElem?_eq_some_iff.1 h4).1]
  ·show (s.fr ++ [n.toNat]).length + (s.tk.set n.toNat false).count true = (s.tk.set n.toNat false).length
   rw [List.length_append, List.length_set]; simp; omega

def sl : List Nat → List Bool → List Value
 | g :: gs, t :: ts => .int .i64 (gv g) :: .bool t :: sl gs ts
 | _, _ => []
theorem sl_len : ∀ (gs : List Nat) (ts : List Bool), ts.length = gs.length → (sl gs ts).length = gs.length * 2
 | [], [], _ => rfl
 | [], _ :: _, h => by simp at h
 | _ :: _, [], h => by simp at h
 | g :: gs, t :: ts, h => by
  have := sl_len gs ts (by simpa using h)
  simp [sl, this]; omega
theorem sl_get : ∀ (gs : List Nat) (ts : List Bool) (h : ts.length = gs.length) (k : Nat) (hk : k < gs.length), (sl gs ts)[k * 2]? = some (.int .i64 (gv gs[k])) ∧ (sl gs ts)[k * 2 + 1]? = some (.bool (ts[k]'(by omega)))
 | [], _, _, _, hk => by simp at hk
 | _ :: _, [], h, _, _ => by simp at h
 | g :: gs, t :: ts, _, 0, _ => ⟨rfl, rfl⟩
 | g :: gs, t :: ts, h, k + 1, hk => by
  have := sl_get gs ts (by simpa using h) k (by simpa using hk)
  rw [show (k + 1) * 2 = k * 2 + 1 + 1 from by omega]
  simp only [sl, List.getElem?_cons_succ, List.getElem_cons_succ]
  exact this
theorem sl_snoc : ∀ (gs : List Nat) (ts : List Bool) (g : Nat) (t : Bool), ts.length = gs.length → sl (gs ++ [g]) (ts ++ [t]) = sl gs ts ++ [.int .i64 (gv g), .bool t]
 | [], [], _, _, _ => rfl
 | [], _ :: _, _, _, h => by simp at h
 | _ :: _, [], _, _, h => by simp at h
 | g' :: gs, t' :: ts, g, t, h => by
  have := sl_snoc gs ts g t (by simpa using h)
  simp [sl, this]
theorem sl_setT : ∀ (gs : List Nat) (ts : List Bool) (k : Nat) (b : Bool), k < gs.length → (sl gs ts).set (k * 2 + 1) (.bool b) = sl gs (ts.set k b)
 | [], _, _, _, h => by simp at h
 | _ :: _, [], _, _, _ => rfl
 | g :: gs, t :: ts, 0, b, _ => rfl
 | g :: gs, t :: ts, k + 1, b, h => by
  have := sl_setT gs ts k b (by simpa using h)
  rw [show (k + 1) * 2 + 1 = (k * 2 + 1) + 1 + 1 from by omega]
  simp only [sl, List.set_cons_succ]
  rw [this]
theorem sl_setG : ∀ (gs : List Nat) (ts : List Bool) (k : Nat) (x : Nat), (sl gs ts).set (k * 2) (.int .i64 (gv x)) = sl (gs.set k x) ts
 | [], _, _, _ => rfl
 | _ :: _, [], k, _ => by cases k <;> rfl
 | g :: gs, t :: ts, 0, b => rfl
 | g :: gs, t :: ts, k + 1, b => by
  have := sl_setG gs ts k b
  rw [show (k + 1) * 2 = k * 2 + 1 + 1 from by omega]
  simp only [sl, List.set_cons_succ]
  rw [this]
theorem sl_one : ∀ (gs : List Nat) (ts : List Bool), ∀ u ∈ sl gs ts, u.oneCell' = true
 | [], _, _, h => by simp [sl] at h
 | _ :: _, [], _, h => by simp [sl] at h
 | g :: gs, t :: ts, u, h => by
  simp only [sl, List.mem_cons] at h
  rcases h with rfl | rfl | h
  ·rfl
  ·rfl
  ·exact sl_one gs ts u h
def ints (l : List Nat) : List Value := l.map fun (n : Nat) => .int .i64 (n : Int)
theorem ints_one (l : List Nat) : ∀ u ∈ ints l, u.oneCell' = true := fun u hu => by obtain ⟨y, _, rfl⟩ := List.mem_map.1 hu; rfl
end Go.Proofs.YtlmljhnogmfcfaaGreat.Nm
namespace Go.Proofs.YtlmljhnogmfcfaaGreat.Na
open Go.RowKit Ap Mi Nm Nw

structure Are (F : Nat → Prop) (w : World) (g m G : Nat) (s : St) : Prop where
 has : ∃ A c B d, Blk w g #[.int .i64 (m : Int), .slice A s.gens.length c, .slice B s.fr.length d] 131 ∧ F g ∧ Mine 0 2 w A s.gens.length c (sl s.gens s.tk) ∧ Mine 0 1 w B s.fr.length d (ints s.fr) ∧
  (∀ a, A = some a → F a.block ∧ a.block ≠ g) ∧ (∀ b, B = some b → F b.block ∧ b.block ≠ g) ∧ ∀ a b, A = some a → B = some b → a.block ≠ b.block
 inv : Inv m G s
 lo : 1 ≤ m
 hi : m ≤ 1048576
section
variable {F F' : Nat → Prop} {w w' : World} {g m G : Nat} {s : St}
theorem Are.lt (h : Are F w g m G s) : g < w.heap.size := by
 obtain ⟨A, c, B, d, h1, _⟩ := h.has
 exact h1.lt
theorem Are.inF (h : Are F w g m G s) : F g := by
 obtain ⟨A, c, B, d, _, h1, _⟩ := h.has
 exact h1
theorem Are.mono (h : Are F w g m G s) (hFG : ∀ j, j < w.heap.size → F j → F' j) : Are F' w g m G s := by
 have hl := h.lt
 obtain ⟨⟨A, c, B, d, h1, h2, h3, h4, h5, h6, h7⟩, hi⟩ := h
 exact ⟨⟨A, c, B, d, h1, hFG _ hl h2, h3, h4, fun a ha => ⟨hFG _ (h3.base ha).2.1 (h5 a ha).1, (h5 a ha).2⟩, fun a ha => ⟨hFG _ (h4.base ha).2.1 (h6 a ha).1, (h6 a ha).2⟩, h7⟩, by assumption, by assumption, by assumption⟩
theorem Are.tight (h : Are F w g m G s) : Are (fun j => F j ∧ j < w.heap.size) w g m G s := h.mono fun _ hj hf => ⟨hf, hj⟩
theorem Are.only (h : Are F w g m G s) (ho : Only F' w w') (hn : ∀ j, F j → ¬ F' j) : Are F w' g m G s := by
 have hl := h.lt
 obtain ⟨⟨A, c, B, d, h1, h2, h3, h4, h5, h6, h7⟩, hi, hlo, hhi⟩ := h
 exact ⟨⟨A, c, B, d, h1.only ho (hn g h2), h2, h3.only ho (fun a ha => hn _ (h5 a ha).1), h4.only ho (fun a ha => hn _ (h6 a ha).1), h5, h6, h7⟩, hi, hlo, hhi⟩
theorem Are.below {B : Nat} (h : Are F w g m G s) (hb : Below B w w') (hB : w.heap.size ≤ B) : Are F w' g m G s :=
 h.only (Only.of_below hb hB (fun _ => False)) (fun _ _ hf => hf)
theorem Are.drewN (h : Are F w g m G s) (n : Nat) : Are F (w.drewN n) g m G s := h.only ((Only.refl (fun _ => False) w).drewN n) (fun _ _ hf => hf)
theorem Are.more {G' : Nat} (h : Are F w g m G s) : Are F w g m G' s := ⟨h.has, h.inv.mono G', h.lo, h.hi⟩
end

def newPost (w : World) (n : Int) : Ending → World → Prop := fun e w' =>
 (∃ m : Nat, n = (m : Int) ∧ 1 ≤ m ∧ m ≤ 1048576 ∧ ∃ g, e = .returned (.tuple #[.pointer (some ⟨g, 0, none⟩), .int .i64 0]) ∧ Are (fun j => w.heap.size ≤ j) w' g m 1 ⟨[], [], []⟩ ∧ Below w.heap.size w w') ∨
 ((n < 1 ∨ 1048576 < n) ∧ e = .returned (.tuple #[.pointer none, .int .i64 2]) ∧ w = w')
set_option maxRecDepth 100000 in
set_option maxHeartbeats 400000 in
theorem new_any (n : Int) (w : World) : Calls Tryz.prog 41 #[.int .i64 n] w (newPost w n) := by
 by_cases h0 : n < 1
 ·have HN : Hid (n < 1 ∨ 1048576 < n) := Or.inl h0
  go_enter Tryz.func41, Tryz.ntmps41
  go_wp2_with fail
  go_ret2
  exact Or.inr ⟨HN.out, rfl, rfl⟩
 ·by_cases h1 : 1048576 < n
  ·have HN : Hid (n < 1 ∨ 1048576 < n) := Or.inr h1
   have h0' : 1 ≤ n := by omega
   clear h0
   go_enter Tryz.func41, Tryz.ntmps41
   go_wp2_with fail
   go_ret2
   exact Or.inr ⟨HN.out, rfl, rfl⟩
  ·obtain ⟨m, rfl⟩ : ∃ m : Nat, n = (m : Int) := ⟨n.toNat, by omega⟩
   have h0' : (1 : Int) ≤ (m : Int) := by omega
   have h1' : (m : Int) ≤ 1048576 := by omega
   clear h0 h1
   go_enter Tryz.func41, Tryz.ntmps41
   go_wp2_with fail
   go_ret2
   refine Or.inl ⟨m, rfl, by omega, by omega, _, rfl, ⟨⟨none, 0, none, 0, ?_, Nat.le_refl _, Mine.nil _ _ _, Mine.nil _ _ _, (fun a e => by cases e), (fun a e => by cases e), (fun a _ e => by cases e)⟩, Inv.start _ _, by omega, by omega⟩, bnew _ _⟩
   exact Blk.new w _ _

set_option maxRecDepth 100000 in
set_option maxHeartbeats 400000 in
theorem usable_any {F : Nat → Prop} {w : World} {g m G : Nat} {s : St} (h : Are F w g m G s) :
  Calls Tryz.prog 118 #[.pointer (some ⟨g, 0, none⟩)] w fun e w' => e = .returned (.bool true) ∧ w = w' := by
 obtain ⟨A, c, B, d, h1, _⟩ := h.has
 obtain ⟨c0, c1, c2, _, _, _⟩ := h1.three
 have hlo : (0 : Int) < (m : Int) := by have := h.lo; omega
 clear h h1
 go_enter Tryz.func118, Tryz.ntmps118
 go_wp2_with fail
 go_ret
 exact ⟨retB (by simp; omega), rfl⟩

theorem Are.slot {F : Nat → Prop} {w : World} {g m G : Nat} {s : St} (h : Are F w g m G s) {k : Nat} (hk : k < s.gens.length) :
  ∃ gA oA c B d, gA < w.heap.size ∧ Blk w g #[.int .i64 (m : Int), .slice (some ⟨gA, oA, none⟩) s.gens.length c, .slice B s.fr.length d] 131 ∧
   w.cell? ⟨gA, oA + k * 2, none⟩ = some (.int .i64 (gv (genAt s (k : Int)))) ∧ w.cell? ⟨gA, oA + k * 2 + 1, none⟩ = some (.bool (ist s (k : Int))) := by
 obtain ⟨A, c, B, d, h1, _, h3, _⟩ := h.has
 obtain ⟨e0, e1⟩ := sl_get s.gens s.tk h.inv.tl k hk
 have h0 : 0 < (sl s.gens s.tk).length := by have := (List.getElem?_eq_some_iff.1 e0).1; omega
 obtain ⟨gA, oA, rfl, _, hgA⟩ := mine_place h3 h0
 refine ⟨gA, oA, c, B, d, hgA, h1, ?_, ?_⟩
 ·rw [genAt_nat hk]; exact (mine_cell h3 e0).1
 ·have hk' : k < s.tk.length := by rw [h.inv.tl]; exact hk
  have := (mine_cell h3 e1).1
  rw [Nat.add_assoc, this, ist_nat, List.getElem?_eq_getElem hk']
  cases s.tk[k] <;> rfl
set_option maxRecDepth 100000 in
set_option maxHeartbeats 400000 in
theorem ref_any {F : Nat → Prop} {w : World} {g m G : Nat} {s : St} (h : Are F w g m G s) (k : Nat) (hk : k < s.gens.length) :
  Calls Tryz.prog 130 #[.pointer (some ⟨g, 0, none⟩), .int .i64 (k : Int)] w fun e w' => e = .returned (.agg #[.int .i64 (k : Int), .int .i64 (gv (genAt s (k : Int)))]) ∧ Below w.heap.size w w' := by
 obtain ⟨gA, oA, c, B, d, lA, h1, e0, e1⟩ := h.slot hk
 have lg := h.lt
 obtain ⟨c0, c1, c2, _, _, _⟩ := h1.three
 have hg := h.inv.le
 have hh := h.hi
 have i1 : (k : Int) < (s.gens.length : Int) := by omega
 obtain ⟨x, hx⟩ : ∃ x, x = gv (genAt s (k : Int)) := ⟨_, rfl⟩
 rw [← hx] at e0 ⊢
 clear h h1 hx
 go_enter Tryz.func130, Tryz.ntmps130
 go_wp2_with fail
 exact bodyPost_ret (v := .agg #[.int .i64 (k : Int), .int .i64 x]) (by simp [results, Tryz.results130, go_sem]) rfl ⟨rfl, (bnew _ _)⟩
end Go.Proofs.YtlmljhnogmfcfaaGreat.Na
namespace Go.Proofs.YtlmljhnogmfcfaaGreat.Nb
open Go.RowKit Ap Mi Nm Nw Na

def atPost (w : World) (s : St) (n : Int) : Ending → World → Prop := fun e w' =>
 e = .returned (.tuple #[.agg #[.int .i64 (aN s n), .int .i64 (aG s n)], .int .i64 (aE s n)]) ∧ Below w.heap.size w w'
set_option maxRecDepth 100000 in
set_option maxHeartbeats 400000 in
theorem at_any {F : Nat → Prop} {w : World} {g m G : Nat} {s : St} (h : Are F w g m G s) (n : Int) :
  Calls Tryz.prog 93 #[.pointer (some ⟨g, 0, none⟩), .int .i64 n] w (atPost w s n) := by
 have lg := h.lt
 have hg := h.inv.le
 have hh := h.hi
 have HU := Lib.hid (usable_any (h.below (bnew w (.cells #[.int .i64 0, .int .i64 0] 149)) (Nat.le_refl _)))
 by_cases hk : 0 ≤ n ∧ n < (s.gens.length : Int)
 ·obtain ⟨k, rfl⟩ : ∃ k : Nat, n = (k : Int) := ⟨n.toNat, by omega⟩
  have hk' : k < s.gens.length := by omega
  have i1 : (k : Int) < (s.gens.length : Int) := by omega
  have i2 : decide ((k : Int) ≥ (s.gens.length : Int)) = false := by simpa using hk'
  obtain ⟨gA, oA, c, B, d, lA, h1, e0, e1⟩ := h.slot hk'
  obtain ⟨c0, c1, c2, _, _, _⟩ := h1.three
  have HA := Lib.hid h
  unfold atPost
  cases hb : ist s (k : Int)
  ·obtain ⟨q0, q1, q2⟩ := ans_no hb
   rw [q0, q1, q2]
   rw [hb] at e1
   clear h h1 hb q0 q1 q2 e0 hk
   go_enter Tryz.func93, Tryz.ntmps93
   go_wp2_with fail
   refine HU.out.mono ?_
   rintro e w1 ⟨rfl, rfl⟩
   go_wp2_with fail
   exact bodyPost_ret (v := .tuple #[.agg #[.int .i64 0, .int .i64 0], .int .i64 9]) (by simp [results, Tryz.results93, go_sem]) rfl ⟨rfl, bnew _ _⟩
  ·obtain ⟨q0, q1, q2⟩ := ans_yes hb
   rw [q0, q1, q2]
   rw [hb] at e1
   clear h h1 hb q0 q1 q2 e0 hk
   have HR := Lib.hid (ref_any (HA.out.below (bnew w (.cells #[.int .i64 0, .int .i64 0] 149)) (Nat.le_refl _)) k hk')
   obtain ⟨x, hx⟩ : ∃ x, x = gv (genAt s (k : Int)) := ⟨_, rfl⟩
   rw [← hx] at HR ⊢
   clear hx
   go_enter Tryz.func93, Tryz.ntmps93
   go_wp2_with fail
   refine HU.out.mono ?_
   rintro e w1 ⟨rfl, rfl⟩
   go_wp2_with fail
   refine HR.out.mono ?_
   rintro e w1 ⟨rfl, hb⟩
   have HB := Lib.hid hb
   have b1 := (Blk.new w #[.int .i64 0, .int .i64 0] 149).below hb (by simp)
   obtain ⟨d0, d1, d2, d3⟩ := b1.two
   have hz := b1.lt
   clear hb b1
   go_wp2_with fail
   exact bodyPost_ret (v := .tuple #[.agg #[.int .i64 (k : Int), .int .i64 x], .int .i64 0]) (by simp [results, Tryz.results93, go_sem, d0, d1]) rfl ⟨rfl, (((bnew w _).trans (HB.out.mono (by simp))).setCell (Nat.le_refl _) _).setCell (Nat.le_refl _) _⟩
 ·have hb : ist s n = false := by
   by_cases h0 : 0 ≤ n
   ·exact ist_far (by rw [h.inv.tl]; omega)
   ·exact ist_neg (by omega)
  obtain ⟨q0, q1, q2⟩ := ans_no hb
  unfold atPost
  rw [q0, q1, q2]
  obtain ⟨A, c, B, d, h1, _⟩ := h.has
  obtain ⟨c0, c1, c2, _, _, _⟩ := h1.three
  by_cases h0 : 0 ≤ n
  ·have i2 : decide (n ≥ (s.gens.length : Int)) = true := by simp; omega
   have i3 : (s.gens.length : Int) ≤ n := by omega
   clear h h1 hb q0 q1 q2 hk
   go_enter Tryz.func93, Tryz.ntmps93
   go_wp2_with fail
   refine HU.out.mono ?_
   rintro e w1 ⟨rfl, rfl⟩
   go_wp2_with fail
   exact bodyPost_ret (v := .tuple #[.agg #[.int .i64 0, .int .i64 0], .int .i64 9]) (by simp [results, Tryz.results93, go_sem]) rfl ⟨rfl, bnew _ _⟩
  ·have i2 : n < 0 := by omega
   clear h h1 hb q0 q1 q2 hk h0
   go_enter Tryz.func93, Tryz.ntmps93
   go_wp2_with fail
   refine HU.out.mono ?_
   rintro e w1 ⟨rfl, rfl⟩
   go_wp2_with fail
   exact bodyPost_ret (v := .tuple #[.agg #[.int .i64 0, .int .i64 0], .int .i64 9]) (by simp [results, Tryz.results93, go_sem]) rfl ⟨rfl, bnew _ _⟩

end Go.Proofs.YtlmljhnogmfcfaaGreat.Nb
namespace Go.Proofs.YtlmljhnogmfcfaaGreat.Nc
open Go.RowKit Ap Mi Nm Nw Na Nb Rg

theorem elI : Elm Tryz.prog 129 3 (.int .i64 0) 1 where
 sl := Tryz.underlying129
 info := by kernel_rfl
 small := by
  have h : (Tryz.prog.info? 3).map (·.bytes) = some 8 := by kernel_rfl
  intro i hi; rw [hi] at h; simp at h; omega
 cells := rfl
 pos := by omega
theorem elS : Elm Tryz.prog 128 169 (.agg #[.int .i64 0, .bool false]) 2 where
 sl := Tryz.underlying128
 info := by kernel_rfl
 small := by
  have h : (Tryz.prog.info? 169).map (·.bytes) = some 16 := by kernel_rfl
  intro i hi; rw [hi] at h; simp at h; omega
 cells := rfl
 pos := by omega
theorem mk_inv {M G : Nat} {s : St} (h : Inv M G s) (hl : s.gens.length < M) : Inv M G ⟨s.gens ++ [1], s.tk ++ [false], s.fr ++ [s.gens.length]⟩ := by
 have ht := h.tl; have hc := h.cnt
 refine ⟨by simp; omega, by simp; omega, ?_, fun k hk => ?_, by simp; omega⟩
 ·refine List.nodup_append.2 ⟨h.nd, by simp, fun a ha b hb e => ?_⟩
  have := h.lt ha
  rw [List.mem_singleton.1 hb] at e; omega
 ·rcases List.mem_append.1 hk with hk | hk
  ·have := h.lt hk
   show (s.tk ++ [false])[k]? = some false
   rw [List.getElem?_append_left (by omega)]; exact h.fre k hk
  ·rw [List.mem_singleton.1 hk]
   show (s.tk ++ [false])[s.gens.length]? = some false
   rw [List.getElem?_append_right (by omega), ht, Nat.sub_self]; rfl
theorem ints_snoc (l : List Nat) (n : Nat) : ints (l ++ [n]) = ints l ++ [.int .i64 (n : Int)] := by unfold ints; simp
theorem src_lit {w : World} {t e e' : TypeId} (hk : Tryz.prog.underlying t = some (.slice e)) (cs : Array Value) (n sz : Nat) (hn : cs.size = n * sz) (h1 : ∀ u ∈ cs.toList, u.oneCell' = true) : Src Tryz.prog sz t (.slice (some ⟨w.heap.size, 0, none⟩) n n) n cs.toList (w.alloc (.cells cs e')) :=
 Src.ofSlice _ hk _ n n cs.toList (by simpa using hn) (fun j u hu => by
  rw [Nw.add_lit, Nat.zero_add, cell_of_row _ _ j cs e' (0, 0) (heap_alloc_new w _)]; simpa using hu) h1
theorem only_row {w w' : World} {A : Option Addr} {F : Nat → Prop} (h : w.grownBy w' (A.map (·.block))) (hA : ∀ a, A = some a → F a.block) : Only F w w' :=
 Only.of_grown h (fun k e => by rw [Option.map_eq_some_iff] at e; obtain ⟨a, ha, e⟩ := e; rw [← e]; exact hA a ha)
theorem blk_row {w w' : World} {A : Option Addr} {g : Nat} {cs : Array Value} {t : TypeId} (h : Blk w g cs t) (hg : w.grownBy w' (A.map (·.block))) (hA : ∀ a, A = some a → a.block ≠ g) : Blk w' g cs t :=
 h.only (Only.of_grown hg (F := fun j => j ≠ g) (fun k e => by rw [Option.map_eq_some_iff] at e; obtain ⟨a, ha, e⟩ := e; rw [← e]; exact hA a ha)) (fun hf => hf rfl)

def makePost (F : Nat → Prop) (w : World) (g m G : Nat) (s : St) : Ending → World → Prop := fun e w' =>
 e = .returned (.tuple #[]) ∧ Are (More F w) w' g m G ⟨s.gens ++ [1], s.tk ++ [false], s.fr ++ [s.gens.length]⟩ ∧ Only F w w'
set_option maxRecDepth 100000 in
set_option maxHeartbeats 1000000 in
theorem make_any {F : Nat → Prop} {w : World} {g m G : Nat} {s : St} (h : Are F w g m G s) (hl : s.gens.length < m) :
  Calls Tryz.prog 139 #[.pointer (some ⟨g, 0, none⟩)] w (makePost F w g m G s) := by
 have hinv := mk_inv h.inv hl
 have lg := h.lt
 have hfr := h.inv.frl
 have hhi := h.hi; have hlo := h.lo
 obtain ⟨A, c, B, d, h1, h2, h3, h4, h5, h6, h7⟩ := h.has
 obtain ⟨c0, c1, c2, f0, f1, f2⟩ := h1.three
 have HI := Lib.hid hinv; have HF := Lib.hid h2; have HA := Lib.hid h3; have HB := Lib.hid h4; have HAF := Lib.hid h5; have HBF := Lib.hid h6; have HAB := Lib.hid h7; have HG := Lib.hid h1
 have HT := Lib.hid h.inv.tl
 have HHI := Lib.hid hhi; have HLO := Lib.hid hlo
 clear h h1 h2 h3 h4 h5 h6 h7 hinv
 go_enter Tryz.func139, Tryz.ntmps139
 go_wp2_with fail
 have hS : (fun v => v.cell? ⟨g, 1, none⟩ = some (.slice A s.gens.length c) ∧ v.cell? ⟨g, 2, none⟩ = some (.slice B s.fr.length d)) w.drew := ⟨c1, c2⟩
 have HG0 := Lib.hid (show Blk w.drew g _ _ from HG.out)
 have HA0 := Lib.hid (mine_drew HA.out)
 have HB0 := Lib.hid (mine_drew HB.out)
 have O0 := Lib.hid ((Only.refl F w).drew)
 have Z0 := Lib.hid (show w.drew.heap.size = w.heap.size from rfl)
 refine wp_region_noPanic ?_
 refine wp_region_G 14 (fun v => v.cell? ⟨g, 1, none⟩ = some (.slice A s.gens.length c) ∧ v.cell? ⟨g, 2, none⟩ = some (.slice B s.fr.length d)) (by kernel_rfl) ?_
 generalize w.drew = w0 at HG0 HA0 HB0 O0 Z0 hS ⊢
 refine Rg.tg 0 (some 2) (v := ?_) rfl (by kernel_rfl) (fun _ _ _ h => h) (by rfl) (hS) ?_ ?_
 rotate_left
 ·intro w hSw; go_simp; first | done | with_reducible rfl
 try simp only [Ap.sc]
 refine Rg.tg 1 (some 3) (v := ?_) rfl (by kernel_rfl) (fun _ _ _ h => h) (by rfl) (hS) ?_ ?_
 rotate_left
 ·intro w hSw; go_simp; first | done | with_reducible rfl
 try simp only [Ap.sc]
 refine Rg.tg 2 (some 4) (v := ?_) rfl (by kernel_rfl) (fun _ _ _ h => h) (by rfl) (hS) ?_ ?_
 rotate_left
 ·intro w hSw; go_simp; first | done | with_reducible rfl
 try simp only [Ap.sc]
 refine Rg.tg 3 (some 5) (v := ?_) rfl (by kernel_rfl) (fun _ _ _ h => h) (by rfl) (hS) ?_ ?_
 rotate_left
 ·intro w hSw; go_simp; first | done | with_reducible rfl
 try simp only [Ap.sc]
 refine Rg.tg 4 (some 6) (v := ?_) rfl (by kernel_rfl) (fun _ _ _ h => h) (by rfl) (hS) ?_ ?_
 rotate_left
 ·intro w hSw; go_simp; first | done | with_reducible rfl
 try simp only [Ap.sc]
 refine Rg.tg 5 (some 7) (v := ?_) rfl (by kernel_rfl) (fun _ _ _ h => h) (by rfl) (hS) ?_ ?_
 rotate_left
 ·intro w hSw; go_simp; first | done | with_reducible rfl
 try simp only [Ap.sc]
 refine Rg.tg 6 (some 8) (v := ?_) rfl (by kernel_rfl) (fun _ _ _ h => h) (by rfl) (hS) ?_ ?_
 rotate_left
 ·intro w hSw; go_simp; first | done | with_reducible rfl
 try simp only [Ap.sc]
 refine Rg.tg 7 (some 9) (v := ?_) rfl (by kernel_rfl) (fun _ _ _ h => h) (by rfl) (hS) ?_ ?_
 rotate_left
 ·intro w hSw; go_simp; first | done | with_reducible rfl
 try simp only [Ap.sc]
 refine Rg.tg 8 (some 10) (v := ?_) rfl (by kernel_rfl) (fun _ _ _ h => h) (by rfl) (hS) ?_ ?_
 rotate_left
 ·intro w hSw; go_simp; first | done | with_reducible rfl
 try simp only [Ap.sc]
 refine Rg.tg 9 (some 11) (v := ?_) rfl (by kernel_rfl) (fun _ _ _ h => h) (by rfl) (hS) ?_ ?_
 rotate_left
 ·intro w hSw; go_simp; first | done | with_reducible rfl
 try simp only [Ap.sc]
 refine wpAnyG_ready (rs := [10]) (by kernel_rfl) (by simp) ?_
 refine AllReadyG.cons (o := ⟨some 12, _, _, _, _, _⟩) rfl (fun K hK => ?_) AllReadyG.nil
 go_simp
 have HG1 := Lib.hid (HG0.out.below (bnew w0 (.cells #[.int .i64 (s.gens.length : Int)] 3)) (HG0.out.lt))
 have HB1 := Lib.hid (HB0.out.below (bnew w0 (.cells #[.int .i64 (s.gens.length : Int)] 3)) (Nat.le_refl _))
 have HA1 := Lib.hid (HA0.out.below (bnew w0 (.cells #[.int .i64 (s.gens.length : Int)] 3)) (Nat.le_refl _))
 have hS1 : (fun v => v.cell? ⟨g, 1, none⟩ = some (.slice A s.gens.length c) ∧ v.cell? ⟨g, 2, none⟩ = some (.slice B s.fr.length d)) (w0.alloc (.cells #[.int .i64 (s.gens.length : Int)] 3)) := ⟨HG1.out.cell 1, HG1.out.cell 2⟩
 refine hK.out _ _ (fun _ => hS1) ?_
 clear hK K
 try simp only [Ap.sc]
 refine wpAnyG_ready (rs := [11]) (by kernel_rfl) (by simp) ?_
 refine AllReadyG.cons (o := ⟨some 13, _, _, _, _, _⟩) rfl (fun K hK => ?_) AllReadyG.nil
 refine step_mine (by kernel_rfl) _ _ elI _ rfl rfl HB1.out _ rfl 1 _ (src_lit Tryz.underlying129 #[.int .i64 (s.gens.length : Int)] 1 1 rfl (by simp [Value.oneCell'])) (by omega) (by omega) (Nat.zero_le _) ?_
 intro B' d' w1 m1 g1 q1
 have HM1 := Lib.hid m1; have HQ1 := Lib.hid q1
 have HO1 := Lib.hid (O0.out.trans (((Only.of_below (bnew w0 (.cells #[.int .i64 (s.gens.length : Int)] 3)) (Nat.le_refl _) F).trans ((only_row g1 (fun a ha => (HBF.out a ha).1)).mono fun _ _ hf => Or.inl hf)).mono fun _ _ hf => Or.inl hf))
 have HG2 := Lib.hid (blk_row HG1.out g1 (fun a ha => (HBF.out a ha).2))
 have HA2 : Hid (Mine 0 2 w1 A s.gens.length c (sl s.gens s.tk)) := HA1.out.only (Only.of_grown g1 (F := fun j => ∃ b, B = some b ∧ b.block = j) (fun k e => by rw [Option.map_eq_some_iff] at e; exact e)) (fun a ha hf => by obtain ⟨b, hb, e⟩ := hf; exact HAB.out a b ha hb e.symm)
 have hS2 : (fun v => v.cell? ⟨g, 1, none⟩ = some (.slice A s.gens.length c) ∧ v.cell? ⟨g, 2, none⟩ = some (.slice B s.fr.length d)) w1 := ⟨HG2.out.cell 1, HG2.out.cell 2⟩
 have HF2 : Hid (∀ b, B' = some b → More F w b.block ∧ b.block ≠ g ∧ ∀ a, A = some a → a.block ≠ b.block) := fun b hb => by
  rcases HQ1.out with h | h
  ·rw [h] at hb; exact ⟨Or.inl (HBF.out b hb).1, (HBF.out b hb).2, fun a ha => HAB.out a b ha hb⟩
  ·have h' := h b hb; have z0 := Z0.out; simp at h'; exact ⟨Or.inr (by omega), by omega, fun a ha => by have := (HA.out.base ha).2.1; omega⟩
 have lz1 : w0.heap.size + 1 ≤ w1.heap.size := by have := g1.size; simpa using this
 have lg1 : g < w1.heap.size := by have := Z0.out; omega
 have lz2 : w.heap.size + 1 ≤ w1.heap.size := by have := Z0.out; omega
 have e2 : w1.cell? ⟨g, 2, none⟩ = some (.slice B s.fr.length d) := HG2.out.cell 2
 have ef2 : w1.frozen? ⟨g, 2, none⟩ = false := HG2.out.frozen 2
 clear m1 g1 q1
 refine hK.out _ _ (fun _ => hS2) ?_
 clear hK K
 try simp only [Ap.sc]
 refine Rg.tg 12 (some 14) (v := ?_) rfl (by kernel_rfl) (fun _ _ _ h => h) (by rfl) (hS2) ?_ ?_
 rotate_left
 ·intro w hSw; go_simp; first | done | with_reducible rfl
 try simp only [Ap.sc]
 refine Rg.tg 13 (some 15) (v := ?_) rfl (by kernel_rfl) (fun _ _ _ h => h) (by rfl) (hS2) ?_ ?_
 rotate_left
 ·intro w hSw; go_simp; first | done | with_reducible rfl
 try simp only [Ap.sc]
 refine wpAnyG_ready (rs := [14]) (by kernel_rfl) (by simp) ?_
 refine AllReadyG.cons (o := ⟨none, _, _, _, _, _⟩) rfl (fun K hK => ?_) AllReadyG.nil
 go_simp
 refine hK.out _ _ (fun h => absurd h (by omega)) ?_
 clear hK K
 try simp only [Ap.sc]
 refine wpAnyG_done (by kernel_rfl) ?_ _
 refine NoPanic.normal ?_
 have HG3 : Hid (Blk (w1.setCell ⟨g, 2, none⟩ (.slice B' (s.fr.length + 1) d')) g #[.int .i64 (m : Int), .slice A s.gens.length c, .slice B' (s.fr.length + 1) d'] 131) := HG2.out.set 2 _
 have HA3 : Hid (Mine 0 2 (w1.setCell ⟨g, 2, none⟩ (.slice B' (s.fr.length + 1) d')) A s.gens.length c (sl s.gens s.tk)) := HA2.out.only (only_own (F := fun j => j = g) rfl _) (fun a ha e => (HAF.out a ha).2 e)
 have HM3 : Hid (Mine 0 1 (w1.setCell ⟨g, 2, none⟩ (.slice B' (s.fr.length + 1) d')) B' (s.fr.length + 1) d' (ints (s.fr ++ [s.gens.length]))) := by
  have := HM1.out.only (only_own (F := fun j => j = g) (i := 2) rfl (.slice B' (s.fr.length + 1) d')) (fun b hb e => (HF2.out b hb).2.1 e)
  rw [ints_snoc]; exact this
 have HO3 : Hid (Only F w (w1.setCell ⟨g, 2, none⟩ (.slice B' (s.fr.length + 1) d'))) := HO1.out.put (ad := ⟨g, 2, none⟩) HF.out _
 obtain ⟨v0, hv0⟩ : ∃ v0, v0 = w1.setCell ⟨g, 2, none⟩ (.slice B' (s.fr.length + 1) d') := ⟨_, rfl⟩
 have hz0 : w1.heap.size ≤ v0.heap.size := by rw [hv0]; simp
 have lg0 : g < v0.heap.size := by omega
 clear hS hS1 hS2 c0 c1 c2 f0 f1 f2 e2 ef2
 rw [← hv0] at HG3 HA3 HM3 HO3 ⊢
 clear hv0 HM1 HG2 HA2 HO1 HG1 HB1 HA1
 obtain ⟨c0, c1, c2, f0, f1, f2⟩ := HG3.out.three
 go_wp2_with (at_builtin; (refine wpList_mine rfl _ _ elS _ rfl rfl (HA3.out.below (bnew v0 (.cells #[.int .i64 1, .bool false] 169)) (Nat.le_refl _)) _ rfl 1 _ (src_lit Tryz.underlying128 #[.int .i64 1, .bool false] 1 2 rfl (by simp [Value.oneCell'])) (by omega) (by omega) (Nat.zero_le _) ?_))
 intro A' c' w2 m2 g2 q2
 have HG4 := Lib.hid (blk_row (HG3.out.below (bnew v0 (.cells #[.int .i64 1, .bool false] 169)) lg0) g2 (fun a ha => (HAF.out a ha).2))
 have HO4 := Lib.hid (HO3.out.trans (((Only.of_below (bnew v0 (.cells #[.int .i64 1, .bool false] 169)) (Nat.le_refl _) F).trans ((only_row g2 (fun a ha => (HAF.out a ha).1)).mono fun _ _ hf => Or.inl hf)).mono fun _ _ hf => Or.inl hf))
 have HM4 : Hid (Mine 0 1 w2 B' (s.fr.length + 1) d' (ints (s.fr ++ [s.gens.length]))) := (HM3.out.below (bnew v0 (.cells #[.int .i64 1, .bool false] 169)) (Nat.le_refl _)).only (Only.of_grown g2 (F := fun j => ∃ b, A = some b ∧ b.block = j) (fun k e => by rw [Option.map_eq_some_iff] at e; exact e)) (fun b hb hf => by obtain ⟨a, ha, e⟩ := hf; exact (HF2.out b hb).2.2 a ha e)
 have HF4 : Hid (∀ a, A' = some a → More F w a.block ∧ a.block ≠ g ∧ ∀ b, B' = some b → a.block ≠ b.block) := fun a ha => by
  rcases q2 with h | h
  ·rw [h] at ha; exact ⟨Or.inl (HAF.out a ha).1, (HAF.out a ha).2, fun b hb => (HF2.out b hb).2.2 a ha⟩
  ·have h' := h a ha; have hz : v0.heap.size + 1 ≤ a.block := by simpa using h'
   exact ⟨Or.inr (by omega), by omega, fun b hb => by have := (HM3.out.base hb).2.1; omega⟩
 have HM5 := Lib.hid m2
 have lg2 : g < w2.heap.size := HG4.out.lt
 clear c0 c1 c2 f0 f1 f2 m2 g2 q2
 obtain ⟨c0, c1, c2, f0, f1, f2⟩ := HG4.out.three
 go_wp2_with fail
 go_end0
 refine ⟨rfl, ⟨⟨A', c', B', d', ?_, Or.inl HF.out, ?_, ?_, fun a ha => ⟨(HF4.out a ha).1, (HF4.out a ha).2.1⟩, fun b hb => ⟨(HF2.out b hb).1, (HF2.out b hb).2.1⟩, fun a b ha hb => (HF4.out a ha).2.2 b hb⟩, HI.out, by omega, by omega⟩, HO4.out.put (ad := ⟨g, 1, none⟩) HF.out _⟩
 ·rw [List.length_append, List.length_append]; exact HG4.out.set 1 _
 ·rw [sl_snoc _ _ _ _ HT.out, List.length_append]
  exact HM5.out.only (only_own (F := fun j => j = g) rfl _) (fun a ha e => (HF4.out a ha).2.1 e)
 ·rw [List.length_append]
  exact HM4.out.only (only_own (F := fun j => j = g) rfl _) (fun b hb e => (HF2.out b hb).2.1 e)
end Go.Proofs.YtlmljhnogmfcfaaGreat.Nc
namespace Go.Proofs.YtlmljhnogmfcfaaGreat.Nd
open Go.RowKit Ap Mi Nm Nw Na Nb Rg Nc

def takePost (F : Nat → Prop) (w : World) (g m G : Nat) (s : St) : Ending → World → Prop := fun e w' =>
 e = .returned (.tuple #[.agg #[.int .i64 (tkN m s), .int .i64 (tkG m s)], .int .i64 (tkE m s)]) ∧ Are (More F w) w' g m G (tkS m s) ∧ Only F w w'
theorem only_set {F : Nat → Prop} {w w' : World} {g : Nat} {i : Nat} {v : Value} (h : Only F w w') (hF : F g ∨ w.heap.size ≤ g) : Only F w (w'.setCell ⟨g, i, none⟩ v) := h.setCell (ad := ⟨g, i, none⟩) hF v
theorem more_of {F : Nat → Prop} {w w0 : World} (hz : w.heap.size ≤ w0.heap.size) : ∀ j, More (fun j => F j ∧ j < w.heap.size) w0 j → More F w j := fun j hj => by
 rcases hj with hj | hj
 ·exact Or.inl hj.1
 ·exact Or.inr (by omega)
theorem ints_get {l : List Nat} {k : Nat} {x : Nat} (h : l[k]? = some x) : (ints l)[k]? = some (.int .i64 (x : Int)) := by unfold ints; rw [List.getElem?_map, h]; rfl
theorem take_facts {F : Nat → Prop} {w : World} {g m G : Nat} {s : St} (h : Are F w g m G s) {r : List Nat} {n : Nat} (hf : s.fr = r ++ [n]) :
  ∃ gA oA c gB oB d, Blk w g #[.int .i64 (m : Int), .slice (some ⟨gA, oA, none⟩) s.gens.length c, .slice (some ⟨gB, oB, none⟩) (r.length + 1) d] 131 ∧ gA < w.heap.size ∧ gB < w.heap.size ∧ gA ≠ g ∧ gB ≠ g ∧ gA ≠ gB ∧ F gA ∧ F gB ∧
   r.length + 1 ≤ d ∧ d ≤ maxLen ∧ n < s.gens.length ∧ w.cell? ⟨gB, oB + r.length, none⟩ = some (.int .i64 (n : Int)) ∧ w.cell? ⟨gA, oA + n * 2 + 1, none⟩ = some (.bool false) ∧ w.frozen? ⟨gA, oA + n * 2 + 1, none⟩ = false ∧
   Are F ((w.setCell ⟨g, 2, none⟩ (.slice (some ⟨gB, oB, none⟩) r.length d)).setCell ⟨gA, oA + n * 2 + 1, none⟩ (.bool true)) g m G ⟨s.gens, s.tk.set n true, r⟩ ∧
   Only F w ((w.setCell ⟨g, 2, none⟩ (.slice (some ⟨gB, oB, none⟩) r.length d)).setCell ⟨gA, oA + n * 2 + 1, none⟩ (.bool true)) := by
 have hn : n < s.gens.length := h.inv.lt (by rw [hf]; simp)
 have hfre := h.inv.fre n (by rw [hf]; simp)
 have hi := tk_inv h.inv (M := m) (G := G)
 obtain ⟨A, c, B, d, h1, h2, h3, h4, h5, h6, h7⟩ := h.has
 have htl := h.inv.tl
 obtain ⟨e0, e1⟩ := sl_get s.gens s.tk htl n hn
 obtain ⟨gA, oA, rfl, _, lA⟩ := mine_place h3 (by have := (List.getElem?_eq_some_iff.1 e0).1; omega)
 have eb : (ints s.fr)[r.length]? = some (.int .i64 (n : Int)) := ints_get (by rw [hf]; simp)
 obtain ⟨gB, oB, rfl, _, lB⟩ := mine_place h4 (by have := (List.getElem?_eq_some_iff.1 eb).1; omega)
 have hlen : s.fr.length = r.length + 1 := by rw [hf]; simp
 rw [hlen] at h1 h4
 have hA := h5 _ rfl; have hB := h6 _ rfl; have hAB := h7 _ _ rfl rfl
 simp only at hA hB hAB
 have hfr1 : (sl s.gens s.tk)[n * 2 + 1]? = some (.bool false) := by
  rw [e1]
  rw [List.getElem?_eq_getElem (by omega)] at hfre
  injection hfre with hfre
  rw [hfre]
 have cA := mine_cell h3 hfr1
 have hinv : Inv m G ⟨s.gens, s.tk.set n true, r⟩ := by
  rwa [(tk_old hf).1] at hi
 refine ⟨gA, oA, c, gB, oB, d, h1, lA, lB, hA.2, hB.2, hAB, hA.1, hB.1, h4.le, h4.max, hn, (mine_cell h4 eb).1, by rw [Nat.add_assoc]; exact cA.1, by rw [Nat.add_assoc]; exact cA.2, ⟨⟨some ⟨gA, oA, none⟩, c, some ⟨gB, oB, none⟩, d, ?_, h2, ?_, ?_, h5, h6, h7⟩, hinv, h.lo, h.hi⟩, ?_⟩
 ·exact (h1.set 2 _).only (only_own (F := fun j => j = gA) rfl _) (fun e => hA.2 e.symm)
 ·rw [Nat.add_assoc]
  exact mine_put (h3.only (only_own (F := fun j => j = g) rfl _) (fun a ha e => (h5 a ha).2 e)) (n * 2 + 1) _ (List.getElem?_eq_some_iff.1 hfr1).1 (sl_setT _ _ _ _ hn)
 ·have hs := shrink h4 (show r.length ≤ r.length + 1 from by omega)
  have ht : (ints s.fr).take (r.length * 1) = ints r := by rw [hf]; unfold ints; simp
  rw [ht] at hs
  exact (hs.only (only_own (F := fun j => j = g) rfl _) (fun a ha e => (h6 a ha).2 e)).only (only_own (F := fun j => j = gA) rfl _) (fun a ha e => by injection ha with ha; subst ha; exact hAB e.symm)
 ·exact ((Only.refl F w).put (ad := ⟨g, 2, none⟩) h2 _).put (ad := ⟨gA, oA + n * 2 + 1, none⟩) hA.1 _
set_option maxRecDepth 100000 in
set_option maxHeartbeats 1000000 in
theorem take_any {F : Nat → Prop} {w : World} {g m G : Nat} {s : St} (h : Are F w g m G s) :
  Calls Tryz.prog 105 #[.pointer (some ⟨g, 0, none⟩)] w (takePost F w g m G s) := by
 have lg := h.lt
 obtain ⟨w0, hw0⟩ : ∃ w0, w0 = w.alloc (.cells #[.int .i64 0, .int .i64 0] 149) := ⟨_, rfl⟩
 have b0 : Below w.heap.size w w0 := by rw [hw0]; exact bnew _ _
 have r0 : Blk w0 w.heap.size #[.int .i64 0, .int .i64 0] 149 := by rw [hw0]; exact Blk.new _ _ _
 have h0 := h.tight.below b0 (Nat.le_refl _)
 have lz0 : w.heap.size < w0.heap.size := r0.lt
 have hg0 := h.inv.le; have hfr := h.inv.frl; have hhi := h.hi
 have HH := Lib.hid h; have H0 := Lib.hid h0; have R0 := Lib.hid r0; have B0 := Lib.hid b0
 have HU := Lib.hid (usable_any h0)
 obtain ⟨A, c, B, d, h1, _⟩ := h0.has
 obtain ⟨c0, c1, c2, _, _, _⟩ := h1.three
 clear h h0 r0 b0 h1
 unfold takePost
 have HIN : Hid (∀ (W : World) (e : Ending), (e = .returned (.tuple #[.agg #[.int .i64 (tkN m s), .int .i64 (tkG m s)], .int .i64 (tkE m s)]) ∧ Are (More (fun j => F j ∧ j < w.heap.size) w0) W g m G (tkS m s) ∧ Only (fun j => (F j ∧ j < w.heap.size) ∨ j = w.heap.size) w0 W) →
   e = .returned (.tuple #[.agg #[.int .i64 (tkN m s), .int .i64 (tkG m s)], .int .i64 (tkE m s)]) ∧ Are (More F w) W g m G (tkS m s) ∧ Only F w W) := fun W e ⟨e1, e2, e3⟩ =>
  ⟨e1, e2.mono (fun j _ hj => more_of (Nat.le_of_lt lz0) j hj), (Only.of_below B0.out (Nat.le_refl _) F).trans (e3.mono fun _ _ hf => by rcases hf with hf | hf; exact Or.inl hf.1; exact Or.inr (Nat.le_of_eq hf.symm))⟩
 rcases tk_ways m s with ⟨hf, hM⟩ | ⟨hf, hM⟩ | ⟨r, n, hf⟩
 case inl =>
  obtain ⟨t1, t2, t3, t4⟩ := tk_full hf hM
  rw [t1, t2, t3, t4]
  rw [hf] at c2
  rw [hM] at c1
  clear HIN t1 t2 t3 t4 hf hM
  go_enter Tryz.func105, Tryz.ntmps105
  go_wp2_with fail
  rw [← hw0]
  clear hw0
  refine HU.out.mono ?_
  rintro e w1 ⟨rfl, rfl⟩
  go_wp2_with fail
  obtain ⟨e0, e1, ef0, ef1⟩ := R0.out.two
  go_quiet (fail)
  go_wp2_with fail
  refine bodyPost_ret (v := .tuple #[.agg #[.int .i64 0, .int .i64 0], .int .i64 7]) (by simp [results, Tryz.results105, go_sem, e0, e1]) rfl ⟨rfl, ?_, ?_⟩
  ·exact ((H0.out.drewN nq).only ((only_own (F := fun j => j = w.heap.size) (i := 0) rfl (.int .i64 0)).trans ((only_own (F := fun j => j = w.heap.size) (i := 1) rfl (.int .i64 0)).mono fun _ _ h => Or.inl h)) (fun j hj e => by have := hj.2; omega)).mono (fun j _ hj => Or.inl hj.1)
  ·exact only_set (only_set ((Only.of_below B0.out (Nat.le_refl _) F).drewN nq) (Or.inr (Nat.le_refl _))) (Or.inr (Nat.le_refl _))
 case' inr.inl =>
  obtain ⟨t1, t2, t3, t4⟩ := tk_new hf hM
  rw [t1, t2, t3, t4] at HIN ⊢
  have HMK := Lib.hid fun nq => make_any (H0.out.drewN nq) (by omega)
  have hM' : ((s.gens.length : Int) == (m : Int)) = false := by rw [beq_eq_false_iff_ne]; omega
  have htl := H0.out.inv.tl
  rw [hf] at c2
  obtain ⟨s1, hs1⟩ : ∃ s1 : St, s1 = ⟨s.gens ++ [1], s.tk ++ [false], s.fr ++ [s.gens.length]⟩ := ⟨_, rfl⟩
  obtain ⟨n, hn⟩ : ∃ n, n = s.gens.length := ⟨_, rfl⟩
  obtain ⟨r, hr⟩ : ∃ r : List Nat, r = [] := ⟨_, rfl⟩
  have HR : Hid (s1.fr = r ++ [n]) := by show _ = _; rw [hs1, hr, hn, hf]
  have e1 : (⟨s.gens ++ [1], s.tk ++ [true], []⟩ : St) = ⟨s1.gens, s1.tk.set n true, r⟩ := by
   rw [hs1, hr, hn]
   refine st_eq rfl ?_ rfl
   show _ = (s.tk ++ [false]).set s.gens.length true
   rw [← htl, List.set_append_right _ _ (Nat.le_refl _), Nat.sub_self]; rfl
  have e2 : (1 : Int) = gv (genAt s1 (n : Int)) := by
   rw [hs1, hn]; unfold genAt; simp [gv_one]
  rw [e1, ← hn, e2] at HIN
  rw [e1, ← hn, e2]
  have HS1 := Lib.hid hs1
  clear t1 t2 t3 t4 hf e1 e2 hr hs1 htl hn
  go_enter Tryz.func105, Tryz.ntmps105
  go_wp2_with fail
  rw [← hw0]
  clear hw0
  refine HU.out.mono ?_
  rintro e w1 ⟨rfl, rfl⟩
  go_wp2_with fail
  go_quiet (fail)
  go_wp2_with fail
  refine (HMK.out _).mono ?_
  rintro e v1 ⟨rfl, ha, ho⟩
  have HA1 : Hid (Are (More (fun j => F j ∧ j < w.heap.size) w0) v1 g m G s1) := by rw [HS1.out]; exact ha
  have HO1 : Hid (Only (fun j => F j ∧ j < w.heap.size) w0 v1) := ((Only.refl _ w0).drewN nq).trans (ho.mono fun _ _ hf => Or.inl hf)
  have R1 : Hid (Blk v1 w.heap.size #[.int .i64 0, .int .i64 0] 149) := R0.out.only HO1.out (fun hf => by have := hf.2; omega)
  clear ha ho c0 c1 c2 hM hM' HMK hg0 hfr
  go_upto_region 7 with (fail)
 case' inr.inr =>
  obtain ⟨t1, t2, t3, t4⟩ := tk_old (M := m) hf
  rw [t1, t2, t3, t4] at HIN ⊢
  obtain ⟨s1, hs1⟩ : ∃ s1 : St, s1 = s := ⟨_, rfl⟩
  have HS1 := Lib.hid hs1
  rw [← hs1] at hf HIN hg0 hfr H0 c1 c2 ⊢
  have HR : Hid (s1.fr = r ++ [n]) := hf
  have hfl : (s1.fr.length : Int) ≠ 0 := by rw [hf]; simp; omega
  have hfl' : ((s1.fr.length : Int) == 0) = false := by rw [beq_eq_false_iff_ne]; exact hfl
  obtain ⟨v1, hv1⟩ : ∃ v1, v1 = w0 := ⟨_, rfl⟩
  rw [← hv1] at HU hw0
  rw [← hv1] at c0 c1 c2
  have HA1 : Hid (Are (More (fun j => F j ∧ j < w.heap.size) w0) v1 g m G s1) := by rw [hv1]; exact H0.out.mono (fun _ _ hj => Or.inl hj)
  have HO1 : Hid (Only (fun j => F j ∧ j < w.heap.size) w0 v1) := by rw [hv1]; exact Only.refl _ _
  have R1 : Hid (Blk v1 w.heap.size #[.int .i64 0, .int .i64 0] 149) := by rw [hv1]; exact R0.out
  clear t1 t2 t3 t4 hs1 hv1 hf hfl
  go_enter Tryz.func105, Tryz.ntmps105
  go_wp2_with fail
  rw [← hw0]
  clear hw0
  refine HU.out.mono ?_
  rintro e w1 ⟨rfl, rfl⟩
  go_upto_region 7 with (fail)
  clear c0 c1 c2 hg0 hfr hfl'
 all_goals
  obtain ⟨gA, oA, cA, gB, oB, dB, k1, k2, k3, k4, k5, k6, kF, _, k7, k8, k9, k10, k11, k12, k13, k14⟩ := take_facts HA1.out HR.out
  obtain ⟨c0, c1, c2, f0, f1, f2⟩ := k1.three
  obtain ⟨e0, e1, ef0, ef1⟩ := R1.out.two
  have hle := HA1.out.inv.le
  have lv := HO1.out.size
  unfold maxLen at k8
  have i1 : (n : Int) < (s1.gens.length : Int) := by omega
  have i2 : (r.length : Int) < (r.length : Int) + 1 := by omega
  have n1 : ¬ gA = w.heap.size := fun e => by rcases kF with hf | hf; exact absurd hf.2 (by omega); omega
  have n2 : ¬ w.heap.size = gA := fun e => n1 e.symm
  have n3 : ¬ g = gA := fun e => k4 e.symm
  have n4 : ¬ g = w.heap.size := by omega
  have n5 : ¬ w.heap.size = g := by omega
  clear kF
  have K13 := Lib.hid k13; have K14 := Lib.hid k14
  clear k1 k13 k14
  go_wp2_with fail
  refine (ref_any K13.out n k9).mono ?_
  rintro e w3 ⟨rfl, hb⟩
  have HB := Lib.hid hb
  have hz3 := hb.size
  have hx2 : genAt ⟨s1.gens, s1.tk.set n true, r⟩ (n : Int) = genAt s1 (n : Int) := rfl
  rw [hx2]
  have b3 : Blk w3 w.heap.size #[.int .i64 0, .int .i64 0] 149 := (R1.out.only (F := fun j => j = g ∨ j = gA) (((Only.refl (fun j => j = g ∨ j = gA) v1).put (ad := ⟨g, 2, none⟩) (Or.inl rfl) _).put (ad := ⟨gA, oA + n * 2 + 1, none⟩) (Or.inr rfl) _) (fun e => by rcases e with e | e; exact n5 e; exact n2 e)).below hb (by simp; omega)
  obtain ⟨d0, d1, df0, df1⟩ := b3.two
  clear hb hx2 b3
  go_wp2_with fail
  refine bodyPost_ret (v := .tuple #[.agg #[.int .i64 (n : Int), .int .i64 (gv (genAt s1 (n : Int)))], .int .i64 0]) (by simp [results, Tryz.results105, go_sem, d0, d1]) rfl (HIN.out _ _ ⟨rfl, ?_, ?_⟩)
  ·exact (K13.out.below HB.out (Nat.le_refl _)).only ((only_own (F := fun j => j = w.heap.size) rfl _).trans ((only_own (F := fun j => j = w.heap.size) rfl _).mono fun _ _ h => Or.inl h)) (fun j hj e => by rcases hj with hj | hj; have := hj.2; omega; omega)
  ·refine only_set (only_set (((HO1.out.mono fun _ _ hf => Or.inl hf).trans (K14.out.mono fun j _ hf => ?_)).trans (Only.of_below HB.out (Nat.le_refl _) _)) (Or.inl (Or.inr rfl))) (Or.inl (Or.inr rfl))
   rcases hf with hf | hf
   ·exact Or.inl (Or.inl hf)
   ·exact Or.inr hf
end Go.Proofs.YtlmljhnogmfcfaaGreat.Nd
namespace Go.Proofs.YtlmljhnogmfcfaaGreat.Nx
open Go.RowKit Ap Mi Nm Nw Na Nb Rg Nc Nd

theorem free_facts {F : Nat → Prop} {w : World} {g m G : Nat} {s : St} (h : Are F w g m G s) {k : Nat} {x : Int} (hb : hasB s (k : Int) x = true) :
  ∃ gA oA c B d, Blk w g #[.int .i64 (m : Int), .slice (some ⟨gA, oA, none⟩) s.gens.length c, .slice B s.fr.length d] 131 ∧ gA < w.heap.size ∧ gA ≠ g ∧ F gA ∧ F g ∧ k < s.gens.length ∧
   Mine 0 2 w (some ⟨gA, oA, none⟩) s.gens.length c (sl s.gens s.tk) ∧ Mine 0 1 w B s.fr.length d (ints s.fr) ∧ (∀ b, B = some b → F b.block ∧ b.block ≠ g ∧ b.block ≠ gA) ∧
   (∃ v, w.cell? ⟨gA, oA + k * 2, none⟩ = some v) ∧ (∃ v, w.cell? ⟨gA, oA + k * 2 + 1, none⟩ = some v) ∧ w.frozen? ⟨gA, oA + k * 2, none⟩ = false ∧ w.frozen? ⟨gA, oA + k * 2 + 1, none⟩ = false ∧
   (∀ W, Mine 0 2 W (some ⟨gA, oA, none⟩) s.gens.length c (sl s.gens s.tk) → Mine 0 2 ((W.setCell ⟨gA, oA + k * 2, none⟩ (.int .i64 (IntKind.i64.wrap (x + 1)))).setCell ⟨gA, oA + k * 2 + 1, none⟩ (.bool false)) (some ⟨gA, oA, none⟩) s.gens.length c (sl (s.gens.set k (genAt s (k : Int) + 1)) (s.tk.set k false))) := by
 obtain ⟨hi, hg⟩ := has_spec hb
 obtain ⟨_, hi2⟩ := ist_spec hi
 rw [Int.toNat_natCast] at hi2
 have htl := h.inv.tl
 have hk : k < s.gens.length := by rw [← htl]; exact (List.getElem?_eq_some_iff.1 hi2).1
 obtain ⟨A, c, B, d, h1, h2, h3, h4, h5, h6, h7⟩ := h.has
 obtain ⟨e0, e1⟩ := sl_get s.gens s.tk htl k hk
 obtain ⟨gA, oA, rfl, _, lA⟩ := mine_place h3 (by have := (List.getElem?_eq_some_iff.1 e0).1; omega)
 have c0 := mine_cell h3 e0
 have c1 := mine_cell h3 e1
 rw [← Nat.add_assoc] at c1
 refine ⟨gA, oA, c, B, d, h1, lA, (h5 _ rfl).2, (h5 _ rfl).1, h2, hk, h3, h4, fun b hb => ⟨(h6 b hb).1, (h6 b hb).2, fun e => h7 _ b rfl hb e.symm⟩, ⟨_, c0.1⟩, ⟨_, c1.1⟩, c0.2, c1.2, fun W hW => ?_⟩
 have s0 := mine_put hW (k * 2) (.int .i64 (gv (genAt s (k : Int) + 1))) (List.getElem?_eq_some_iff.1 e0).1 (sl_setG _ _ _ _)
 have s1 := mine_put s0 (k * 2 + 1) (.bool false) (by rw [sl_len _ _ (by simpa using htl)]; simp; omega) (sl_setT _ _ _ _ (by simpa using hk))
 rw [← Nat.add_assoc, gv_succ, hg] at s1
 exact s1
theorem frS_nat {s : St} {k : Nat} {x : Int} (hb : hasB s (k : Int) x = true) : frS s (k : Int) x = ⟨s.gens.set k (genAt s (k : Int) + 1), s.tk.set k false, s.fr ++ [k]⟩ := by
 rw [(fr_yes hb).1]; rfl

set_option maxRecDepth 100000 in
set_option maxHeartbeats 1000000 in
theorem free_yes {F : Nat → Prop} {w : World} {g m G : Nat} {s : St} (h : Are F w g m G s) (k : Nat) (x : Int) (hb : hasB s (k : Int) x = true) :
  Calls Tryz.prog 94 #[.pointer (some ⟨g, 0, none⟩), .agg #[.int .i64 (k : Int), .int .i64 x]] w (fun e w' => e = .returned (.int .i64 0) ∧ Are (More F w) w' g m G (frS s (k : Int) x) ∧ Only F w w') := by
 have lg := h.lt
 have HH := Lib.hid h
 have HE := Lib.hid (frS_nat hb)
 have HI := Lib.hid (fr_inv h.inv (k : Int) x)
 have h0 := h.tight.below (bnew w (.cells #[.int .i64 (k : Int), .int .i64 x] 149)) (Nat.le_refl _)
 have HA := Lib.hid (at_any h0 (k : Int))
 have HB0 := Lib.hid (Blk.new w #[.int .i64 (k : Int), .int .i64 x] 149)
 have H0 := Lib.hid h0
 have HHB := Lib.hid hb
 obtain ⟨hi, hgx⟩ := has_spec hb
 obtain ⟨q0, q1, q2⟩ := ans_yes hi
 unfold atPost at HA
 rw [q0, q1, q2, hgx] at HA
 clear h h0 hb hi q0 q1 q2 hgx
 go_enter Tryz.func94, Tryz.ntmps94
 go_wp2_with fail
 refine HA.out.mono ?_
 rintro e w1 ⟨rfl, hb⟩
 have HB := Lib.hid hb
 have b1 := HB0.out.below hb (by simp)
 have HB1 := Lib.hid b1
 obtain ⟨d0, d1, d2, d3⟩ := b1.two
 have hz := b1.lt
 have H1 := Lib.hid (H0.out.below hb (Nat.le_refl _))
 clear hb b1
 go_wp2_with fail
 obtain ⟨w2, hw2⟩ : ∃ w2, w2 = w1.alloc (.cells #[.int .i64 (k : Int), .int .i64 x] 149) := ⟨_, rfl⟩
 have b2 : Below w1.heap.size w1 w2 := by rw [hw2]; exact bnew _ _
 have H2 := Lib.hid (H1.out.below b2 (Nat.le_refl _))
 have HB2 := Lib.hid (HB1.out.below b2 hz)
 have O2 : Hid (Only F w w2) := Only.of_below (((bnew w (.cells #[.int .i64 (k : Int), .int .i64 x] 149)).trans (HB.out.mono (by simp))).trans (b2.mono (by omega))) (Nat.le_refl _) F
 rw [← hw2]
 clear hw2 b2
 obtain ⟨gA, oA, c, B, d, k1, k2, k3, k4, k5, k6, k8, k9, k10, ⟨v1, k11⟩, ⟨v2, k12⟩, k13, k14, k15⟩ := free_facts H2.out HHB.out
 obtain ⟨c0, c1, c2, f0, f1, f2⟩ := k1.three
 obtain ⟨d0, d1, df0, df1⟩ := HB2.out.two
 have n1 : ¬ gA = g := k3
 have n2 : ¬ g = gA := fun e => k3 e.symm
 have n3 : ¬ gA = w.heap.size := by have := k4.2; omega
 have n4 : ¬ w.heap.size = gA := by omega
 have hle := H2.out.inv.le; have hhi := H2.out.hi
 have i1 : (k : Int) < (s.gens.length : Int) := by omega
 have HG := Lib.hid k1; have HM := Lib.hid k8; have HN := Lib.hid k9; have HBF := Lib.hid k10; have HP := Lib.hid k15; have HFA := Lib.hid k4; have HFG := Lib.hid k5
 clear k1 k8 k9 k10 k15 k4 k5
 have hS : (fun v => v.cell? ⟨g, 1, none⟩ = some (.slice (some ⟨gA, oA, none⟩) s.gens.length c) ∧ v.cell? ⟨w.heap.size, 0, none⟩ = some (.int .i64 (k : Int)) ∧ v.cell? ⟨w.heap.size, 1, none⟩ = some (.int .i64 x)) w2.drew := ⟨c1, d0, d1⟩
 have HGd := Lib.hid (show Blk w2.drew g _ _ from HG.out)
 have HMd := Lib.hid (mine_drew HM.out)
 have HNd := Lib.hid (mine_drew HN.out)
 have HBd := Lib.hid (show Blk w2.drew w.heap.size _ _ from HB2.out)
 have O2d := Lib.hid O2.out.drew
 have lzd : w2.heap.size ≤ w2.drew.heap.size := Nat.le_refl _
 refine wp_region_noPanic ?_
 refine wp_region_G 11 (fun v => v.cell? ⟨g, 1, none⟩ = some (.slice (some ⟨gA, oA, none⟩) s.gens.length c) ∧ v.cell? ⟨w.heap.size, 0, none⟩ = some (.int .i64 (k : Int)) ∧ v.cell? ⟨w.heap.size, 1, none⟩ = some (.int .i64 x)) (by kernel_rfl) ?_
 generalize w2.drew = u2 at HGd HMd HNd HBd O2d lzd hS ⊢
 have k11' : ∃ v, u2.cell? ⟨gA, oA + k * 2, none⟩ = some v := by obtain ⟨e0, _⟩ := sl_get s.gens s.tk H2.out.inv.tl k k6; exact ⟨_, (mine_cell HMd.out e0).1⟩
 have k12' : ∃ v, u2.cell? ⟨gA, oA + k * 2 + 1, none⟩ = some v := by obtain ⟨_, e1⟩ := sl_get s.gens s.tk H2.out.inv.tl k k6; exact ⟨_, by have := (mine_cell HMd.out e1).1; rwa [← Nat.add_assoc] at this⟩
 have k13' : u2.frozen? ⟨gA, oA + k * 2, none⟩ = false := by obtain ⟨e0, _⟩ := sl_get s.gens s.tk H2.out.inv.tl k k6; exact (mine_cell HMd.out e0).2
 have k14' : u2.frozen? ⟨gA, oA + k * 2 + 1, none⟩ = false := by obtain ⟨_, e1⟩ := sl_get s.gens s.tk H2.out.inv.tl k k6; have := (mine_cell HMd.out e1).2; rwa [← Nat.add_assoc] at this
 obtain ⟨v3, k11'⟩ := k11'
 obtain ⟨v4, k12'⟩ := k12'
 clear k11 k12 k13 k14 c0 c1 c2 f0 f1 f2 d0 d1 df0 df1
 obtain ⟨c0, c1, c2, f0, f1, f2⟩ := HGd.out.three
 obtain ⟨d0, d1, df0, df1⟩ := HBd.out.two
 refine Rg.tg 0 (some 20) (v := ?_) rfl (by kernel_rfl) (fun _ _ _ h => h) (by rfl) (hS) ?_ ?_
 rotate_left
 ·intro w hSw; go_simp; first | done | with_reducible rfl
 try simp only [Ap.sc]
 refine Rg.tg 1 (some 21) (v := ?_) rfl (by kernel_rfl) (fun _ _ _ h => h) (by rfl) (hS) ?_ ?_
 rotate_left
 ·intro w hSw; go_simp; first | done | with_reducible rfl
 try simp only [Ap.sc]
 refine Rg.tg 2 (some 22) (v := ?_) rfl (by kernel_rfl) (fun _ _ _ h => h) (by rfl) (hS) ?_ ?_
 rotate_left
 ·intro w hSw; go_simp; first | done | with_reducible rfl
 try simp only [Ap.sc]
 refine Rg.tg 3 (some 23) (v := ?_) rfl (by kernel_rfl) (fun _ _ _ h => h) (by rfl) (hS) ?_ ?_
 rotate_left
 ·intro w hSw; go_simp; first | done | with_reducible rfl
 try simp only [Ap.sc]
 refine Rg.tg 4 (some 24) (v := ?_) rfl (by kernel_rfl) (fun _ _ _ h => h) (by rfl) (hS) ?_ ?_
 rotate_left
 ·intro w hSw; go_simp; first | done | with_reducible rfl
 try simp only [Ap.sc]
 refine Rg.tg 5 (some 25) (v := ?_) rfl (by kernel_rfl) (fun _ _ _ h => h) (by rfl) (hS) ?_ ?_
 rotate_left
 ·intro w hSw; go_simp; first | done | with_reducible rfl
 try simp only [Ap.sc]
 refine Rg.tg 6 (some 26) (v := ?_) rfl (by kernel_rfl) (fun _ _ _ h => h) (by rfl) (hS) ?_ ?_
 rotate_left
 ·intro w hSw; go_simp; first | done | with_reducible rfl
 try simp only [Ap.sc]
 refine Rg.tg 7 (some 27) (v := ?_) rfl (by kernel_rfl) (fun _ _ _ h => h) (by rfl) (hS) ?_ ?_
 rotate_left
 ·intro w hSw; go_simp; first | done | with_reducible rfl
 try simp only [Ap.sc]
 refine Rg.tg 8 (some 28) (v := ?_) rfl (by kernel_rfl) (fun _ _ _ h => h) (by rfl) (hS) ?_ ?_
 rotate_left
 ·intro w hSw; go_simp; first | done | with_reducible rfl
 try simp only [Ap.sc]
 refine Rg.tg 9 (some 29) (v := ?_) rfl (by kernel_rfl) (fun _ _ _ h => h) (by rfl) (hS) ?_ ?_
 rotate_left
 ·intro w hSw; go_simp; first | done | with_reducible rfl
 try simp only [Ap.sc]
 refine Rg.tg 10 (some 30) (v := ?_) rfl (by kernel_rfl) (fun _ _ _ h => h) (by rfl) (hS) ?_ ?_
 rotate_left
 ·intro w hSw; go_simp; first | done | with_reducible rfl
 try simp only [Ap.sc]
 refine wpAnyG_ready (rs := [11]) (by kernel_rfl) (by simp) ?_
 refine AllReadyG.cons (o := ⟨none, _, _, _, _, _⟩) rfl (fun K hK => ?_) AllReadyG.nil
 go_simp
 refine hK.out _ _ (fun h => absurd h (by omega)) ?_
 clear hK K
 try simp only [Ap.sc]
 refine wpAnyG_done (by kernel_rfl) ?_ _
 refine NoPanic.normal ?_
 have HM3 := Lib.hid (HP.out u2 HMd.out)
 obtain ⟨w3, hw3⟩ : ∃ w3, w3 = (u2.setCell ⟨gA, oA + k * 2, none⟩ (.int .i64 (IntKind.i64.wrap (x + 1)))).setCell ⟨gA, oA + k * 2 + 1, none⟩ (.bool false) := ⟨_, rfl⟩
 have O3' : Only (fun j => j = gA) u2 w3 := by rw [hw3]; exact ((Only.refl (fun j => j = gA) u2).put (ad := ⟨gA, oA + k * 2, none⟩) rfl _).put (ad := ⟨gA, oA + k * 2 + 1, none⟩) rfl _
 have HG3 := Lib.hid (HGd.out.only O3' n2)
 have HB3 := Lib.hid (HBd.out.only O3' n4)
 have HN3 := Lib.hid (HNd.out.only O3' (fun b hb e => (HBF.out b hb).2.2 e))
 have O3 := Lib.hid (O2d.out.trans (O3'.mono fun j _ e => Or.inl (by rw [e]; exact HFA.out.1)))
 rw [← hw3] at HM3
 try rw [← hw3]
 have lz3 : u2.heap.size ≤ w3.heap.size := O3'.size
 clear hS c0 c1 c2 f0 f1 f2 d0 d1 df0 df1 O3' hw3 k11' k12' k13' k14'
 obtain ⟨c0, c1, c2, f0, f1, f2⟩ := HG3.out.three
 obtain ⟨d0, d1, df0, df1⟩ := HB3.out.two
 have hfr := H2.out.inv.frl
 go_wp2_with fail
 have HGe := Lib.hid (show Blk w3.drew g _ _ from HG3.out)
 have HMe := Lib.hid (mine_drew HM3.out)
 have HNe := Lib.hid (mine_drew HN3.out)
 have HBe := Lib.hid (show Blk w3.drew w.heap.size _ _ from HB3.out)
 have O3e := Lib.hid O3.out.drew
 have lze : w3.heap.size ≤ w3.drew.heap.size := Nat.le_refl _
 have hS : (fun v => v.cell? ⟨g, 2, none⟩ = some (.slice B s.fr.length d) ∧ v.cell? ⟨w.heap.size, 0, none⟩ = some (.int .i64 (k : Int))) w3.drew := ⟨c2, d0⟩
 refine wp_region_noPanic ?_
 refine wp_region_G 11 (fun v => v.cell? ⟨g, 2, none⟩ = some (.slice B s.fr.length d) ∧ v.cell? ⟨w.heap.size, 0, none⟩ = some (.int .i64 (k : Int))) (by kernel_rfl) ?_
 generalize w3.drew = u3 at HGe HMe HNe HBe O3e lze hS ⊢
 refine Rg.tg 0 (some 31) (v := ?_) rfl (by kernel_rfl) (fun _ _ _ h => h) (by rfl) (hS) ?_ ?_
 rotate_left
 ·intro w hSw; go_simp; first | done | with_reducible rfl
 try simp only [Ap.sc]
 refine Rg.tg 1 (some 32) (v := ?_) rfl (by kernel_rfl) (fun _ _ _ h => h) (by rfl) (hS) ?_ ?_
 rotate_left
 ·intro w hSw; go_simp; first | done | with_reducible rfl
 try simp only [Ap.sc]
 refine Rg.tg 2 (some 33) (v := ?_) rfl (by kernel_rfl) (fun _ _ _ h => h) (by rfl) (hS) ?_ ?_
 rotate_left
 ·intro w hSw; go_simp; first | done | with_reducible rfl
 try simp only [Ap.sc]
 refine Rg.tg 3 (some 34) (v := ?_) rfl (by kernel_rfl) (fun _ _ _ h => h) (by rfl) (hS) ?_ ?_
 rotate_left
 ·intro w hSw; go_simp; first | done | with_reducible rfl
 try simp only [Ap.sc]
 refine Rg.tg 4 (some 35) (v := ?_) rfl (by kernel_rfl) (fun _ _ _ h => h) (by rfl) (hS) ?_ ?_
 rotate_left
 ·intro w hSw; go_simp; first | done | with_reducible rfl
 try simp only [Ap.sc]
 refine Rg.tg 5 (some 36) (v := ?_) rfl (by kernel_rfl) (fun _ _ _ h => h) (by rfl) (hS) ?_ ?_
 rotate_left
 ·intro w hSw; go_simp; first | done | with_reducible rfl
 try simp only [Ap.sc]
 refine Rg.tg 6 (some 37) (v := ?_) rfl (by kernel_rfl) (fun _ _ _ h => h) (by rfl) (hS) ?_ ?_
 rotate_left
 ·intro w hSw; go_simp; first | done | with_reducible rfl
 try simp only [Ap.sc]
 refine wpAnyG_ready (rs := [7]) (by kernel_rfl) (by simp) ?_
 refine AllReadyG.cons (o := ⟨some 38, _, _, _, _, _⟩) rfl (fun K hK => ?_) AllReadyG.nil
 go_simp
 have HG4 := Lib.hid (HGe.out.below (bnew u3 (.cells #[.int .i64 (k : Int)] 3)) HGe.out.lt)
 have HB4 := Lib.hid (HBe.out.below (bnew u3 (.cells #[.int .i64 (k : Int)] 3)) HBe.out.lt)
 have HN4 := Lib.hid (HNe.out.below (bnew u3 (.cells #[.int .i64 (k : Int)] 3)) (Nat.le_refl _))
 have HM4 := Lib.hid (HMe.out.below (bnew u3 (.cells #[.int .i64 (k : Int)] 3)) (Nat.le_refl _))
 have hS1 : (fun v => v.cell? ⟨g, 2, none⟩ = some (.slice B s.fr.length d) ∧ v.cell? ⟨w.heap.size, 0, none⟩ = some (.int .i64 (k : Int))) (u3.alloc (.cells #[.int .i64 (k : Int)] 3)) := ⟨HG4.out.cell 2, HB4.out.cell 0⟩
 refine hK.out _ _ (fun _ => hS1) ?_
 clear hK K
 try simp only [Ap.sc]
 refine wpAnyG_ready (rs := [8]) (by kernel_rfl) (by simp) ?_
 refine AllReadyG.cons (o := ⟨some 39, _, _, _, _, _⟩) rfl (fun K hK => ?_) AllReadyG.nil
 refine step_mine (by kernel_rfl) _ _ elI _ rfl rfl HN4.out _ rfl 1 _ (src_lit Tryz.underlying129 #[.int .i64 (k : Int)] 1 1 rfl (by simp [Value.oneCell'])) (by omega) (by omega) (Nat.zero_le _) ?_
 intro B' d' w5 m1 g1 q1
 have HM1 := Lib.hid m1; have HQ1 := Lib.hid q1
 have HO5 := Lib.hid (O3e.out.trans (((Only.of_below (bnew u3 (.cells #[.int .i64 (k : Int)] 3)) (Nat.le_refl _) F).trans ((only_row g1 (fun a ha => (HBF.out a ha).1.1)).mono fun _ _ hf => Or.inl hf)).mono fun _ _ hf => Or.inl hf))
 have HG5 := Lib.hid (blk_row HG4.out g1 (fun a ha => (HBF.out a ha).2.1))
 have HB5 := Lib.hid (blk_row HB4.out g1 (fun a ha => by have := (HBF.out a ha).1.2; omega))
 have HM5 : Hid (Mine 0 2 w5 (some ⟨gA, oA, none⟩) s.gens.length c (sl (s.gens.set k (genAt s (k : Int) + 1)) (s.tk.set k false))) := HM4.out.only (Only.of_grown g1 (F := fun j => ∃ b, B = some b ∧ b.block = j) (fun k e => by rw [Option.map_eq_some_iff] at e; exact e)) (fun a ha hf => by obtain ⟨b, hb, e⟩ := hf; injection ha with ha; subst ha; exact (HBF.out b hb).2.2 e)
 have hS2 : (fun v => v.cell? ⟨g, 2, none⟩ = some (.slice B s.fr.length d) ∧ v.cell? ⟨w.heap.size, 0, none⟩ = some (.int .i64 (k : Int))) w5 := ⟨HG5.out.cell 2, HB5.out.cell 0⟩
 have lz5 : u3.heap.size + 1 ≤ w5.heap.size := by have := g1.size; simpa using this
 have HF5 : Hid (∀ b, B' = some b → More F w b.block ∧ b.block ≠ g ∧ b.block ≠ gA) := fun b hb => by
  rcases HQ1.out with h | h
  ·rw [h] at hb; exact ⟨Or.inl (HBF.out b hb).1.1, (HBF.out b hb).2.1, (HBF.out b hb).2.2⟩
  ·have h' := h b hb; have hz : u3.heap.size + 1 ≤ b.block := by simpa using h'
   have := HFG.out.2; have := HFA.out.2; have := O2.out.size
   exact ⟨Or.inr (by omega), by omega, by omega⟩
 have e2 : w5.cell? ⟨g, 2, none⟩ = some (.slice B s.fr.length d) := HG5.out.cell 2
 have ef2 : w5.frozen? ⟨g, 2, none⟩ = false := HG5.out.frozen 2
 clear m1 g1 q1
 refine hK.out _ _ (fun _ => hS2) ?_
 clear hK K
 try simp only [Ap.sc]
 refine Rg.tg 9 (some 40) (v := ?_) rfl (by kernel_rfl) (fun _ _ _ h => h) (by rfl) (hS2) ?_ ?_
 rotate_left
 ·intro w hSw; go_simp; first | done | with_reducible rfl
 try simp only [Ap.sc]
 refine Rg.tg 10 (some 41) (v := ?_) rfl (by kernel_rfl) (fun _ _ _ h => h) (by rfl) (hS2) ?_ ?_
 rotate_left
 ·intro w hSw; go_simp; first | done | with_reducible rfl
 try simp only [Ap.sc]
 refine wpAnyG_ready (rs := [11]) (by kernel_rfl) (by simp) ?_
 refine AllReadyG.cons (o := ⟨none, _, _, _, _, _⟩) rfl (fun K hK => ?_) AllReadyG.nil
 go_simp
 refine hK.out _ _ (fun h => absurd h (by omega)) ?_
 clear hK K
 try simp only [Ap.sc]
 refine wpAnyG_done (by kernel_rfl) ?_ _
 refine NoPanic.normal ?_
 go_wp2_with fail
 go_ret
 rw [HE.out]
 refine ⟨rfl, ⟨⟨some ⟨gA, oA, none⟩, c, B', d', ?_, Or.inl HFG.out.1, ?_, ?_, fun a ha => by injection ha with ha; subst ha; exact ⟨Or.inl HFA.out.1, n1⟩, fun b hb => ⟨(HF5.out b hb).1, (HF5.out b hb).2.1⟩, fun a b ha hb e => by injection ha with ha; subst ha; exact (HF5.out b hb).2.2 e.symm⟩, by have := HI.out; rw [HE.out] at this; exact this, HH.out.lo, HH.out.hi⟩, HO5.out.put (ad := ⟨g, 2, none⟩) HFG.out.1 _⟩
 ·rw [List.length_append, List.length_set]; exact HG5.out.set 2 _
 ·rw [List.length_set]
  exact HM5.out.only (only_own (F := fun j => j = g) rfl _) (fun a ha e => by injection ha with ha; subst ha; exact n1 e)
 ·rw [List.length_append, ints_snoc]
  exact HM1.out.only (only_own (F := fun j => j = g) rfl _) (fun b hb e => (HF5.out b hb).2.1 e)
end Go.Proofs.YtlmljhnogmfcfaaGreat.Nx
namespace Go.Proofs.YtlmljhnogmfcfaaGreat.Nf
open Go.RowKit Ap Mi Nm Nw Na Nb Rg Nc Nd Nx

theorem below_of_grown' {w w' : World} {row : Option Nat} {B : Nat} (h : w.grownBy w' row) (hB : B ≤ w.heap.size) (hr : ∀ k, row = some k → B ≤ k) : Below B w w' := (Below.refl B w).grown h hB hr
def clonePost (sz : Nat) (w : World) (n : Nat) (xs : List Value) : Ending → World → Prop := fun e w' =>
 ∃ A c, e = .returned (.slice A n c) ∧ Mine w.heap.size sz w' A n c xs ∧ Below w.heap.size w w'
theorem rs_none {w : World} {sz n c : Nat} {xs : List Value} (h : Rs w sz none n c xs) (hp : 0 < sz) : n = 0 ∧ c = 0 ∧ xs = [] := by
 have h0 : xs = [] := by
  rcases Nat.eq_zero_or_pos xs.length with h0 | h0
  ·exact List.eq_nil_of_length_eq_zero h0
  ·obtain ⟨_, _, e, _⟩ := h.rd h0; cases e
 subst h0
 have hl := h.len
 refine ⟨?_, h.non rfl, rfl⟩
 rcases Nat.eq_zero_or_pos n with h2 | h2
 ·exact h2
 ·have := Nat.mul_pos h2 hp; simp at hl; omega
theorem cloneS_nil (w : World) (A : Option Addr) (n c : Nat) : (binOp .eql 128 (.slice A n c) (.slice none 0 0)).run Tryz.prog w = .ok (.bool A.isNone) w := Lib.run_eql_slice_nil w 128 169 A n c 0 0 Tryz.underlying128
set_option maxRecDepth 100000 in
set_option maxHeartbeats 1000000 in
theorem cloneS_any (A : Option Addr) (n c : Nat) (xs : List Value) (w : World) (h : Rs w 2 A n c xs) (h1 : ∀ u ∈ xs, u.oneCell' = true) (hn : n ≤ 1000000000) :
  Calls Tryz.prog 119 #[.slice A n c] w (clonePost 2 w n xs) := by
 cases A with
 | none =>
  obtain ⟨rfl, rfl, rfl⟩ := rs_none h (by omega)
  have hnil := fun w => cloneS_nil w none 0 0
  clear h
  unfold clonePost
  go_enter Tryz.func119, Tryz.ntmps119
  go_wp2_with fail
  go_ret
  exact ⟨_, _, rfl, Mine.nil _ _ _, Below.refl _ _⟩
 | some a =>
  have HS := Lib.hid ((h.below (bnew w (.cells #[] 169)) (Nat.le_refl _)).src Tryz.underlying128 (by omega) h1)
  have HM := Lib.hid (Mine.lit (sz := 2) w #[] 169 0 rfl (by unfold maxLen; omega))
  have hnil := fun w => cloneS_nil w (some a) n c
  clear h h1
  unfold clonePost
  go_enter Tryz.func119, Tryz.ntmps119
  go_wp2_with (at_builtin; (refine wpList_mine rfl _ _ elS _ rfl rfl HM.out _ rfl n _ HS.out (by omega) (by omega) (by simp) ?_))
  intro A' c' w1 m1 g1 _
  have HM1 := Lib.hid m1
  have HB1 : Hid (Below w.heap.size w w1) := (bnew w _).trans (below_of_grown' g1 (by simp) (fun k e => by simp at e; omega))
  clear m1 g1
  go_wp2_with fail
  go_ret
  refine ⟨A', c', by simp, ?_, HB1.out⟩
  simpa using HM1.out
theorem cloneI_nil (w : World) (A : Option Addr) (n c : Nat) : (binOp .eql 129 (.slice A n c) (.slice none 0 0)).run Tryz.prog w = .ok (.bool A.isNone) w := Lib.run_eql_slice_nil w 129 3 A n c 0 0 Tryz.underlying129
set_option maxRecDepth 100000 in
set_option maxHeartbeats 1000000 in
theorem cloneI_any (A : Option Addr) (n c : Nat) (xs : List Value) (w : World) (h : Rs w 1 A n c xs) (h1 : ∀ u ∈ xs, u.oneCell' = true) (hn : n ≤ 1000000000) :
  Calls Tryz.prog 120 #[.slice A n c] w (clonePost 1 w n xs) := by
 cases A with
 | none =>
  obtain ⟨rfl, rfl, rfl⟩ := rs_none h (by omega)
  have hnil := fun w => cloneI_nil w none 0 0
  clear h
  unfold clonePost
  go_enter Tryz.func120, Tryz.ntmps120
  go_wp2_with fail
  go_ret
  exact ⟨_, _, rfl, Mine.nil _ _ _, Below.refl _ _⟩
 | some a =>
  have HS := Lib.hid ((h.below (bnew w (.cells #[] 3)) (Nat.le_refl _)).src Tryz.underlying129 (by omega) h1)
  have HM := Lib.hid (Mine.lit (sz := 1) w #[] 3 0 rfl (by unfold maxLen; omega))
  have hnil := fun w => cloneI_nil w (some a) n c
  clear h h1
  unfold clonePost
  go_enter Tryz.func120, Tryz.ntmps120
  go_wp2_with (at_builtin; (refine wpList_mine rfl _ _ elI _ rfl rfl HM.out _ rfl n _ HS.out (by omega) (by omega) (by simp) ?_))
  intro A' c' w1 m1 g1 _
  have HM1 := Lib.hid m1
  have HB1 : Hid (Below w.heap.size w w1) := (bnew w _).trans (below_of_grown' g1 (by simp) (fun k e => by simp at e; omega))
  clear m1 g1
  go_wp2_with fail
  go_ret
  refine ⟨A', c', by simp, ?_, HB1.out⟩
  simpa using HM1.out

def copyPost (w : World) (m G : Nat) (s : St) : Ending → World → Prop := fun e w' =>
 ∃ g, e = .returned (.pointer (some ⟨g, 0, none⟩)) ∧ Are (fun j => w.heap.size ≤ j) w' g m G s ∧ Below w.heap.size w w'
set_option maxRecDepth 100000 in
set_option maxHeartbeats 1000000 in
theorem copy_any {F : Nat → Prop} {w : World} {g m G : Nat} {s : St} (h : Are F w g m G s) :
  Calls Tryz.prog 77 #[.pointer (some ⟨g, 0, none⟩)] w (copyPost w m G s) := by
 have lg := h.lt
 have HU := Lib.hid (usable_any h)
 have HH := Lib.hid h
 have hle := h.inv.le; have hhi := h.hi; have hfr := h.inv.frl
 obtain ⟨A, c, B, d, h1, h2, h3, h4, h5, h6, h7⟩ := h.has
 obtain ⟨c0, c1, c2, _, _, _⟩ := h1.three
 have HG := Lib.hid h1
 have HA := Lib.hid h3; have HB := Lib.hid h4
 clear h h1 h2 h3 h4 h5 h6 h7
 unfold copyPost
 go_enter Tryz.func77, Tryz.ntmps77
 go_wp2_with fail
 refine HU.out.mono ?_
 rintro e w1 ⟨rfl, rfl⟩
 go_wp2_with fail
 have HGd := Lib.hid (show Blk w.drew g _ _ from HG.out)
 have HAd := Lib.hid (mine_drew HA.out)
 have HBd := Lib.hid (mine_drew HB.out)
 have Od := Lib.hid ((Below.refl w.heap.size w).drew)
 refine wp_region_noPanic ?_
 refine wp_region_held_drew (S := fun v => v.cell? ⟨g, 0, none⟩ = some (.int .i64 (m : Int)) ∧ v.cell? ⟨g, 1, none⟩ = some (.slice A s.gens.length c) ∧ v.cell? ⟨g, 2, none⟩ = some (.slice B s.fr.length d)) (by kernel_rfl) (⟨c0, c1, c2⟩) (fun hHeld => ?_)
 generalize w.drew = u1 at HGd HAd HBd Od hHeld ⊢
 refine Rg.th 0 (some 6) (v := ?_) rfl (by kernel_rfl) (fun _ _ _ h => h) (by rfl) (by assumption) ?_ ?_
 rotate_left
 ·intro w hSw; go_simp; first | done | with_reducible rfl
 try simp only [Ap.sc]
 refine Rg.th 1 (some 7) (v := ?_) rfl (by kernel_rfl) (fun _ _ _ h => h) (by rfl) (by assumption) ?_ ?_
 rotate_left
 ·intro w hSw; go_simp; first | done | with_reducible rfl
 try simp only [Ap.sc]
 refine Rg.th 2 (some 8) (v := ?_) rfl (by kernel_rfl) (fun _ _ _ h => h) (by rfl) (by assumption) ?_ ?_
 rotate_left
 ·intro w hSw; go_simp; first | done | with_reducible rfl
 try simp only [Ap.sc]
 refine Rg.th 3 (some 9) (v := ?_) rfl (by kernel_rfl) (fun _ _ _ h => h) (by rfl) (by assumption) ?_ ?_
 rotate_left
 ·intro w hSw; go_simp; first | done | with_reducible rfl
 try simp only [Ap.sc]
 refine Rg.th 4 (some 10) (v := ?_) rfl (by kernel_rfl) (fun _ _ _ h => h) (by rfl) (by assumption) ?_ ?_
 rotate_left
 ·intro w hSw; go_simp; first | done | with_reducible rfl
 try simp only [Ap.sc]
 refine Rg.th 5 (some 11) (v := ?_) rfl (by kernel_rfl) (fun _ _ _ h => h) (by rfl) (by assumption) ?_ ?_
 rotate_left
 ·intro w hSw; go_simp; first | done | with_reducible rfl
 try simp only [Ap.sc]
 refine Rg.th 6 (some 12) (v := ?_) rfl (by kernel_rfl) (fun _ _ _ h => h) (by rfl) (by assumption) ?_ ?_
 rotate_left
 ·intro w hSw; go_simp; first | done | with_reducible rfl
 try simp only [Ap.sc]
 refine Rg.th 7 (some 13) (v := ?_) rfl (by kernel_rfl) (fun _ _ _ h => h) (by rfl) (by assumption) ?_ ?_
 rotate_left
 ·intro w hSw; go_simp; first | done | with_reducible rfl
 try simp only [Ap.sc]
 refine Rg.th 9 (some 15) (v := ?_) rfl (by kernel_rfl) (fun _ _ _ h => h) (by rfl) (by assumption) ?_ ?_
 rotate_left
 ·intro w hSw; go_simp; first | done | with_reducible rfl
 try simp only [Ap.sc]
 refine Rg.th 10 (some 16) (v := ?_) rfl (by kernel_rfl) (fun _ _ _ h => h) (by rfl) (by assumption) ?_ ?_
 rotate_left
 ·intro w hSw; go_simp; first | done | with_reducible rfl
 try simp only [Ap.sc]
 refine Rg.th 11 (some 17) (v := ?_) rfl (by kernel_rfl) (fun _ _ _ h => h) (by rfl) (by assumption) ?_ ?_
 rotate_left
 ·intro w hSw; go_simp; first | done | with_reducible rfl
 try simp only [Ap.sc]
 refine Rg.th 12 (some 18) (v := ?_) rfl (by kernel_rfl) (fun _ _ _ h => h) (by rfl) (by assumption) ?_ ?_
 rotate_left
 ·intro w hSw; go_simp; first | done | with_reducible rfl
 try simp only [Ap.sc]
 refine wpAnyH_ready (rs := [8]) (by kernel_rfl) (by simp) ?_
 refine AllReadyH.cons (o := ⟨some 14, _, _, _, _, _⟩) rfl (fun K hK => ?_) AllReadyH.nil
 go_simp
 refine (cloneS_any A s.gens.length c _ u1 (Rs.mine HAd.out) (sl_one _ _) (by omega)).mono ?_
 rintro e u2 ⟨A2, k2, rfl, m2, b2⟩
 have HM2 := Lib.hid m2; have HB2 := Lib.hid b2
 have HG2 := Lib.hid (HGd.out.below b2 HGd.out.lt)
 have HB2d := Lib.hid (HBd.out.below b2 (Nat.le_refl _))
 have hz2 := b2.size
 clear m2 b2
 go_simp
 refine hK.out _ _ (⟨HG2.out.cell 0, HG2.out.cell 1, HG2.out.cell 2⟩) (fun hHeld => ?_)
 clear hK K
 try simp only [Ap.sc]
 refine wpAnyH_ready (rs := [13]) (by kernel_rfl) (by simp) ?_
 refine AllReadyH.cons (o := ⟨some 19, _, _, _, _, _⟩) rfl (fun K hK => ?_) AllReadyH.nil
 go_simp
 refine (cloneI_any B s.fr.length d _ u2 (Rs.mine HB2d.out) (ints_one _) (by omega)).mono ?_
 rintro e u3 ⟨B3, k3, rfl, m3, b3⟩
 have HM3 := Lib.hid m3; have HB3 := Lib.hid b3
 have HM23 := Lib.hid (HM2.out.below b3 (Nat.le_refl _))
 have HG3 := Lib.hid (HG2.out.below b3 HG2.out.lt)
 have hz3 := b3.size
 clear m3 b3
 go_simp
 refine hK.out _ _ (⟨HG3.out.cell 0, HG3.out.cell 1, HG3.out.cell 2⟩) (fun hHeld => ?_)
 clear hK K
 try simp only [Ap.sc]
 refine Rg.th 14 (some 20) (v := ?_) rfl (by kernel_rfl) (fun _ _ _ h => h) (by rfl) (by assumption) ?_ ?_
 rotate_left
 ·intro w hSw; go_simp; first | done | with_reducible rfl
 try simp only [Ap.sc]
 refine wpAnyH_ready (rs := [15]) (by kernel_rfl) (by simp) ?_
 refine AllReadyH.cons (o := ⟨some 21, _, _, _, _, _⟩) rfl (fun K hK => ?_) AllReadyH.nil
 go_simp
 have HG4 := Lib.hid (HG3.out.below (bnew u3 (.cells #[.int .i64 (m : Int), .slice A2 s.gens.length k2, .slice B3 s.fr.length k3] 131)) HG3.out.lt)
 refine hK.out _ _ (⟨HG4.out.cell 0, HG4.out.cell 1, HG4.out.cell 2⟩) (fun hHeld => ?_)
 clear hK K
 try simp only [Ap.sc]
 refine Rg.th 16 (some 2) (v := ?_) rfl (by kernel_rfl) (fun _ _ _ h => h) (by rfl) (by assumption) ?_ ?_
 rotate_left
 ·intro w hSw; go_simp; first | done | with_reducible rfl
 try simp only [Ap.sc]
 refine wpAnyH_done (by kernel_rfl) ?_ _
 refine NoPanic.normal ?_
 go_wp2_with fail
 go_ret
 have hzd := Od.out.size
 refine ⟨_, rfl, ⟨⟨A2, k2, B3, k3, Blk.new u3 _ _, by omega, (HM23.out.mono (Nat.zero_le _)).below (bnew u3 _) (Nat.le_refl _), (HM3.out.mono (Nat.zero_le _)).below (bnew u3 _) (Nat.le_refl _), fun a ha => ?_, fun b hb => ?_, fun a b ha hb => ?_⟩, HH.out.inv, HH.out.lo, HH.out.hi⟩, ?_⟩
 ·have h1 := HM23.out.base ha; exact ⟨by omega, by omega⟩
 ·have h1 := HM3.out.base hb; exact ⟨by omega, by omega⟩
 ·have h1 := HM2.out.base ha; have h2 := HM3.out.base hb; omega
 ·exact ((Od.out.trans (HB2.out.mono hzd)).trans (HB3.out.mono (by omega))).trans ((bnew u3 _).mono (by omega))
end Go.Proofs.YtlmljhnogmfcfaaGreat.Nf
