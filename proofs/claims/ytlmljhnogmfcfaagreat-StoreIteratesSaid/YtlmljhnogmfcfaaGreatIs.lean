/- Proves what slices.SortFunc makes of a row of entries with different keys, by the store's order: the row holds them by their deadlines, then by their keys. Condition: few entries, in a row of the call's own. -/
import Derived.Test.YtlmljhnogmfcfaaGreatShelfS
import Derived.Test.YtlmljhnogmfcfaaGreatIb
import Derived.Test.YtlmljhnogmfcfaaGreatYe
import Derived.Test.YtlmljhnogmfcfaaGreatJe
namespace Go.Proofs.YtlmljhnogmfcfaaGreat.Is
open Go.RowKit Go.Sort Go.Lib Ap Mi Nw Ea Eb

def les (a b : ByteArray) : Bool := Op.bytesLess a.toList b.toList
theorem les_irr (a : ByteArray) : les a a = false := by
 cases h : les a a with
 | false => rfl
 | true => exact absurd ((Je.less_iff a a).1 h) (List.lt_irrefl _)
theorem les_trans {a b c : ByteArray} (h : les a b = true) (k : les b c = true) : les a c = true := (Je.less_iff a c).2 (List.lt_trans ((Je.less_iff a b).1 h) ((Je.less_iff b c).1 k))
theorem les_tot {a b : ByteArray} (h : les a b = false) (k : les b a = false) : a = b := by
 have h1 : ¬ a.data.toList < b.data.toList := fun e => by have := (Je.less_iff a b).2 e; unfold les at h; rw [h] at this; cases this
 have h2 : ¬ b.data.toList < a.data.toList := fun e => by have := (Je.less_iff b a).2 e; unfold les at k; rw [k] at this; cases this
 have : a.data.toList = b.data.toList := List.le_antisymm (List.not_lt.1 h2) (List.not_lt.1 h1)
 cases a; cases b; simp at this; rw [this]
def cmpS (a b : ByteArray) : Int := if les a b = true then -1 else if les b a = true then 1 else 0
theorem nanS_any (a : ByteArray) (w : World) : Calls Tryz.prog 157 #[.string a] w fun e w' => e = .returned (.bool false) ∧ w' = w := by
 have h : (a.toList != a.toList) = false := by simp
 go_enter Tryz.func157, Tryz.ntmps157
 go_wp2_with fail
 go_ret
 exact ⟨rfl, rfl⟩
theorem cmpS_any (a b : ByteArray) (w : World) : Calls Tryz.prog 117 #[.string a, .string b] w fun e w' => e = .returned (.int .i64 (cmpS a b)) ∧ w' = w := by
 cases h1 : les a b with
 | true =>
  have HC : Hid (cmpS a b = -1) := by show _ = _; unfold cmpS; rw [if_pos h1]
  rw [HC.out]
  unfold les at h1
  go_enter Tryz.func117, Tryz.ntmps117
  go_wp2_with (go_at_call 157; refine (nanS_any _ _).mono ?_; rintro e w' ⟨rfl, rfl⟩)
  go_ret
  exact ⟨rfl, rfl⟩
 | false =>
  cases h2 : les b a with
  | true =>
   have HC : Hid (cmpS a b = 1) := by show _ = _; unfold cmpS; rw [if_neg (by rw [h1]; simp), if_pos h2]
   rw [HC.out]
   have hne : (a.toList == b.toList) = false := by
    rw [beq_eq_false_iff_ne]; intro e
    have : a = b := by
     have := (Lib.toList_data a).symm.trans (e.trans (Lib.toList_data b))
     cases a; cases b; simp at this; rw [this]
    rw [this, les_irr] at h2; cases h2
   unfold les at h1 h2
   go_enter Tryz.func117, Tryz.ntmps117
   go_wp2_with (go_at_call 157; refine (nanS_any _ _).mono ?_; rintro e w' ⟨rfl, rfl⟩)
   go_ret
   exact ⟨rfl, rfl⟩
  | false =>
   have heq : (a.toList == b.toList) = true := by rw [les_tot h1 h2]; simp
   have HC : Hid (cmpS a b = 0) := by show _ = _; unfold cmpS; rw [if_neg (by rw [h1]; simp), if_neg (by rw [h2]; simp)]
   rw [HC.out]
   unfold les at h1 h2
   go_enter Tryz.func117, Tryz.ntmps117
   go_wp2_with (go_at_call 157; refine (nanS_any _ _).mono ?_; rintro e w' ⟨rfl, rfl⟩)
   go_ret
   exact ⟨rfl, rfl⟩
def cmpE (x y : En) : Int := if x.d < y.d then -1 else if y.d < x.d then 1 else cmpS x.k y.k
theorem cmpE_lt (x y : En) : cmpE x y < 0 ↔ ltE x y = true := by
 unfold cmpE cmpS ltE
 by_cases h1 : x.d < y.d
 ·rw [if_pos h1]; simp [h1]
 ·rw [if_neg h1]
  by_cases h2 : y.d < x.d
  ·rw [if_pos h2]; simp; omega
  ·rw [if_neg h2]
   have e : x.d = y.d := by omega
   have : Op.bytesLess x.k.toList y.k.toList = les x.k y.k := rfl
   rw [this, e]
   cases les x.k y.k with
   | true => simp
   | false => cases les y.k x.k <;> simp
def eO (x : Em) : Obj := .cells (emA x) 42
theorem compare_any (x y : Em) (w : World) : Calls Tryz.prog 75 #[emV x, emV y] w fun e w' => e = .returned (.int .i64 (cmpE x.e y.e)) ∧ w' = (w.alloc (eO x)).alloc (eO y) := by
 unfold emV eO emA
 have CT := fun W => Za.cmpT_any x.e.d y.e.d W
 have CI := fun W => cmpS_any x.e.k y.e.k W
 by_cases h1 : x.e.d < y.e.d
 ·have e1 : Za.cmpI x.e.d y.e.d = -1 := by unfold Za.cmpI; rw [if_pos h1]
  have e2 : cmpE x.e y.e = -1 := by unfold cmpE; rw [if_pos h1]
  rw [e1] at CT
  rw [e2]
  clear h1 e1 e2
  go_enter Tryz.func75, Tryz.ntmps75
  go_wp2_with (go_at_call 116; refine (CT _).mono ?_; rintro e w' ⟨rfl, rfl⟩)
  go_ret
  exact ⟨rfl, rfl⟩
 ·by_cases h2 : y.e.d < x.e.d
  ·have e1 : Za.cmpI x.e.d y.e.d = 1 := by unfold Za.cmpI; rw [if_neg h1, if_pos h2]
   have e2 : cmpE x.e y.e = 1 := by unfold cmpE; rw [if_neg h1, if_pos h2]
   rw [e1] at CT
   rw [e2]
   clear h1 h2 e1 e2
   go_enter Tryz.func75, Tryz.ntmps75
   go_wp2_with (go_at_call 116; refine (CT _).mono ?_; rintro e w' ⟨rfl, rfl⟩)
   go_ret
   exact ⟨rfl, rfl⟩
  ·have e1 : Za.cmpI x.e.d y.e.d = 0 := by unfold Za.cmpI; rw [if_neg h1, if_neg h2]
   have e2 : cmpE x.e y.e = cmpS x.e.k y.e.k := by unfold cmpE; rw [if_neg h1, if_neg h2]
   rw [e1] at CT
   rw [e2]
   clear h1 h2 e1 e2
   obtain ⟨r, hr⟩ : ∃ r, r = cmpS x.e.k y.e.k := ⟨_, rfl⟩
   rw [← hr] at CI ⊢
   clear hr
   go_enter Tryz.func75, Tryz.ntmps75
   go_wp2_with (first | (go_at_call 116; refine (CT _).mono ?_; rintro e w' ⟨rfl, rfl⟩) | (go_at_call 117; refine (CI _).mono ?_; rintro e w' ⟨rfl, rfl⟩))
   go_ret
   exact ⟨rfl, rfl⟩
theorem ltE_irr (x : En) : ltE x x = false := by
 have h := les_irr x.k
 unfold les at h
 unfold ltE; simp [h]
theorem ltE_trans {x y z : En} (h : ltE x y = true) (k : ltE y z = true) : ltE x z = true := by
 unfold ltE at *
 simp only [Bool.or_eq_true, Bool.and_eq_true, decide_eq_true_eq] at *
 rcases h with h | ⟨h1, h2⟩
 ·rcases k with k | ⟨k1, k2⟩
  ·exact Or.inl (by omega)
  ·exact Or.inl (by omega)
 ·rcases k with k | ⟨k1, k2⟩
  ·exact Or.inl (by omega)
  ·exact Or.inr ⟨by omega, les_trans h2 k2⟩
theorem ltE_tot {x y : En} (h : ltE x y = false) (k : ltE y x = false) : x.d = y.d ∧ x.k = y.k := by
 unfold ltE at *
 simp only [Bool.or_eq_false_iff, Bool.and_eq_false_iff, decide_eq_false_iff_not] at *
 have e : x.d = y.d := by omega
 exact ⟨e, les_tot (h.2.resolve_left (fun n => n e)) (k.2.resolve_left (fun n => n e.symm))⟩
section
variable {l : List Em}
abbrev Mem (l : List Em) := {x : Em // x ∈ l}
def cmpM (x y : Mem l) : Int := cmpE x.1.e y.1.e
def encM (x : Mem l) : List Value := emC x.1
theorem lt_m (x y : Mem l) : ltOf cmpM x y = ltE x.1.e y.1.e := by
 unfold ltOf
 rw [Bool.eq_iff_iff, decide_eq_true_iff]
 exact cmpE_lt x.1.e y.1.e
theorem swo : SWO (ltOf (cmpM (l := l))) where
 irrefl x := by rw [lt_m]; exact ltE_irr _
 trans x y z h1 h2 := by rw [lt_m] at *; exact ltE_trans h1 h2
 ntrans x y z h1 h2 := by
  rw [lt_m] at *
  cases h : ltE x.1.e z.1.e with
  | false => rfl
  | true =>
   cases h3 : ltE y.1.e x.1.e with
   | true => have := ltE_trans h3 h; rw [h2] at this; cases this
   | false =>
    obtain ⟨e1, e2⟩ := ltE_tot h1 h3
    have : ltE y.1.e z.1.e = ltE x.1.e z.1.e := by unfold ltE; rw [e1, e2]
    rw [this, h] at h2; cases h2
theorem cmp_lays [Inhabited (Mem l)] (blk off size : Nat) (w : World) : CmpLays Tryz.prog 75 #[] (encM (l := l)) 6 cmpM blk off size w :=
 fun _ _ _ _ x y => (compare_any x.1 y.1 _).mono fun e w' h => ⟨h.1, 0, #[eO x.1] ++ #[eO y.1], h.2.trans (by rw [alloc_eq_grow, alloc_eq_grow, grow_grow]; rfl)⟩
theorem parts (hd : (l.map (·.e.k)).Nodup) (x y : Mem l) (h1 : ltOf cmpM x y = false) (h2 : ltOf cmpM y x = false) : x = y := by
 rw [lt_m] at h1 h2
 obtain ⟨_, e2⟩ := ltE_tot h1 h2
 obtain ⟨i, hi, ei⟩ := List.getElem_of_mem x.2
 obtain ⟨j, hj, ej⟩ := List.getElem_of_mem y.2
 have h3 := List.getElem_inj (i := i) (j := j) (h₀ := by simpa using hi) (h₁ := by simpa using hj) hd
 simp only [List.getElem_map] at h3
 have := h3.1 (by rw [ei, ej, e2])
 subst this
 exact Subtype.ext (by rw [← ei, ← ej])
theorem flat_get (Q : List (Mem l)) [Inhabited (Mem l)] (j : Nat) (hj : j < Q.length * 6) : (emL (Q.map (·.1)))[j]? = some (flatK encM 6 Q.toArray)[j]! := by
 rw [get_flatK encM 6 Q.toArray j (by simpa using hj)]
 have hk : j / 6 < Q.length := by omega
 obtain ⟨h0, h1, h2, h3, h4, h5⟩ := emL_get (Q.map (·.1)) (j / 6) (by simpa using hk)
 have e : Q.toArray[j / 6]! = Q[j / 6] := by simp [hk]
 rw [e]
 simp only [List.getElem_map] at h0 h1 h2 h3 h4 h5
 have hm : j % 6 < 6 := Nat.mod_lt _ (by omega)
 have hj2 : j = j / 6 * 6 + j % 6 := by omega
 rcases (by omega : j % 6 = 0 ∨ j % 6 = 1 ∨ j % 6 = 2 ∨ j % 6 = 3 ∨ j % 6 = 4 ∨ j % 6 = 5) with h | h | h | h | h | h
 ·rw [h] at hj2 ⊢; rw [show (emL (Q.map (·.1)))[j]? = (emL (Q.map (·.1)))[j / 6 * 6]? by congr 1, h0]; rfl
 ·rw [h] at hj2 ⊢; rw [show (emL (Q.map (·.1)))[j]? = (emL (Q.map (·.1)))[j / 6 * 6 + 1]? by congr 1, h1]; rfl
 ·rw [h] at hj2 ⊢; rw [show (emL (Q.map (·.1)))[j]? = (emL (Q.map (·.1)))[j / 6 * 6 + 2]? by congr 1, h2]; rfl
 ·rw [h] at hj2 ⊢; rw [show (emL (Q.map (·.1)))[j]? = (emL (Q.map (·.1)))[j / 6 * 6 + 3]? by congr 1, h3]; rfl
 ·rw [h] at hj2 ⊢; rw [show (emL (Q.map (·.1)))[j]? = (emL (Q.map (·.1)))[j / 6 * 6 + 4]? by congr 1, h4]; rfl
 ·rw [h] at hj2 ⊢; rw [show (emL (Q.map (·.1)))[j]? = (emL (Q.map (·.1)))[j / 6 * 6 + 5]? by congr 1, h5]; rfl
theorem holds_of [Inhabited (Mem l)] {w : World} {N b o n c : Nat} {Q : List (Mem l)} (h : Mine N 6 w (some ⟨b, o, none⟩) n c (emL (Q.map (·.1)))) : HoldsK encM 6 w b o Q.toArray := fun j hj => by
 rw [size_flatK] at hj
 obtain ⟨h1, h2⟩ := mine_cell h (flat_get Q j (by simpa using hj))
 exact ⟨h1, h2⟩
def inOrder (Q : List (Mem l)) : List (Mem l) := Q.mergeSort fun x y => !ltOf cmpM y x
theorem inOrder_len (Q : List (Mem l)) : (inOrder Q).length = Q.length := (List.mergeSort_perm Q _).length_eq
def Sorted (l : List En) : Prop := l.Pairwise fun x y => ltE y x = false
theorem inOrder_sorted (Q : List (Mem l)) : Sorted ((inOrder Q).map (·.1.e)) := by
 have h2 : (inOrder Q).Pairwise fun x y => (!ltOf cmpM y x) = true := List.pairwise_mergeSort (fun a b c h k => by
   rw [lt_m] at *
   simp only [Bool.not_eq_true'] at *
   cases h1 : ltE c.1.e a.1.e with
   | false => rfl
   | true =>
    cases h3 : ltE a.1.e b.1.e with
    | true => have := ltE_trans h1 h3; rw [k] at this; cases this
    | false =>
     obtain ⟨e1, e2⟩ := ltE_tot h3 h
     have : ltE c.1.e b.1.e = ltE c.1.e a.1.e := by unfold ltE; rw [e1, e2]
     rw [this, h1] at k; cases k) (fun a b => by
   rw [lt_m, lt_m]
   cases h : ltE b.1.e a.1.e with
   | false => simp
   | true =>
    cases h3 : ltE a.1.e b.1.e with
    | false => simp
    | true => have := ltE_trans h h3; rw [ltE_irr] at this; cases this) Q
 unfold Sorted
 rw [List.pairwise_map]
 refine h2.imp ?_
 intro a b h
 rw [lt_m] at h
 simpa using h
end
theorem sort_any {w : World} {N b o n c : Nat} {l : List Em} (h : Mine N 6 w (some ⟨b, o, none⟩) n c (emL l)) (hn : l.length = n) (hl : n ≤ 1100000) (hd : (l.map (·.e.k)).Nodup) :
  Calls Tryz.prog 74 #[.slice (some ⟨b, o, none⟩) n c, .func (.func 75) #[] #[]] w fun e w' => e = .returned (.tuple #[]) ∧ ∃ l' : List Em, l'.Perm l ∧ Sorted (l'.map Em.e) ∧ Mine N 6 w' (some ⟨b, o, none⟩) n c (emL l') ∧ Only (fun j => j = b) w w' := by
 subst hn
 by_cases hlen : l.length = 0
 ·have el : l = [] := List.eq_nil_of_length_eq_zero hlen
  have hcon := AnyF.slices_SortFunc_none Tryz.sortT (some ⟨b, o, none⟩) c (.func (.func 75) #[] #[]) w
  change Calls Tryz.prog 74 _ _ _ at hcon
  rw [hlen]
  rw [hlen] at h
  refine hcon.mono ?_
  rintro e w' ⟨rfl, rfl⟩
  exact ⟨rfl, l, List.Perm.refl _, by rw [el]; exact List.Pairwise.nil, h, Only.refl _ _⟩
 haveI : Inhabited (Mem l) := ⟨⟨l[0]'(by omega), List.getElem_mem _⟩⟩
 obtain ⟨Q, hQ⟩ : ∃ Q : List (Mem l), Q = l.attach := ⟨_, rfl⟩
 have hQ1 : Q.map (·.1) = l := by rw [hQ]; exact List.attach_map_subtype_val l
 have hQl : Q.length = l.length := by rw [hQ]; simp
 have lb := (h.base rfl).2.1
 have lN := (h.base rfl).1
 have h' := h
 rw [← hQ1] at h'
 have hH : HoldsK encM 6 w b o Q.toArray := holds_of (by rw [List.length_map] at h'; exact h')
 have eg : ∀ args w, (callFunc 75 args).run Tryz.prog w = .ok (.enter 75 args) w := enters_of Tryz.func75 (by kernel_rfl) rfl
 have hcon := AnyQ.slices_SortFunc_total Tryz.sortT 6 Tryz.isAgg42 Tryz.sizeOf42 (encM (l := l)) (fun _ => rfl) (fun x v hv => by simp [encM, emC] at hv; rcases hv with rfl | rfl | rfl | rfl | rfl | rfl <;> rfl) cmpM swo 75 #[] b o c Q.toArray w eg (cmp_lays b o Q.toArray.size w) hH lb (by simp; omega) (parts hd)
 change Calls Tryz.prog 74 _ _ _ at hcon
 rw [List.size_toArray, hQl] at hcon
 refine hcon.mono ?_
 rintro e w' ⟨rfl, k, os, hw⟩
 have hsz : (inOrder Q).length = l.length := by rw [inOrder_len, hQl]
 have hW : w' = sortWorldK encM 6 w b o k (inOrder Q).toArray os := hw
 clear hw hcon
 obtain ⟨l', hl'⟩ : ∃ l', l' = (inOrder Q).map (·.1) := ⟨_, rfl⟩
 have hl'l : l'.length = l.length := by rw [hl']; simpa using hsz
 have hH' : HoldsK encM 6 w' b o (inOrder Q).toArray := by
  rw [hW]
  exact holdsK_sortWorldK_c encM 6 w b o Q.toArray (inOrder Q).toArray k os hH lb (by simp [hsz, hQl])
 have hs : w'.heap.size = w.heap.size + os.size := by
  rw [hW]
  unfold sortWorldK putRowK
  rw [size_grow, size_putRow]; rfl
 have hblk : ∀ j, j < w.heap.size → j ≠ b → w'.heap[j]? = w.heap[j]? := fun j hj hjb => by
  rw [hW]
  unfold sortWorldK putRowK putRow
  rw [heap_grow_old _ _ (by show j < (mapBlock (Sort.ahead w k) b _).heap.size; simp [mapBlock]; exact hj)]
  show ((Sort.ahead w k).heap.modify b _)[j]? = _
  rw [Array.getElem?_modify, if_neg (fun e => hjb e.symm)]; rfl
 have hspare : ∀ j, l.length * 6 ≤ j → w'.cell? ⟨b, o + j, none⟩ = w.cell? ⟨b, o + j, none⟩ := fun j hj => by
  rw [hW]
  unfold sortWorldK putRowK
  rw [cell?_grow _ _ _ (by show b < (putRow id (Sort.ahead w k) b o _).heap.size; rw [size_putRow]; exact lb), cell?_putRow_other id _ b o _ _ (Or.inr (Or.inr (by rw [size_flatK, List.size_toArray, hsz]; show o + _ ≤ o + j; omega)))]; rfl
 have hfr : ∀ j, w'.frozen? ⟨b, o + j, none⟩ = w.frozen? ⟨b, o + j, none⟩ := fun j => by
  rw [hW]
  unfold sortWorldK putRowK
  rw [frozen?_grow _ _ _ (by show b < (putRow id (Sort.ahead w k) b o _).heap.size; rw [size_putRow]; exact lb), frozen?_putRow]; rfl
 have hrow : ∀ j (hj : j < (emL l').length), w'.cell? ⟨b, o + j, none⟩ = some (emL l')[j] := fun j hj => by
  have hj' : j < (inOrder Q).length * 6 := by rw [emL_len, hl'l] at hj; rw [hsz]; exact hj
  have e := flat_get (inOrder Q) j hj'
  rw [← hl', List.getElem?_eq_getElem hj] at e
  rw [(hH' j (by rw [size_flatK]; simpa using hj')).1]
  exact e.symm
 refine ⟨rfl, l', ?_, ?_, ⟨h.le, h.max, by rw [emL_len, hl'l], (fun e => by cases e), fun a ha => ?_⟩, ⟨?_, ?_, ?_, by omega, fun j hj hn => hblk j hj hn⟩⟩
 ·rw [hl']
  have := (List.mergeSort_perm Q (fun x y => !ltOf cmpM y x)).map (·.1)
  rw [hQ1] at this
  exact this
 ·rw [hl', List.map_map]; exact inOrder_sorted Q
 ·injection ha with ha
  obtain ⟨g', o', e, _, _, h3, _⟩ := h.lies _ rfl
  injection e with e1 e2
  subst e1; subst e2
  refine ⟨b, o, ha.symm, lN, by omega, fun j hj => ?_, hrow⟩
  refine ⟨?_, by rw [hfr]; exact (h3 j hj).2⟩
  rcases Nat.lt_or_ge j (l.length * 6) with h1 | h1
  ·rw [hrow j (by rw [emL_len, hl'l]; exact h1)]; rfl
  ·rw [hspare j h1]; exact (h3 j hj).1
 ·rw [hW]; rfl
 ·rw [hW]; rfl
 ·rw [hW]; rfl
theorem sort_all {w : World} {N n c : Nat} {A : Option Addr} {l : List Em} (h : Mine N 6 w A n c (emL l)) (hn : l.length = n) (hl : n ≤ 1100000) (hd : (l.map (·.e.k)).Nodup) :
  Calls Tryz.prog 74 #[.slice A n c, .func (.func 75) #[] #[]] w fun e w' => e = .returned (.tuple #[]) ∧ ∃ l' : List Em, l'.Perm l ∧ Sorted (l'.map Em.e) ∧ Mine N 6 w' A n c (emL l') ∧ Only (fun j => ∃ a, A = some a ∧ a.block = j) w w' := by
 rcases Nat.eq_zero_or_pos n with h0 | h0
 ·subst h0
  obtain rfl : l = [] := List.eq_nil_of_length_eq_zero hn
  have hcon := AnyF.slices_SortFunc_none Tryz.sortT A c (.func (.func 75) #[] #[]) w
  change Calls Tryz.prog 74 _ _ _ at hcon
  refine hcon.mono ?_
  rintro e w' ⟨rfl, rfl⟩
  exact ⟨rfl, [], List.Perm.refl _, List.Pairwise.nil, h, Only.refl _ _⟩
 ·obtain ⟨b, o, rfl, _⟩ := mine_place h (by rw [emL_len]; omega)
  refine (sort_any h hn hl hd).mono ?_
  rintro e w' ⟨h1, l', h2, h3, h4, h5⟩
  exact ⟨h1, l', h2, h3, h4, h5.mono fun j _ e => ⟨_, rfl, e.symm⟩⟩
end Go.Proofs.YtlmljhnogmfcfaaGreat.Is
