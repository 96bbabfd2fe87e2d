/- Proves what slices.SortFunc makes of a row of slots with deadlines, by the program's order: the row holds them in order. Condition: few slots, in a row of the call's own. -/
import Derived.Test.YtpalbccoiejmoaaShelfS
import Derived.Test.YtpalbccoiejmoaaZl
namespace Go.Proofs.Ytpalbccoiejmoaa.Zq
open Go.RowKit Go.Sort Go.Lib Ap Mi Nw Ya Yb Yc Zm Za

def enc (x : Td) : List Value := [.int .i64 x.1, .int .u64 x.2]
theorem lt_bf (x y : Td) : ltOf cmpV x y = decide (bf x y) := by
  unfold ltOf
  rw [decide_eq_decide]
  exact cmpV_lt x y
theorem swo : SWO (ltOf cmpV) where
  irrefl x := by rw [lt_bf]; simp [bf_irr]
  trans x y z h1 h2 := by rw [lt_bf] at *; simp only [decide_eq_true_eq] at *; exact bf_trans h1 h2
  ntrans x y z h1 h2 := by rw [lt_bf] at *; simp only [decide_eq_false_iff_not] at *; unfold bf at *; omega
theorem parts (x y : Td) (h1 : ltOf cmpV x y = false) (h2 : ltOf cmpV y x = false) : x = y := by
  rw [lt_bf] at h1 h2
  simp only [decide_eq_false_iff_not] at h1 h2
  exact (bf_tot h1).resolve_right h2
theorem cmp_lays (blk off size : Nat) (w : World) : CmpLays Try.prog 37 #[] enc 2 cmpV blk off size w :=
  fun _ _ _ _ x y => (compare_any x y _).mono fun e w' h => ⟨h.1, 0, #[tO x] ++ #[tO y], h.2.trans (by rw [alloc_eq_grow, alloc_eq_grow, grow_grow]; rfl)⟩
theorem flat_get (Q : List Td) (j : Nat) (hj : j < Q.length * 2) : (tv Q)[j]? = some (flatK enc 2 Q.toArray)[j]! := by
  rw [get_flatK enc 2 Q.toArray j (by simpa using hj)]
  have hk : j / 2 < Q.length := by omega
  obtain ⟨h0, h1⟩ := tv_get Q (j / 2) hk
  have e : Q.toArray[j / 2]! = Q[j / 2] := by simp [hk]
  rw [e]
  rcases Nat.mod_two_eq_zero_or_one j with h | h
  · rw [h, show (tv Q)[j]? = (tv Q)[j / 2 * 2]? by congr 1; omega, h0]; rfl
  · rw [h, show (tv Q)[j]? = (tv Q)[j / 2 * 2 + 1]? by congr 1; omega, h1]; rfl
theorem holds_of {w : World} {N b o n c : Nat} {Q : List Td} (h : Mine N 2 w (some ⟨b, o, none⟩) n c (tv Q)) : HoldsK enc 2 w b o Q.toArray := fun j hj => by
  rw [size_flatK] at hj
  obtain ⟨h1, h2⟩ := mine_cell h (flat_get Q j (by simpa using hj))
  exact ⟨h1, h2⟩
/-- In order. -/
def inOrder (Q : List Td) : List Td := Q.mergeSort fun x y => !ltOf cmpV y x
theorem inOrder_len (Q : List Td) : (inOrder Q).length = Q.length := (List.mergeSort_perm Q _).length_eq
theorem inOrder_is {Q L : List Td} (hp : Q.Perm L) (hs : L.Pairwise bf) : inOrder Q = L := by
  have h1 : (inOrder Q).Perm L := (List.mergeSort_perm Q _).trans hp
  have h2 : (inOrder Q).Pairwise fun x y => (!ltOf cmpV y x) = true := List.pairwise_mergeSort (fun a b c h k => by
      rw [lt_bf] at *
      simp only [Bool.not_eq_true', decide_eq_false_iff_not] at *
      exact Zm.le_trans h k) (fun a b => by
      rw [lt_bf, lt_bf]
      by_cases h : bf b a
      · simp [lt_not h]
      · simp [h]) Q
  have hn : L.Nodup := hs.imp (fun {a b} (h : bf a b) (e : a = b) => bf_irr a (by rw [← e] at h; exact h))
  have h3 : (inOrder Q).Nodup := h1.nodup_iff.2 hn
  refine order_one h1 ?_ hs
  have h4 := List.Pairwise.and h2 h3
  refine h4.imp ?_
  rintro a b ⟨h, hne⟩
  rw [lt_bf] at h
  simp only [Bool.not_eq_true', decide_eq_false_iff_not] at h
  rcases bf_tot h with e | e
  · exact absurd e.symm hne
  · exact e
theorem sort_any {w : World} {N b o n c : Nat} {Q : List Td} (h : Mine N 2 w (some ⟨b, o, none⟩) n c (tv Q)) (hn : Q.length = n) (hl : n ≤ 1100000) :
    Calls Try.prog 36 #[.slice (some ⟨b, o, none⟩) n c, .func (.func 37) #[] #[]] w fun e w' => e = .returned (.tuple #[]) ∧ Mine N 2 w' (some ⟨b, o, none⟩) n c (tv (inOrder Q)) ∧ Below N w w' := by
  subst hn
  have lb := (h.base rfl).2.1
  have lN := (h.base rfl).1
  have hH := holds_of h
  have eg : ∀ args w, (callFunc 37 args).run Try.prog w = .ok (.enter 37 args) w := enters_of Try.func37 (by kernel_rfl) rfl
  have hcon := AnyQ.slices_SortFunc_total Try.sortT 2 Try.isAgg41 Try.sizeOf41 enc (fun _ => rfl) (fun x v hv => by simp [enc] at hv; rcases hv with rfl | rfl <;> rfl) cmpV swo 37 #[] b o c Q.toArray w eg (cmp_lays b o Q.toArray.size w) hH lb (by simp; omega) parts
  change Calls Try.prog 36 _ _ _ at hcon
  rw [List.size_toArray] at hcon
  refine hcon.mono ?_
  rintro e w' ⟨rfl, k, os, hw⟩
  have hsz : (inOrder Q).length = Q.length := inOrder_len Q
  have hW : w' = sortWorldK enc 2 w b o k (inOrder Q).toArray os := hw
  clear hw hcon
  have hH' : HoldsK enc 2 w' b o (inOrder Q).toArray := by
    rw [hW]
    exact holdsK_sortWorldK_c enc 2 w b o Q.toArray (inOrder Q).toArray k os hH lb (by simp [hsz])
  have hs : w'.heap.size = w.heap.size + os.size := by
    rw [hW]
    unfold sortWorldK putRowK
    rw [size_grow, size_putRow]; rfl
  have hblk : ∀ j, j < w.heap.size → j ≠ b → w'.heap[j]? = w.heap[j]? := fun j hj hjb => by
    rw [hW]
    unfold sortWorldK putRowK putRow
    rw [heap_grow_old _ _ (by show j < (mapBlock (Sort.ahead w k) b _).heap.size; simp [mapBlock]; exact hj)]
    show ((Sort.ahead w k).heap.modify b _)[j]? = _
    rw [Array.getElem?_modify, if_neg (fun e => hjb e.symm)]; rfl
  have hspare : ∀ j, Q.length * 2 ≤ j → w'.cell? ⟨b, o + j, none⟩ = w.cell? ⟨b, o + j, none⟩ := fun j hj => by
    rw [hW]
    unfold sortWorldK putRowK
    rw [cell?_grow _ _ _ (by show b < (putRow id (Sort.ahead w k) b o _).heap.size; rw [size_putRow]; exact lb), cell?_putRow_other id _ b o _ _ (Or.inr (Or.inr (by rw [size_flatK, List.size_toArray, hsz]; show o + _ ≤ o + j; omega)))]; rfl
  have hfr : ∀ j, w'.frozen? ⟨b, o + j, none⟩ = w.frozen? ⟨b, o + j, none⟩ := fun j => by
    rw [hW]
    unfold sortWorldK putRowK
    rw [frozen?_grow _ _ _ (by show b < (putRow id (Sort.ahead w k) b o _).heap.size; rw [size_putRow]; exact lb), frozen?_putRow]; rfl
  have hrow : ∀ j (hj : j < (tv (inOrder Q)).length), w'.cell? ⟨b, o + j, none⟩ = some (tv (inOrder Q))[j] := fun j hj => by
    have hj' : j < (inOrder Q).length * 2 := by rw [tv_len] at hj; exact hj
    have e := flat_get (inOrder Q) j hj'
    rw [List.getElem?_eq_getElem hj] at e
    rw [(hH' j (by rw [size_flatK]; simpa using hj')).1]
    exact e.symm
  refine ⟨rfl, ⟨h.le, h.max, by rw [tv_len, hsz], (fun e => by cases e), fun a ha => ?_⟩, ⟨?_, ?_, ?_, by omega, fun j hj => hblk j (by omega) (by have : N ≤ b := lN; omega)⟩⟩
  · injection ha with ha
    obtain ⟨g', o', e, _, _, h3, _⟩ := h.lies _ rfl
    injection e with e1 e2
    subst e1; subst e2
    refine ⟨b, o, ha.symm, lN, by omega, fun j hj => ?_, hrow⟩
    refine ⟨?_, by rw [hfr]; exact (h3 j hj).2⟩
    rcases Nat.lt_or_ge j (Q.length * 2) with h1 | h1
    · rw [hrow j (by rw [tv_len, hsz]; exact h1)]; rfl
    · rw [hspare j h1]; exact (h3 j hj).1
  · rw [hW]; rfl
  · rw [hW]; rfl
  · rw [hW]; rfl
theorem sort_all {w : World} {N n c : Nat} {A : Option Addr} {Q : List Td} (h : Mine N 2 w A n c (tv Q)) (hn : Q.length = n) (hl : n ≤ 1100000) :
    Calls Try.prog 36 #[.slice A n c, .func (.func 37) #[] #[]] w fun e w' => e = .returned (.tuple #[]) ∧ Mine N 2 w' A n c (tv (inOrder Q)) ∧ Below N w w' := by
  rcases Nat.eq_zero_or_pos n with h0 | h0
  · subst h0
    obtain rfl : Q = [] := List.eq_nil_of_length_eq_zero hn
    have hcon := AnyF.slices_SortFunc_none Try.sortT A c (.func (.func 37) #[] #[]) w
    change Calls Try.prog 36 _ _ _ at hcon
    refine hcon.mono ?_
    rintro e w' ⟨rfl, rfl⟩
    have e : inOrder [] = [] := List.eq_nil_of_length_eq_zero (inOrder_len [])
    exact ⟨rfl, by rw [e]; exact h, Below.refl _ _⟩
  · obtain ⟨b, o, rfl, _⟩ := mine_place h (by rw [tv_len]; omega)
    exact sort_any h hn hl
end Go.Proofs.Ytpalbccoiejmoaa.Zq
