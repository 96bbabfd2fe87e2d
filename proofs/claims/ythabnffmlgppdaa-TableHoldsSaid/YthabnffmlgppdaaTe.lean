/- Proves what the method resize of the specification's table returns. Conditions: as the theorem names them. -/
import Derived.Test.YthabnffmlgppdaaTd
import Derived.Deep.CutRange
namespace Go.Proofs.Ythabnffmlgppdaa.Te
open Go.RowKit Ap Mi Nw Rg Hm Tm Tn To Ta Tb Tc Td

theorem fill_snoc {h : Key → Nat} (o : Cell Key) : ∀ (l out : List (Cell Key)), fillC h (l ++ [o]) out = fillC h [o] (fillC h l out)
  | [], _ => rfl
  | none :: r, out => fill_snoc o r out
  | some (k, x) :: r, out => fill_snoc o r (putC h out k x)
/-- What is filled when K cells are done. -/
theorem fill_at {h0 h : Key → Nat} {c : List (Cell Key)} (t : Tab h0 c) {n : Nat} (hh : ∀ k, h k < n) (hn : cnt c ≤ n) {K : Nat} (hK : K < c.length) :
    (fillC h (c.take K) (List.replicate n none)).length = n ∧ (∀ o, some o ∈ fillC h (c.take K) (List.replicate n none) → some o ∈ c) ∧ (∀ o, c[K] = some o → none ∈ fillC h (c.take K) (List.replicate n none)) := by
  have hap : Apart (c.take K) := (tab_apart t).sublist (List.take_sublist _ _)
  have hcl : cnt (c.take K) ≤ cnt c := (List.take_sublist _ _).countP_le
  obtain ⟨f1, f2, f3, f4⟩ := fill_tab (c.take K) _ (tab_empty hh) hap (fun k x y _ hm => by have := List.eq_of_mem_replicate hm; cases this) (by rw [cnt_none, len_none]; omega)
  rw [len_none] at f2
  rw [cnt_none] at f3
  refine ⟨f2, fun o ho => ?_, fun o ho => free_of_cnt ?_⟩
  · rcases (f4 o).1 ho with h1 | h1
    · exact List.mem_of_mem_take h1
    · have := List.eq_of_mem_replicate h1; cases this
  · have h5 : cnt (c.take (K + 1)) = cnt (c.take K) + 1 := by
      unfold cnt
      rw [List.take_succ_eq_append_getElem hK, List.countP_append, ho]
      simp
    have h6 : cnt (c.take (K + 1)) ≤ cnt c := (List.take_sublist _ _).countP_le
    omega
/-- A table of the call's own in a block of its own. -/
structure Res (N : Nat) (w : World) (seed : Int) (n b : Nat) (out : List (Cell Key)) (X : Option Addr) (p : Nat) (Y : Option Addr) (q : Nat) : Prop where
  blk : Blk w b #[.int .u64 seed, .slice X n p, .slice Y n q] 31
  own : Own N w out X p Y q
  lo : N ≤ b
  nX : ∀ a, X = some a → a.block ≠ b
  nY : ∀ a, Y = some a → a.block ≠ b
theorem Res.below {N B : Nat} {w w' : World} {seed : Int} {n b : Nat} {out : List (Cell Key)} {X Y : Option Addr} {p q : Nat} (h : Res N w seed n b out X p Y q) (hb : Below B w w') (hB : w.heap.size ≤ B) : Res N w' seed n b out X p Y q :=
  ⟨h.blk.below hb (Nat.lt_of_lt_of_le h.blk.lt hB), h.own.below hb hB, h.lo, h.nX, h.nY⟩
theorem res_aki (w0 : World) (seed : Int) (n : Nat) (h : n ≤ 100000000) : Res w0.heap.size (((w0.alloc (.cells #[.int .u64 seed, .slice (some ⟨w0.heap.size + 1, 0, none⟩) n n, .slice (some ⟨w0.heap.size + 1 + 1, 0, none⟩) n n] 31)).alloc (.cells (zK n) 9)).alloc (.cells (zI n) 3)).drew seed n (w0.heap.size) (List.replicate n none) (some ⟨w0.heap.size + 1, 0, none⟩) n (some ⟨w0.heap.size + 1 + 1, 0, none⟩) n ∧ Below w0.heap.size w0 (((w0.alloc (.cells #[.int .u64 seed, .slice (some ⟨w0.heap.size + 1, 0, none⟩) n n, .slice (some ⟨w0.heap.size + 1 + 1, 0, none⟩) n n] 31)).alloc (.cells (zK n) 9)).alloc (.cells (zI n) 3)).drew := by
  have hb : Below w0.heap.size w0 (((w0.alloc (.cells #[.int .u64 seed, .slice (some ⟨w0.heap.size + 1, 0, none⟩) n n, .slice (some ⟨w0.heap.size + 1 + 1, 0, none⟩) n n] 31)).alloc (.cells (zK n) 9)).alloc (.cells (zI n) 3)) := ((bnew w0 _).alloc (by simp) _).alloc (by simp; omega) _
  have hA := Blk.new w0 #[.int .u64 seed, .slice (some ⟨w0.heap.size + 1, 0, none⟩) n n, .slice (some ⟨w0.heap.size + 1 + 1, 0, none⟩) n n] 31
  replace hA := hA.below (bnew (w0.alloc (.cells #[.int .u64 seed, .slice (some ⟨w0.heap.size + 1, 0, none⟩) n n, .slice (some ⟨w0.heap.size + 1 + 1, 0, none⟩) n n] 31)) (.cells (zK n) 9)) (by simp <;> omega)
  replace hA := hA.below (bnew ((w0.alloc (.cells #[.int .u64 seed, .slice (some ⟨w0.heap.size + 1, 0, none⟩) n n, .slice (some ⟨w0.heap.size + 1 + 1, 0, none⟩) n n] 31)).alloc (.cells (zK n) 9)) (.cells (zI n) 3)) (by simp <;> omega)
  have hK := laid_keys n (w0.alloc (.cells #[.int .u64 seed, .slice (some ⟨w0.heap.size + 1, 0, none⟩) n n, .slice (some ⟨w0.heap.size + 1 + 1, 0, none⟩) n n] 31)) h
  replace hK := hK.below (bnew ((w0.alloc (.cells #[.int .u64 seed, .slice (some ⟨w0.heap.size + 1, 0, none⟩) n n, .slice (some ⟨w0.heap.size + 1 + 1, 0, none⟩) n n] 31)).alloc (.cells (zK n) 9)) (.cells (zI n) 3)) (Nat.le_refl _)
  rw [show (w0.alloc (.cells #[.int .u64 seed, .slice (some ⟨w0.heap.size + 1, 0, none⟩) n n, .slice (some ⟨w0.heap.size + 1 + 1, 0, none⟩) n n] 31)).heap.size = w0.heap.size + 1 by simp] at hK
  have hI := laid_ints n ((w0.alloc (.cells #[.int .u64 seed, .slice (some ⟨w0.heap.size + 1, 0, none⟩) n n, .slice (some ⟨w0.heap.size + 1 + 1, 0, none⟩) n n] 31)).alloc (.cells (zK n) 9)) h
  rw [show ((w0.alloc (.cells #[.int .u64 seed, .slice (some ⟨w0.heap.size + 1, 0, none⟩) n n, .slice (some ⟨w0.heap.size + 1 + 1, 0, none⟩) n n] 31)).alloc (.cells (zK n) 9)).heap.size = w0.heap.size + 1 + 1 by simp] at hI
  have r : Res w0.heap.size (((w0.alloc (.cells #[.int .u64 seed, .slice (some ⟨w0.heap.size + 1, 0, none⟩) n n, .slice (some ⟨w0.heap.size + 1 + 1, 0, none⟩) n n] 31)).alloc (.cells (zK n) 9)).alloc (.cells (zI n) 3)) seed n (w0.heap.size) (List.replicate n none) (some ⟨w0.heap.size + 1, 0, none⟩) n (some ⟨w0.heap.size + 1 + 1, 0, none⟩) n := by
    refine ⟨hA, ⟨?_, ?_, fun a b ha hb => ?_⟩, by omega, fun a ha => ?_, fun a ha => ?_⟩
    · rw [len_none]; exact hK.mono (by omega)
    · rw [len_none]; exact hI.mono (by omega)
    · injection ha with ha; injection hb with hb; subst ha; subst hb; simp only; omega
    · injection ha with ha; subst ha; simp only; omega
    · injection ha with ha; subst ha; simp only; omega
  exact ⟨r.below ((Below.refl _ _).drew) (Nat.le_refl _), hb.drew⟩
theorem res_aik (w0 : World) (seed : Int) (n : Nat) (h : n ≤ 100000000) : Res w0.heap.size (((w0.alloc (.cells #[.int .u64 seed, .slice (some ⟨w0.heap.size + 1 + 1, 0, none⟩) n n, .slice (some ⟨w0.heap.size + 1, 0, none⟩) n n] 31)).alloc (.cells (zI n) 3)).alloc (.cells (zK n) 9)).drew seed n (w0.heap.size) (List.replicate n none) (some ⟨w0.heap.size + 1 + 1, 0, none⟩) n (some ⟨w0.heap.size + 1, 0, none⟩) n ∧ Below w0.heap.size w0 (((w0.alloc (.cells #[.int .u64 seed, .slice (some ⟨w0.heap.size + 1 + 1, 0, none⟩) n n, .slice (some ⟨w0.heap.size + 1, 0, none⟩) n n] 31)).alloc (.cells (zI n) 3)).alloc (.cells (zK n) 9)).drew := by
  have hb : Below w0.heap.size w0 (((w0.alloc (.cells #[.int .u64 seed, .slice (some ⟨w0.heap.size + 1 + 1, 0, none⟩) n n, .slice (some ⟨w0.heap.size + 1, 0, none⟩) n n] 31)).alloc (.cells (zI n) 3)).alloc (.cells (zK n) 9)) := ((bnew w0 _).alloc (by simp) _).alloc (by simp; omega) _
  have hA := Blk.new w0 #[.int .u64 seed, .slice (some ⟨w0.heap.size + 1 + 1, 0, none⟩) n n, .slice (some ⟨w0.heap.size + 1, 0, none⟩) n n] 31
  replace hA := hA.below (bnew (w0.alloc (.cells #[.int .u64 seed, .slice (some ⟨w0.heap.size + 1 + 1, 0, none⟩) n n, .slice (some ⟨w0.heap.size + 1, 0, none⟩) n n] 31)) (.cells (zI n) 3)) (by simp <;> omega)
  replace hA := hA.below (bnew ((w0.alloc (.cells #[.int .u64 seed, .slice (some ⟨w0.heap.size + 1 + 1, 0, none⟩) n n, .slice (some ⟨w0.heap.size + 1, 0, none⟩) n n] 31)).alloc (.cells (zI n) 3)) (.cells (zK n) 9)) (by simp <;> omega)
  have hK := laid_keys n ((w0.alloc (.cells #[.int .u64 seed, .slice (some ⟨w0.heap.size + 1 + 1, 0, none⟩) n n, .slice (some ⟨w0.heap.size + 1, 0, none⟩) n n] 31)).alloc (.cells (zI n) 3)) h
  rw [show ((w0.alloc (.cells #[.int .u64 seed, .slice (some ⟨w0.heap.size + 1 + 1, 0, none⟩) n n, .slice (some ⟨w0.heap.size + 1, 0, none⟩) n n] 31)).alloc (.cells (zI n) 3)).heap.size = w0.heap.size + 1 + 1 by simp] at hK
  have hI := laid_ints n (w0.alloc (.cells #[.int .u64 seed, .slice (some ⟨w0.heap.size + 1 + 1, 0, none⟩) n n, .slice (some ⟨w0.heap.size + 1, 0, none⟩) n n] 31)) h
  replace hI := hI.below (bnew ((w0.alloc (.cells #[.int .u64 seed, .slice (some ⟨w0.heap.size + 1 + 1, 0, none⟩) n n, .slice (some ⟨w0.heap.size + 1, 0, none⟩) n n] 31)).alloc (.cells (zI n) 3)) (.cells (zK n) 9)) (Nat.le_refl _)
  rw [show (w0.alloc (.cells #[.int .u64 seed, .slice (some ⟨w0.heap.size + 1 + 1, 0, none⟩) n n, .slice (some ⟨w0.heap.size + 1, 0, none⟩) n n] 31)).heap.size = w0.heap.size + 1 by simp] at hI
  have r : Res w0.heap.size (((w0.alloc (.cells #[.int .u64 seed, .slice (some ⟨w0.heap.size + 1 + 1, 0, none⟩) n n, .slice (some ⟨w0.heap.size + 1, 0, none⟩) n n] 31)).alloc (.cells (zI n) 3)).alloc (.cells (zK n) 9)) seed n (w0.heap.size) (List.replicate n none) (some ⟨w0.heap.size + 1 + 1, 0, none⟩) n (some ⟨w0.heap.size + 1, 0, none⟩) n := by
    refine ⟨hA, ⟨?_, ?_, fun a b ha hb => ?_⟩, by omega, fun a ha => ?_, fun a ha => ?_⟩
    · rw [len_none]; exact hK.mono (by omega)
    · rw [len_none]; exact hI.mono (by omega)
    · injection ha with ha; injection hb with hb; subst ha; subst hb; simp only; omega
    · injection ha with ha; subst ha; simp only; omega
    · injection ha with ha; subst ha; simp only; omega
  exact ⟨r.below ((Below.refl _ _).drew) (Nat.le_refl _), hb.drew⟩
theorem res_kai (w0 : World) (seed : Int) (n : Nat) (h : n ≤ 100000000) : Res w0.heap.size (((w0.alloc (.cells (zK n) 9)).alloc (.cells #[.int .u64 seed, .slice (some ⟨w0.heap.size, 0, none⟩) n n, .slice (some ⟨w0.heap.size + 1 + 1, 0, none⟩) n n] 31)).alloc (.cells (zI n) 3)).drew seed n (w0.heap.size + 1) (List.replicate n none) (some ⟨w0.heap.size, 0, none⟩) n (some ⟨w0.heap.size + 1 + 1, 0, none⟩) n ∧ Below w0.heap.size w0 (((w0.alloc (.cells (zK n) 9)).alloc (.cells #[.int .u64 seed, .slice (some ⟨w0.heap.size, 0, none⟩) n n, .slice (some ⟨w0.heap.size + 1 + 1, 0, none⟩) n n] 31)).alloc (.cells (zI n) 3)).drew := by
  have hb : Below w0.heap.size w0 (((w0.alloc (.cells (zK n) 9)).alloc (.cells #[.int .u64 seed, .slice (some ⟨w0.heap.size, 0, none⟩) n n, .slice (some ⟨w0.heap.size + 1 + 1, 0, none⟩) n n] 31)).alloc (.cells (zI n) 3)) := ((bnew w0 _).alloc (by simp) _).alloc (by simp; omega) _
  have hA := Blk.new (w0.alloc (.cells (zK n) 9)) #[.int .u64 seed, .slice (some ⟨w0.heap.size, 0, none⟩) n n, .slice (some ⟨w0.heap.size + 1 + 1, 0, none⟩) n n] 31
  replace hA := hA.below (bnew ((w0.alloc (.cells (zK n) 9)).alloc (.cells #[.int .u64 seed, .slice (some ⟨w0.heap.size, 0, none⟩) n n, .slice (some ⟨w0.heap.size + 1 + 1, 0, none⟩) n n] 31)) (.cells (zI n) 3)) (by simp <;> omega)
  rw [show (w0.alloc (.cells (zK n) 9)).heap.size = w0.heap.size + 1 by simp] at hA
  have hK := laid_keys n w0 h
  replace hK := hK.below (bnew (w0.alloc (.cells (zK n) 9)) (.cells #[.int .u64 seed, .slice (some ⟨w0.heap.size, 0, none⟩) n n, .slice (some ⟨w0.heap.size + 1 + 1, 0, none⟩) n n] 31)) (Nat.le_refl _)
  replace hK := hK.below (bnew ((w0.alloc (.cells (zK n) 9)).alloc (.cells #[.int .u64 seed, .slice (some ⟨w0.heap.size, 0, none⟩) n n, .slice (some ⟨w0.heap.size + 1 + 1, 0, none⟩) n n] 31)) (.cells (zI n) 3)) (Nat.le_refl _)
  have hI := laid_ints n ((w0.alloc (.cells (zK n) 9)).alloc (.cells #[.int .u64 seed, .slice (some ⟨w0.heap.size, 0, none⟩) n n, .slice (some ⟨w0.heap.size + 1 + 1, 0, none⟩) n n] 31)) h
  rw [show ((w0.alloc (.cells (zK n) 9)).alloc (.cells #[.int .u64 seed, .slice (some ⟨w0.heap.size, 0, none⟩) n n, .slice (some ⟨w0.heap.size + 1 + 1, 0, none⟩) n n] 31)).heap.size = w0.heap.size + 1 + 1 by simp] at hI
  have r : Res w0.heap.size (((w0.alloc (.cells (zK n) 9)).alloc (.cells #[.int .u64 seed, .slice (some ⟨w0.heap.size, 0, none⟩) n n, .slice (some ⟨w0.heap.size + 1 + 1, 0, none⟩) n n] 31)).alloc (.cells (zI n) 3)) seed n (w0.heap.size + 1) (List.replicate n none) (some ⟨w0.heap.size, 0, none⟩) n (some ⟨w0.heap.size + 1 + 1, 0, none⟩) n := by
    refine ⟨hA, ⟨?_, ?_, fun a b ha hb => ?_⟩, by omega, fun a ha => ?_, fun a ha => ?_⟩
    · rw [len_none]; exact hK.mono (by omega)
    · rw [len_none]; exact hI.mono (by omega)
    · injection ha with ha; injection hb with hb; subst ha; subst hb; simp only; omega
    · injection ha with ha; subst ha; simp only; omega
    · injection ha with ha; subst ha; simp only; omega
  exact ⟨r.below ((Below.refl _ _).drew) (Nat.le_refl _), hb.drew⟩
theorem res_kia (w0 : World) (seed : Int) (n : Nat) (h : n ≤ 100000000) : Res w0.heap.size (((w0.alloc (.cells (zK n) 9)).alloc (.cells (zI n) 3)).alloc (.cells #[.int .u64 seed, .slice (some ⟨w0.heap.size, 0, none⟩) n n, .slice (some ⟨w0.heap.size + 1, 0, none⟩) n n] 31)).drew seed n (w0.heap.size + 1 + 1) (List.replicate n none) (some ⟨w0.heap.size, 0, none⟩) n (some ⟨w0.heap.size + 1, 0, none⟩) n ∧ Below w0.heap.size w0 (((w0.alloc (.cells (zK n) 9)).alloc (.cells (zI n) 3)).alloc (.cells #[.int .u64 seed, .slice (some ⟨w0.heap.size, 0, none⟩) n n, .slice (some ⟨w0.heap.size + 1, 0, none⟩) n n] 31)).drew := by
  have hb : Below w0.heap.size w0 (((w0.alloc (.cells (zK n) 9)).alloc (.cells (zI n) 3)).alloc (.cells #[.int .u64 seed, .slice (some ⟨w0.heap.size, 0, none⟩) n n, .slice (some ⟨w0.heap.size + 1, 0, none⟩) n n] 31)) := ((bnew w0 _).alloc (by simp) _).alloc (by simp; omega) _
  have hA := Blk.new ((w0.alloc (.cells (zK n) 9)).alloc (.cells (zI n) 3)) #[.int .u64 seed, .slice (some ⟨w0.heap.size, 0, none⟩) n n, .slice (some ⟨w0.heap.size + 1, 0, none⟩) n n] 31
  rw [show ((w0.alloc (.cells (zK n) 9)).alloc (.cells (zI n) 3)).heap.size = w0.heap.size + 1 + 1 by simp] at hA
  have hK := laid_keys n w0 h
  replace hK := hK.below (bnew (w0.alloc (.cells (zK n) 9)) (.cells (zI n) 3)) (Nat.le_refl _)
  replace hK := hK.below (bnew ((w0.alloc (.cells (zK n) 9)).alloc (.cells (zI n) 3)) (.cells #[.int .u64 seed, .slice (some ⟨w0.heap.size, 0, none⟩) n n, .slice (some ⟨w0.heap.size + 1, 0, none⟩) n n] 31)) (Nat.le_refl _)
  have hI := laid_ints n (w0.alloc (.cells (zK n) 9)) h
  replace hI := hI.below (bnew ((w0.alloc (.cells (zK n) 9)).alloc (.cells (zI n) 3)) (.cells #[.int .u64 seed, .slice (some ⟨w0.heap.size, 0, none⟩) n n, .slice (some ⟨w0.heap.size + 1, 0, none⟩) n n] 31)) (Nat.le_refl _)
  rw [show (w0.alloc (.cells (zK n) 9)).heap.size = w0.heap.size + 1 by simp] at hI
  have r : Res w0.heap.size (((w0.alloc (.cells (zK n) 9)).alloc (.cells (zI n) 3)).alloc (.cells #[.int .u64 seed, .slice (some ⟨w0.heap.size, 0, none⟩) n n, .slice (some ⟨w0.heap.size + 1, 0, none⟩) n n] 31)) seed n (w0.heap.size + 1 + 1) (List.replicate n none) (some ⟨w0.heap.size, 0, none⟩) n (some ⟨w0.heap.size + 1, 0, none⟩) n := by
    refine ⟨hA, ⟨?_, ?_, fun a b ha hb => ?_⟩, by omega, fun a ha => ?_, fun a ha => ?_⟩
    · rw [len_none]; exact hK.mono (by omega)
    · rw [len_none]; exact hI.mono (by omega)
    · injection ha with ha; injection hb with hb; subst ha; subst hb; simp only; omega
    · injection ha with ha; subst ha; simp only; omega
    · injection ha with ha; subst ha; simp only; omega
  exact ⟨r.below ((Below.refl _ _).drew) (Nat.le_refl _), hb.drew⟩
theorem res_iak (w0 : World) (seed : Int) (n : Nat) (h : n ≤ 100000000) : Res w0.heap.size (((w0.alloc (.cells (zI n) 3)).alloc (.cells #[.int .u64 seed, .slice (some ⟨w0.heap.size + 1 + 1, 0, none⟩) n n, .slice (some ⟨w0.heap.size, 0, none⟩) n n] 31)).alloc (.cells (zK n) 9)).drew seed n (w0.heap.size + 1) (List.replicate n none) (some ⟨w0.heap.size + 1 + 1, 0, none⟩) n (some ⟨w0.heap.size, 0, none⟩) n ∧ Below w0.heap.size w0 (((w0.alloc (.cells (zI n) 3)).alloc (.cells #[.int .u64 seed, .slice (some ⟨w0.heap.size + 1 + 1, 0, none⟩) n n, .slice (some ⟨w0.heap.size, 0, none⟩) n n] 31)).alloc (.cells (zK n) 9)).drew := by
  have hb : Below w0.heap.size w0 (((w0.alloc (.cells (zI n) 3)).alloc (.cells #[.int .u64 seed, .slice (some ⟨w0.heap.size + 1 + 1, 0, none⟩) n n, .slice (some ⟨w0.heap.size, 0, none⟩) n n] 31)).alloc (.cells (zK n) 9)) := ((bnew w0 _).alloc (by simp) _).alloc (by simp; omega) _
  have hA := Blk.new (w0.alloc (.cells (zI n) 3)) #[.int .u64 seed, .slice (some ⟨w0.heap.size + 1 + 1, 0, none⟩) n n, .slice (some ⟨w0.heap.size, 0, none⟩) n n] 31
  replace hA := hA.below (bnew ((w0.alloc (.cells (zI n) 3)).alloc (.cells #[.int .u64 seed, .slice (some ⟨w0.heap.size + 1 + 1, 0, none⟩) n n, .slice (some ⟨w0.heap.size, 0, none⟩) n n] 31)) (.cells (zK n) 9)) (by simp <;> omega)
  rw [show (w0.alloc (.cells (zI n) 3)).heap.size = w0.heap.size + 1 by simp] at hA
  have hK := laid_keys n ((w0.alloc (.cells (zI n) 3)).alloc (.cells #[.int .u64 seed, .slice (some ⟨w0.heap.size + 1 + 1, 0, none⟩) n n, .slice (some ⟨w0.heap.size, 0, none⟩) n n] 31)) h
  rw [show ((w0.alloc (.cells (zI n) 3)).alloc (.cells #[.int .u64 seed, .slice (some ⟨w0.heap.size + 1 + 1, 0, none⟩) n n, .slice (some ⟨w0.heap.size, 0, none⟩) n n] 31)).heap.size = w0.heap.size + 1 + 1 by simp] at hK
  have hI := laid_ints n w0 h
  replace hI := hI.below (bnew (w0.alloc (.cells (zI n) 3)) (.cells #[.int .u64 seed, .slice (some ⟨w0.heap.size + 1 + 1, 0, none⟩) n n, .slice (some ⟨w0.heap.size, 0, none⟩) n n] 31)) (Nat.le_refl _)
  replace hI := hI.below (bnew ((w0.alloc (.cells (zI n) 3)).alloc (.cells #[.int .u64 seed, .slice (some ⟨w0.heap.size + 1 + 1, 0, none⟩) n n, .slice (some ⟨w0.heap.size, 0, none⟩) n n] 31)) (.cells (zK n) 9)) (Nat.le_refl _)
  have r : Res w0.heap.size (((w0.alloc (.cells (zI n) 3)).alloc (.cells #[.int .u64 seed, .slice (some ⟨w0.heap.size + 1 + 1, 0, none⟩) n n, .slice (some ⟨w0.heap.size, 0, none⟩) n n] 31)).alloc (.cells (zK n) 9)) seed n (w0.heap.size + 1) (List.replicate n none) (some ⟨w0.heap.size + 1 + 1, 0, none⟩) n (some ⟨w0.heap.size, 0, none⟩) n := by
    refine ⟨hA, ⟨?_, ?_, fun a b ha hb => ?_⟩, by omega, fun a ha => ?_, fun a ha => ?_⟩
    · rw [len_none]; exact hK.mono (by omega)
    · rw [len_none]; exact hI.mono (by omega)
    · injection ha with ha; injection hb with hb; subst ha; subst hb; simp only; omega
    · injection ha with ha; subst ha; simp only; omega
    · injection ha with ha; subst ha; simp only; omega
  exact ⟨r.below ((Below.refl _ _).drew) (Nat.le_refl _), hb.drew⟩
theorem res_ika (w0 : World) (seed : Int) (n : Nat) (h : n ≤ 100000000) : Res w0.heap.size (((w0.alloc (.cells (zI n) 3)).alloc (.cells (zK n) 9)).alloc (.cells #[.int .u64 seed, .slice (some ⟨w0.heap.size + 1, 0, none⟩) n n, .slice (some ⟨w0.heap.size, 0, none⟩) n n] 31)).drew seed n (w0.heap.size + 1 + 1) (List.replicate n none) (some ⟨w0.heap.size + 1, 0, none⟩) n (some ⟨w0.heap.size, 0, none⟩) n ∧ Below w0.heap.size w0 (((w0.alloc (.cells (zI n) 3)).alloc (.cells (zK n) 9)).alloc (.cells #[.int .u64 seed, .slice (some ⟨w0.heap.size + 1, 0, none⟩) n n, .slice (some ⟨w0.heap.size, 0, none⟩) n n] 31)).drew := by
  have hb : Below w0.heap.size w0 (((w0.alloc (.cells (zI n) 3)).alloc (.cells (zK n) 9)).alloc (.cells #[.int .u64 seed, .slice (some ⟨w0.heap.size + 1, 0, none⟩) n n, .slice (some ⟨w0.heap.size, 0, none⟩) n n] 31)) := ((bnew w0 _).alloc (by simp) _).alloc (by simp; omega) _
  have hA := Blk.new ((w0.alloc (.cells (zI n) 3)).alloc (.cells (zK n) 9)) #[.int .u64 seed, .slice (some ⟨w0.heap.size + 1, 0, none⟩) n n, .slice (some ⟨w0.heap.size, 0, none⟩) n n] 31
  rw [show ((w0.alloc (.cells (zI n) 3)).alloc (.cells (zK n) 9)).heap.size = w0.heap.size + 1 + 1 by simp] at hA
  have hK := laid_keys n (w0.alloc (.cells (zI n) 3)) h
  replace hK := hK.below (bnew ((w0.alloc (.cells (zI n) 3)).alloc (.cells (zK n) 9)) (.cells #[.int .u64 seed, .slice (some ⟨w0.heap.size + 1, 0, none⟩) n n, .slice (some ⟨w0.heap.size, 0, none⟩) n n] 31)) (Nat.le_refl _)
  rw [show (w0.alloc (.cells (zI n) 3)).heap.size = w0.heap.size + 1 by simp] at hK
  have hI := laid_ints n w0 h
  replace hI := hI.below (bnew (w0.alloc (.cells (zI n) 3)) (.cells (zK n) 9)) (Nat.le_refl _)
  replace hI := hI.below (bnew ((w0.alloc (.cells (zI n) 3)).alloc (.cells (zK n) 9)) (.cells #[.int .u64 seed, .slice (some ⟨w0.heap.size + 1, 0, none⟩) n n, .slice (some ⟨w0.heap.size, 0, none⟩) n n] 31)) (Nat.le_refl _)
  have r : Res w0.heap.size (((w0.alloc (.cells (zI n) 3)).alloc (.cells (zK n) 9)).alloc (.cells #[.int .u64 seed, .slice (some ⟨w0.heap.size + 1, 0, none⟩) n n, .slice (some ⟨w0.heap.size, 0, none⟩) n n] 31)) seed n (w0.heap.size + 1 + 1) (List.replicate n none) (some ⟨w0.heap.size + 1, 0, none⟩) n (some ⟨w0.heap.size, 0, none⟩) n := by
    refine ⟨hA, ⟨?_, ?_, fun a b ha hb => ?_⟩, by omega, fun a ha => ?_, fun a ha => ?_⟩
    · rw [len_none]; exact hK.mono (by omega)
    · rw [len_none]; exact hI.mono (by omega)
    · injection ha with ha; injection hb with hb; subst ha; subst hb; simp only; omega
    · injection ha with ha; subst ha; simp only; omega
    · injection ha with ha; subst ha; simp only; omega
  exact ⟨r.below ((Below.refl _ _).drew) (Nat.le_refl _), hb.drew⟩
def resPost (w : World) (seed : Int) (n : Nat) (c : List (Cell Key)) : Ending → World → Prop := fun r w' =>
  ∃ X p Y q, r = .returned (.agg #[.int .u64 seed, .slice X n p, .slice Y n q]) ∧ Own w.heap.size w' (sizeC (hom seed n) n c) X p Y q ∧ Below w.heap.size w w'
set_option maxRecDepth 100000 in
set_option maxHeartbeats 4000000 in
theorem resize_any {w : World} {c : List (Cell Key)} {X Y : Option Addr} {p q : Nat} {seed : Int} {h0 : Key → Nat} (h : Tb w c X p Y q) (hy : Kys c) (t : Tab h0 c) (n : Nat) (hcn : cnt c ≤ n) (hn1 : 1 ≤ n) (hn2 : n ≤ 1000000) (hs : U64 seed) (hn : c.length ≤ 1000000) :
    Calls Try.prog 34 #[.agg #[.int .u64 seed, .slice X c.length p, .slice Y c.length q], .int .i64 (n : Int)] w (resPost w seed n c) := by
  have MK : ∀ W : World, (Instr.makeSlice 28 (.int .i64 (n : Int)) (.int .i64 (n : Int))).run Try.prog W = .ok (.slice (some ⟨W.heap.size, 0, none⟩) n n) (W.alloc (.cells (zK n) 9)) := fun W => make_keys n W (by omega)
  have MI : ∀ W : World, (Instr.makeSlice 29 (.int .i64 (n : Int)) (.int .i64 (n : Int))).run Try.prog W = .ok (.slice (some ⟨W.heap.size, 0, none⟩) n n) (W.alloc (.cells (zI n) 3)) := fun W => make_ints n W (by omega)
  have HY := Lib.hid hy; have HT := Lib.hid t; have HCN := Lib.hid hcn; have HS := Lib.hid hs
  unfold resPost
  obtain ⟨w0, hw0⟩ : ∃ w0, w0 = (w.alloc (.cells #[.int .u64 seed, .slice X c.length p, .slice Y c.length q] 31)).alloc (.cells #[.int .u64 0, .slice none 0 0, .slice none 0 0] 31) := ⟨_, rfl⟩
  have b0 : Below w.heap.size w w0 := by rw [hw0]; exact ((bnew w _).alloc (by simp) _)
  have p1 : Blk w0 w.heap.size #[.int .u64 seed, .slice X c.length p, .slice Y c.length q] 31 := by rw [hw0]; exact (Blk.new w _ _).below (bnew _ _) (by simp)
  have p2 : Blk w0 (w.heap.size + 1) #[.int .u64 0, .slice none 0 0, .slice none 0 0] 31 := by
    have := Blk.new (w.alloc (.cells #[.int .u64 seed, .slice X c.length p, .slice Y c.length q] 31)) #[.int .u64 0, .slice none 0 0, .slice none 0 0] 31
    rw [hw0]; simpa using this
  have h0' := h.below b0 (Nat.le_refl _)
  have hz0 : w.heap.size + 1 < w0.heap.size := p2.lt
  have HB0 := Lib.hid b0; have P1 := Lib.hid p1; have P2 := Lib.hid p2; have H0 := Lib.hid h0'
  have hcap := h.ks.max
  obtain ⟨c0, c1, c2, _⟩ := p1.three
  have g1 : (c.length : Int) ≤ 1000000 := by omega
  have g2 : (n : Int) ≤ 1000000 := by omega
  have l0 : w.heap.size < w0.heap.size := by omega
  have l1 : w.heap.size < w0.heap.size + 1 := by omega
  have l2 : w.heap.size < w0.heap.size + 1 + 1 := by omega
  clear h b0 p1 p2 h0' hy t hcn hs
  go_enter Try.func34, Try.ntmps34
  go_upto_region 1 with (fail)
  rw [← hw0]
  clear hw0
  go_cut [5] from 7 (fun s5 wx => ∃ b X1 Y1, s5 = .pointer (some ⟨b, 0, none⟩) ∧ Res w0.heap.size wx seed n b (List.replicate n none) X1 n Y1 n ∧ Below w0.heap.size w0 wx)
  case first =>
    go_region
    all_goals (go_wp2_with fail; go_meet; first | exact ⟨_, _, _, rfl, res_aki w0 seed n (by omega)⟩ | exact ⟨_, _, _, rfl, res_aik w0 seed n (by omega)⟩ | exact ⟨_, _, _, rfl, res_kai w0 seed n (by omega)⟩ | exact ⟨_, _, _, rfl, res_kia w0 seed n (by omega)⟩ | exact ⟨_, _, _, rfl, res_iak w0 seed n (by omega)⟩ | exact ⟨_, _, _, rfl, res_ika w0 seed n (by omega)⟩)
  case rest =>
    obtain ⟨b5, X0, Y0, rfl, hr, hb⟩ := hcut
    have R0 := Lib.hid hr; have BB := Lib.hid hb
    have hz5 : w0.heap.size ≤ b5 := hr.lo
    have hzc : w0.heap.size ≤ wc.heap.size := hb.size
    clear hr hb c0 c1 c2 l0 l1 l2 MK MI
    have Q2 := Lib.hid (P1.out.below BB.out (by omega))
    obtain ⟨c0, c1, c2, _⟩ := Q2.out.three
    go_wp2_with fail
    go_loopw [6] (fun i wr => ∃ (ix : Nat) (X1 : Option Addr) (p1 : Nat) (Y1 : Option Addr) (q1 : Nat), ix ≤ c.length ∧ i = .int .i64 (ix : Int) ∧ Res w0.heap.size wr seed n b5 (fillC (hom seed n) (c.take ix) (List.replicate n none)) X1 p1 Y1 q1 ∧ Below w0.heap.size w0 wr) (fun i _ => c.length - (intOf i).toNat)
    case atStart => exact ⟨0, _, _, _, _, Nat.zero_le _, rfl, R0.out, BB.out⟩
    case round =>
      obtain ⟨ix, X1, p1, Y1, q1, hix, rfl, hr, hb⟩ := hrel
      have R1 := Lib.hid hr; have BR := Lib.hid hb
      have hzr : w0.heap.size ≤ wr.heap.size := hb.size
      have QR := Lib.hid (P1.out.below hb (by omega)); have HR := Lib.hid (H0.out.below hb (Nat.le_refl _))
      have l5 : b5 < wr.heap.size := hr.blk.lt
      have l2 : w.heap.size < wr.heap.size := by omega
      clear hr hb c0 c1 c2
      obtain ⟨c0, c1, c2, _⟩ := QR.out.three
      by_cases hlt : ix < c.length
      · have j1 : (ix : Int) < (c.length : Int) := by omega
        obtain ⟨tb, to_, rfl, ltb, a0⟩ := HR.out.ks.rd.at_ (kc_get hlt)
        obtain ⟨tn, tq, rfl, ltn, d0⟩ := HR.out.ns.rd.at_ (nc_get hlt)
        obtain ⟨fa, fb, fc⟩ := fill_at HT.out (hom_lt seed n hn1) HCN.out hlt
        have HS1 : Hid (fillC (hom seed n) (c.take (ix + 1)) (List.replicate n none) = fillC (hom seed n) [c[ix]] (fillC (hom seed n) (c.take ix) (List.replicate n none))) := by show _ = _; rw [List.take_succ_eq_append_getElem hlt, fill_snoc]
        obtain ⟨out, hout⟩ : ∃ out, out = fillC (hom seed n) (c.take ix) (List.replicate n none) := ⟨_, rfl⟩
        rw [← hout] at R1 fa fb fc HS1
        clear hout
        cases e : c[ix] with
        | none =>
          rw [e] at a0 HS1
          have a0' : wr.cell? ⟨tb, to_ + ix, none⟩ = some (.string ⟨#[]⟩) := a0
          clear a0 d0 fa fb fc
          go_wp2_with fail
          go_roundw
          case rel => exact ⟨ix + 1, X1, p1, Y1, q1, by omega, by go_num, by rw [HS1.out]; exact R1.out, BR.out⟩
          case measure => simp [intOf]; omega
        | some ky =>
          obtain ⟨k', x'⟩ := ky
          rw [e] at a0 d0 HS1
          have hmem : some (k', x') ∈ c := by rw [← e]; exact List.getElem_mem hlt
          obtain ⟨hk1, hk2, _⟩ := HY.out k' x' hmem
          have hbe : List.isEmpty k' = false := by cases k' with
            | nil => simp at hk1
            | cons _ _ => rfl
          have a0' : wr.cell? ⟨tb, to_ + ix, none⟩ = some (.string ⟨k'.toArray⟩) := a0
          have d0' : wr.cell? ⟨tn, tq + ix, none⟩ = some (.int .i64 (x' : Int)) := d0
          have HSS : Hid (fillC (hom seed n) (c.take (ix + 1)) (List.replicate n none) = putC (hom seed n) out k' x') := HS1.out
          have HFO : Hid (out.length = n) := fa
          have HFM : Hid (none ∈ out) := fc _ e
          have HKO : Hid (Kys out) := fun k y hm => HY.out k y (fb _ hm)
          have KG : Hid ((kc c)[ix]? = some (.string ⟨k'.toArray⟩)) := by show _ = _; rw [kc_get hlt, e]; rfl
          have NG : Hid ((nc c)[ix]? = some (.int .i64 (x' : Int))) := by show _ = _; rw [nc_get hlt, e]; rfl
          clear a0 d0 fa fb fc e hmem HS1
          obtain ⟨v0, v1, v2, vf0, vf1, vf2⟩ := R1.out.blk.three
          go_upto_region 6 with (fail)
          have Rd := Lib.hid (R1.out.below ((Below.refl wr.heap.size wr).drew) (Nat.le_refl _))
          have Bd : Hid (Below w0.heap.size w0 wr.drew) := BR.out.drew
          have hzd : wr.heap.size ≤ wr.drew.heap.size := Nat.le_refl _
          have hS : (fun v => v.cell? ⟨b5, 0, none⟩ = some (.int .u64 seed) ∧ v.cell? ⟨b5, 1, none⟩ = some (.slice X1 n p1) ∧ v.cell? ⟨b5, 2, none⟩ = some (.slice Y1 n q1) ∧ v.cell? ⟨w.heap.size, 1, none⟩ = some (.slice (some ⟨tb, to_, none⟩) c.length p) ∧ v.cell? ⟨w.heap.size, 2, none⟩ = some (.slice (some ⟨tn, tq, none⟩) c.length q) ∧ v.cell? ⟨tb, to_ + ix, none⟩ = some (.string ⟨k'.toArray⟩) ∧ v.cell? ⟨tn, tq + ix, none⟩ = some (.int .i64 (x' : Int))) wr.drew := ⟨v0, v1, v2, c1, c2, a0', d0'⟩
          refine wp_region_noPanic ?_
          refine wp_region_G 12 (fun v => v.cell? ⟨b5, 0, none⟩ = some (.int .u64 seed) ∧ v.cell? ⟨b5, 1, none⟩ = some (.slice X1 n p1) ∧ v.cell? ⟨b5, 2, none⟩ = some (.slice Y1 n q1) ∧ v.cell? ⟨w.heap.size, 1, none⟩ = some (.slice (some ⟨tb, to_, none⟩) c.length p) ∧ v.cell? ⟨w.heap.size, 2, none⟩ = some (.slice (some ⟨tn, tq, none⟩) c.length q) ∧ v.cell? ⟨tb, to_ + ix, none⟩ = some (.string ⟨k'.toArray⟩) ∧ v.cell? ⟨tn, tq + ix, none⟩ = some (.int .i64 (x' : Int))) (by kernel_rfl) ?_
          generalize wr.drew = u at Rd Bd hzd hS ⊢
          clear v0 v1 v2 vf0 vf1 vf2 c0 c1 c2 a0' d0'
          refine wpAnyG_take (i := 0) (oi := ⟨some 27, _, _, _, _, _⟩) (v := ?_) rfl (by kernel_rfl) (by kernel_rfl) (by kernel_rfl) (by kernel_rfl) (by kernel_rfl) (fun _ _ _ h => h) (Or.inl ⟨by rfl, ?_⟩) (hS) ?_
          rotate_left
          · intro w hSw; go_simp; first | done | with_reducible rfl
          try simp only [Act.put, List.setIfInBounds_toArray, List.set_cons_zero, List.set_cons_succ]
          refine wpAnyG_take (i := 1) (oi := ⟨some 28, _, _, _, _, _⟩) (v := ?_) rfl (by kernel_rfl) (by kernel_rfl) (by kernel_rfl) (by kernel_rfl) (by kernel_rfl) (fun _ _ _ h => h) (Or.inl ⟨by rfl, ?_⟩) (hS) ?_
          rotate_left
          · intro w hSw; go_simp; first | done | with_reducible rfl
          try simp only [Act.put, List.setIfInBounds_toArray, List.set_cons_zero, List.set_cons_succ]
          refine wpAnyG_take (i := 2) (oi := ⟨some 29, _, _, _, _, _⟩) (v := ?_) rfl (by kernel_rfl) (by kernel_rfl) (by kernel_rfl) (by kernel_rfl) (by kernel_rfl) (fun _ _ _ h => h) (Or.inl ⟨by rfl, ?_⟩) (hS) ?_
          rotate_left
          · intro w hSw; go_simp; first | done | with_reducible rfl
          try simp only [Act.put, List.setIfInBounds_toArray, List.set_cons_zero, List.set_cons_succ]
          refine wpAnyG_take (i := 3) (oi := ⟨some 30, _, _, _, _, _⟩) (v := ?_) rfl (by kernel_rfl) (by kernel_rfl) (by kernel_rfl) (by kernel_rfl) (by kernel_rfl) (fun _ _ _ h => h) (Or.inl ⟨by rfl, ?_⟩) (hS) ?_
          rotate_left
          · intro w hSw; go_simp; first | done | with_reducible rfl
          try simp only [Act.put, List.setIfInBounds_toArray, List.set_cons_zero, List.set_cons_succ]
          refine wpAnyG_take (i := 4) (oi := ⟨some 31, _, _, _, _, _⟩) (v := ?_) rfl (by kernel_rfl) (by kernel_rfl) (by kernel_rfl) (by kernel_rfl) (by kernel_rfl) (fun _ _ _ h => h) (Or.inl ⟨by rfl, ?_⟩) (hS) ?_
          rotate_left
          · intro w hSw; go_simp; first | done | with_reducible rfl
          try simp only [Act.put, List.setIfInBounds_toArray, List.set_cons_zero, List.set_cons_succ]
          refine wpAnyG_take (i := 5) (oi := ⟨some 32, _, _, _, _, _⟩) (v := ?_) rfl (by kernel_rfl) (by kernel_rfl) (by kernel_rfl) (by kernel_rfl) (by kernel_rfl) (fun _ _ _ h => h) (Or.inl ⟨by rfl, ?_⟩) (hS) ?_
          rotate_left
          · intro w hSw; go_simp; first | done | with_reducible rfl
          try simp only [Act.put, List.setIfInBounds_toArray, List.set_cons_zero, List.set_cons_succ]
          refine wpAnyG_take (i := 6) (oi := ⟨some 33, _, _, _, _, _⟩) (v := ?_) rfl (by kernel_rfl) (by kernel_rfl) (by kernel_rfl) (by kernel_rfl) (by kernel_rfl) (fun _ _ _ h => h) (Or.inl ⟨by rfl, ?_⟩) (hS) ?_
          rotate_left
          · intro w hSw; go_simp; first | done | with_reducible rfl
          try simp only [Act.put, List.setIfInBounds_toArray, List.set_cons_zero, List.set_cons_succ]
          refine wpAnyG_take (i := 7) (oi := ⟨some 34, _, _, _, _, _⟩) (v := ?_) rfl (by kernel_rfl) (by kernel_rfl) (by kernel_rfl) (by kernel_rfl) (by kernel_rfl) (fun _ _ _ h => h) (Or.inl ⟨by rfl, ?_⟩) (hS) ?_
          rotate_left
          · intro w hSw; go_simp; first | done | with_reducible rfl
          try simp only [Act.put, List.setIfInBounds_toArray, List.set_cons_zero, List.set_cons_succ]
          refine wpAnyG_take (i := 8) (oi := ⟨some 35, _, _, _, _, _⟩) (v := ?_) rfl (by kernel_rfl) (by kernel_rfl) (by kernel_rfl) (by kernel_rfl) (by kernel_rfl) (fun _ _ _ h => h) (Or.inl ⟨by rfl, ?_⟩) (hS) ?_
          rotate_left
          · intro w hSw; go_simp; first | done | with_reducible rfl
          try simp only [Act.put, List.setIfInBounds_toArray, List.set_cons_zero, List.set_cons_succ]
          refine wpAnyG_take (i := 9) (oi := ⟨some 36, _, _, _, _, _⟩) (v := ?_) rfl (by kernel_rfl) (by kernel_rfl) (by kernel_rfl) (by kernel_rfl) (by kernel_rfl) (fun _ _ _ h => h) (Or.inl ⟨by rfl, ?_⟩) (hS) ?_
          rotate_left
          · intro w hSw; go_simp; first | done | with_reducible rfl
          try simp only [Act.put, List.setIfInBounds_toArray, List.set_cons_zero, List.set_cons_succ]
          refine wpAnyG_take (i := 10) (oi := ⟨some 37, _, _, _, _, _⟩) (v := ?_) rfl (by kernel_rfl) (by kernel_rfl) (by kernel_rfl) (by kernel_rfl) (by kernel_rfl) (fun _ _ _ h => h) (Or.inl ⟨by rfl, ?_⟩) (hS) ?_
          rotate_left
          · intro w hSw; go_simp; first | done | with_reducible rfl
          try simp only [Act.put, List.setIfInBounds_toArray, List.set_cons_zero, List.set_cons_succ]
          refine wpAnyG_ready (rs := [11]) (by kernel_rfl) (by simp) ?_
          refine AllReadyG.cons (o := ⟨some 38, _, _, _, _, _⟩) rfl (fun K hK => ?_) AllReadyG.nil
          go_simp
          have FI : Hid (Calls Try.prog 35 #[.agg #[.int .u64 seed, .slice X1 n p1, .slice Y1 n q1], .string ⟨k'.toArray⟩, .int .i64 (x' : Int)] u (firstPost u seed out k' x')) := by
            have h1 := first_any Rd.out.own.tb HKO.out HFM.out k' x' (by omega) HS.out (by rw [HFO.out]; exact hn2)
            rw [HFO.out] at h1
            exact h1
          refine FI.out.mono ?_
          rintro r u2 ⟨X2, p2, Y2, q2, rfl, ho, hb2⟩
          rw [HFO.out] at ho
          have HO2 := Lib.hid ho
          have R2 := Lib.hid (Rd.out.blk.below hb2 Rd.out.blk.lt)
          have B2 := Lib.hid (Bd.out.trans (hb2.mono (by omega)))
          have hz2 : u.heap.size ≤ u2.heap.size := hb2.size
          have QR2 := Lib.hid (P1.out.below B2.out (by omega)); have HR2 := Lib.hid (H0.out.below B2.out (Nat.le_refl _))
          obtain ⟨c0, c1, c2, _⟩ := QR2.out.three
          have a0' : u2.cell? ⟨tb, to_ + ix, none⟩ = some (.string ⟨k'.toArray⟩) := by obtain ⟨t1, t2, et, _, a2⟩ := HR2.out.ks.rd.at_ KG.out; injection et with et; injection et with e1 e2; subst e1; subst e2; exact a2
          have d0' : u2.cell? ⟨tn, tq + ix, none⟩ = some (.int .i64 (x' : Int)) := by obtain ⟨t1, t2, et, _, a2⟩ := HR2.out.ns.rd.at_ NG.out; injection et with et; injection et with e1 e2; subst e1; subst e2; exact a2
          have hS2 : (fun v => v.cell? ⟨b5, 0, none⟩ = some (.int .u64 seed) ∧ v.cell? ⟨b5, 1, none⟩ = some (.slice X1 n p1) ∧ v.cell? ⟨b5, 2, none⟩ = some (.slice Y1 n q1) ∧ v.cell? ⟨w.heap.size, 1, none⟩ = some (.slice (some ⟨tb, to_, none⟩) c.length p) ∧ v.cell? ⟨w.heap.size, 2, none⟩ = some (.slice (some ⟨tn, tq, none⟩) c.length q) ∧ v.cell? ⟨tb, to_ + ix, none⟩ = some (.string ⟨k'.toArray⟩) ∧ v.cell? ⟨tn, tq + ix, none⟩ = some (.int .i64 (x' : Int))) u2 := ⟨R2.out.cell 0, R2.out.cell 1, R2.out.cell 2, c1, c2, a0', d0'⟩
          clear ho hb2 FI
          go_simp
          refine hK.out _ _ (fun _ => hS2) ?_
          clear hK K
          try simp only [Act.put, List.setIfInBounds_toArray, List.set_cons_zero, List.set_cons_succ]
          refine wpAnyG_ready (rs := [12]) (by kernel_rfl) (by simp) ?_
          refine AllReadyG.cons (o := ⟨none, _, _, _, _, _⟩) rfl (fun K hK => ?_) AllReadyG.nil
          obtain ⟨r0, r1, r2, rf0, rf1, rf2⟩ := R2.out.three
          have l52 : b5 < u2.heap.size := R2.out.lt
          go_simp
          obtain ⟨u3, hu3⟩ : ∃ u3, u3 = ((u2.setCell ⟨b5, 0, none⟩ (.int .u64 seed)).setCell ⟨b5, 1, none⟩ (.slice X2 out.length p2)).setCell ⟨b5, 2, none⟩ (.slice Y2 out.length q2) := ⟨_, rfl⟩
          have O3 : Only (fun j => j = b5) u2 u3 := by rw [hu3]; exact (((Only.refl (fun j => j = b5) u2).put (ad := ⟨b5, 0, none⟩) rfl _).put (ad := ⟨b5, 1, none⟩) rfl _).put (ad := ⟨b5, 2, none⟩) rfl _
          have R3 : Hid (Res w0.heap.size u3 seed n b5 (putC (hom seed n) out k' x') X2 p2 Y2 q2) := by
            have h1 := ((R2.out.set 0 (.int .u64 seed)).set 1 (.slice X2 out.length p2)).set 2 (.slice Y2 out.length q2)
            have h2 : Blk u3 b5 #[.int .u64 seed, .slice X2 out.length p2, .slice Y2 out.length q2] 31 := by rw [hu3]; exact h1
            rw [HFO.out] at h2
            exact ⟨h2, (HO2.out.only O3 (fun j e => Or.inl (by omega))).mono (by omega), by omega, fun a ha => by have := (HO2.out.ks.base ha).1; omega, fun a ha => by have := (HO2.out.ns.base ha).1; omega⟩
          have B3 : Hid (Below w0.heap.size w0 u3) := B2.out.trans (O3.below (fun j e => by omega) (by omega))
          rw [← hu3]
          clear hu3 O3 r0 r1 r2 rf0 rf1 rf2 c0 c1 c2 a0' d0' hS hS2
          refine hK.out _ _ (fun h => absurd h (by omega)) ?_
          clear hK K
          try simp only [Act.put, List.setIfInBounds_toArray, List.set_cons_zero, List.set_cons_succ]
          refine wpAnyG_done (by kernel_rfl) ?_ _
          refine NoPanic.normal ?_
          go_wp2_with fail
          go_roundw
          case rel => exact ⟨ix + 1, X2, p2, Y2, q2, by omega, by go_num, by rw [HSS.out]; exact R3.out, B3.out⟩
          case measure => simp [intOf]; omega
      · obtain rfl : ix = c.length := by omega
        have hnn : ¬ (c.length : Int) < c.length := by omega
        have Q4 := Lib.hid (P2.out.below BR.out (by omega))
        obtain ⟨r0, r1, r2, rf0, rf1, rf2⟩ := Q4.out.three
        obtain ⟨v0, v1, v2, vf0, vf1, vf2⟩ := R1.out.blk.three
        have l4 : w.heap.size + 1 < wr.heap.size := Q4.out.lt
        go_wp2_with fail
        obtain ⟨w6, hw6⟩ : ∃ w6, w6 = ((wr.setCell ⟨w.heap.size + 1, 0, none⟩ (.int .u64 seed)).setCell ⟨w.heap.size + 1, 1, none⟩ (.slice X1 n p1)).setCell ⟨w.heap.size + 1, 2, none⟩ (.slice Y1 n q1) := ⟨_, rfl⟩
        have O6 : Only (fun j => j = w.heap.size + 1) wr w6 := by rw [hw6]; exact (((Only.refl (fun j => j = w.heap.size + 1) wr).put (ad := ⟨w.heap.size + 1, 0, none⟩) rfl _).put (ad := ⟨w.heap.size + 1, 1, none⟩) rfl _).put (ad := ⟨w.heap.size + 1, 2, none⟩) rfl _
        have R6 : Blk w6 (w.heap.size + 1) #[.int .u64 seed, .slice X1 n p1, .slice Y1 n q1] 31 := by
          have h1 := ((Q4.out.set 0 (.int .u64 seed)).set 1 (.slice X1 n p1)).set 2 (.slice Y1 n q1)
          rw [hw6]; exact h1
        have E1 : Own w.heap.size w6 (sizeC (hom seed n) n c) X1 p1 Y1 q1 := by
          have h1 := R1.out.own
          rw [List.take_length] at h1
          exact (h1.only O6 (fun j e => Or.inl (by omega))).mono (by omega)
        have E2 : Below w.heap.size w w6 := (HB0.out.trans (BR.out.mono (by omega))).trans (O6.below (fun j e => by omega) (by omega))
        rw [← hw6]
        clear hw6 O6 v0 v1 v2 vf0 vf1 vf2 r0 r1 r2 rf0 rf1 rf2
        obtain ⟨r0, r1, r2, _⟩ := R6.three
        exact bodyPost_ret (v := .agg #[.int .u64 seed, .slice X1 n p1, .slice Y1 n q1]) (by simp [results, Try.results34, go_sem, r0, r1, r2]) rfl ⟨_, _, _, _, rfl, E1, E2⟩
end Go.Proofs.Ythabnffmlgppdaa.Te
