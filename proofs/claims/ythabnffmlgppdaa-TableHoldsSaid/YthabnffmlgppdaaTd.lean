/- Proves what New and the method resize of the specification's table return. Conditions: as each theorem names them. -/
import Derived.Test.YthabnffmlgppdaaTc
import Derived.BigRegion
import Derived.Laws.MakeOwn
namespace Go.Proofs.Ythabnffmlgppdaa.Td
open Go.RowKit Ap Mi Nw Rg Hm Tm Tn To Ta Tb Tc

/-- Rows of free cells. -/
def zK (n : Nat) : Array Value := madeCells #[.string ⟨#[]⟩] n
def zI (n : Nat) : Array Value := madeCells #[.int .i64 0] n
theorem made_one (z : Value) (n : Nat) : (madeCells #[z] n).toList = List.replicate n z := by
  unfold madeCells
  refine List.ext_getElem (by simp) (fun i h1 h2 => ?_)
  simp [Nat.mod_one]
theorem zK_list (n : Nat) : (zK n).toList = kc (List.replicate n none) := by
  unfold zK kc; rw [made_one, List.map_replicate]; rfl
theorem zI_list (n : Nat) : (zI n).toList = nc (List.replicate n none) := by
  unfold zI nc; rw [made_one, List.map_replicate]; rfl
theorem make_keys (n : Nat) (w : World) (h : n ≤ 100000000) : (Instr.makeSlice 28 (.int .i64 (n : Int)) (.int .i64 (n : Int))).run Try.prog w = .ok (.slice (some ⟨w.heap.size, 0, none⟩) n n) (w.alloc (.cells (zK n) 9)) := by
  have hi := elS.info
  rw [Option.map_eq_some_iff] at hi
  obtain ⟨i, hi1, hi2⟩ := hi
  simp only [Prod.mk.injEq] at hi2
  have hb := elS.small i hi1
  have hmul : i.bytes * n ≤ 1024 * 100000000 := Nat.mul_le_mul hb h
  have hmul' : (i.bytes : Int) * (n : Int) ≤ 281474976710656 := by
    have h0 : ((i.bytes * n : Nat) : Int) ≤ 281474976710656 := by omega
    rwa [Int.natCast_mul] at h0
  have hr := run_make (P := Try.prog) w 28 9 i (.string ⟨#[]⟩) elS.sl hi1 hi2.1 .i64 .i64 (n : Int) (n : Int) (by omega) (Int.le_refl _) hmul' (by omega)
  rw [Int.toNat_natCast, hi2.2, Nat.mul_one] at hr
  exact hr
theorem make_ints (n : Nat) (w : World) (h : n ≤ 100000000) : (Instr.makeSlice 29 (.int .i64 (n : Int)) (.int .i64 (n : Int))).run Try.prog w = .ok (.slice (some ⟨w.heap.size, 0, none⟩) n n) (w.alloc (.cells (zI n) 3)) := by
  have hi := elI.info
  rw [Option.map_eq_some_iff] at hi
  obtain ⟨i, hi1, hi2⟩ := hi
  simp only [Prod.mk.injEq] at hi2
  have hb := elI.small i hi1
  have hmul : i.bytes * n ≤ 1024 * 100000000 := Nat.mul_le_mul hb h
  have hmul' : (i.bytes : Int) * (n : Int) ≤ 281474976710656 := by
    have h0 : ((i.bytes * n : Nat) : Int) ≤ 281474976710656 := by omega
    rwa [Int.natCast_mul] at h0
  have hr := run_make (P := Try.prog) w 29 3 i (.int .i64 0) elI.sl hi1 hi2.1 .i64 .i64 (n : Int) (n : Int) (by omega) (Int.le_refl _) hmul' (by omega)
  rw [Int.toNat_natCast, hi2.2, Nat.mul_one] at hr
  exact hr
theorem laid_keys (n : Nat) (w : World) (h : n ≤ 100000000) : Mine w.heap.size 1 (w.alloc (.cells (zK n) 9)) (some ⟨w.heap.size, 0, none⟩) n n (kc (List.replicate n none)) :=
  mine_laid w (zK n) _ _ n (zK_list n) (by rw [kc_len]; simp) (by omega)
theorem laid_ints (n : Nat) (w : World) (h : n ≤ 100000000) : Mine w.heap.size 1 (w.alloc (.cells (zI n) 3)) (some ⟨w.heap.size, 0, none⟩) n n (nc (List.replicate n none)) :=
  mine_laid w (zI n) _ _ n (zI_list n) (by rw [nc_len]; simp) (by omega)
theorem len_none (n : Nat) : (List.replicate n (none : Cell Key)).length = n := List.length_replicate
/-- Two new rows, in either order. -/
theorem own_ki (n : Nat) (w : World) (h : n ≤ 100000000) : Own w.heap.size ((w.alloc (.cells (zK n) 9)).alloc (.cells (zI n) 3)) (List.replicate n none) (some ⟨w.heap.size, 0, none⟩) n (some ⟨w.heap.size + 1, 0, none⟩) n := by
  refine ⟨?_, ?_, fun a b ha hb => by injection ha with ha; injection hb with hb; subst ha; subst hb; show w.heap.size ≠ w.heap.size + 1; omega⟩
  · rw [len_none]; exact (laid_keys n w h).below (bnew _ _) (Nat.le_refl _)
  · rw [len_none]
    have h1 := laid_ints n (w.alloc (.cells (zK n) 9)) h
    rw [show (w.alloc (.cells (zK n) 9)).heap.size = w.heap.size + 1 by simp] at h1
    exact h1.mono (by omega)
theorem own_ik (n : Nat) (w : World) (h : n ≤ 100000000) : Own w.heap.size ((w.alloc (.cells (zI n) 3)).alloc (.cells (zK n) 9)) (List.replicate n none) (some ⟨w.heap.size + 1, 0, none⟩) n (some ⟨w.heap.size, 0, none⟩) n := by
  refine ⟨?_, ?_, fun a b ha hb => by injection ha with ha; injection hb with hb; subst ha; subst hb; show w.heap.size + 1 ≠ w.heap.size; omega⟩
  · rw [len_none]
    have h1 := laid_keys n (w.alloc (.cells (zI n) 3)) h
    rw [show (w.alloc (.cells (zI n) 3)).heap.size = w.heap.size + 1 by simp] at h1
    exact h1.mono (by omega)
  · rw [len_none]; exact (laid_ints n w h).below (bnew _ _) (Nat.le_refl _)
def newPost (w : World) (seed : Int) : Ending → World → Prop := fun r w' =>
  ∃ X p Y q, r = .returned (.agg #[.int .u64 seed, .slice X 8 p, .slice Y 8 q]) ∧ Own w.heap.size w' (List.replicate 8 none) X p Y q ∧ Below w.heap.size w w'
set_option maxRecDepth 100000 in
set_option maxHeartbeats 2000000 in
theorem rnew_any (seed : Int) (w : World) : Calls Try.prog 11 #[.int .u64 seed] w (newPost w seed) := by
  have MK : ∀ W : World, (Instr.makeSlice 28 (.int .i64 8) (.int .i64 8)).run Try.prog W = .ok (.slice (some ⟨W.heap.size, 0, none⟩) 8 8) (W.alloc (.cells (zK 8) 9)) := fun W => make_keys 8 W (by omega)
  have MI : ∀ W : World, (Instr.makeSlice 29 (.int .i64 8) (.int .i64 8)).run Try.prog W = .ok (.slice (some ⟨W.heap.size, 0, none⟩) 8 8) (W.alloc (.cells (zI 8) 3)) := fun W => make_ints 8 W (by omega)
  unfold newPost
  go_enter Try.func11, Try.ntmps11
  go_upto_region 1 with (fail)
  go_region
  · go_wp2_with fail
    have h1 := own_ki 8 (w.alloc (.cells #[.int .u64 seed, .slice (some ⟨w.heap.size + 1, 0, none⟩) 8 8, .slice (some ⟨w.heap.size + 1 + 1, 0, none⟩) 8 8] 31)) (by omega)
    rw [show (w.alloc (.cells #[.int .u64 seed, .slice (some ⟨w.heap.size + 1, 0, none⟩) 8 8, .slice (some ⟨w.heap.size + 1 + 1, 0, none⟩) 8 8] 31)).heap.size = w.heap.size + 1 by simp] at h1
    exact bodyPost_ret (v := .agg #[.int .u64 seed, .slice (some ⟨w.heap.size + 1, 0, none⟩) 8 8, .slice (some ⟨w.heap.size + 1 + 1, 0, none⟩) 8 8]) (by simp [results, Try.results11, go_sem]) rfl ⟨_, _, _, _, rfl, (h1.mono (by omega)).below ((Below.refl _ _).drew) (Nat.le_refl _), (((bnew w _).alloc (by simp) _).alloc (by simp; omega) _).drew⟩
  · go_wp2_with fail
    have h1 := own_ik 8 (w.alloc (.cells #[.int .u64 seed, .slice (some ⟨w.heap.size + 1 + 1, 0, none⟩) 8 8, .slice (some ⟨w.heap.size + 1, 0, none⟩) 8 8] 31)) (by omega)
    rw [show (w.alloc (.cells #[.int .u64 seed, .slice (some ⟨w.heap.size + 1 + 1, 0, none⟩) 8 8, .slice (some ⟨w.heap.size + 1, 0, none⟩) 8 8] 31)).heap.size = w.heap.size + 1 by simp] at h1
    exact bodyPost_ret (v := .agg #[.int .u64 seed, .slice (some ⟨w.heap.size + 1 + 1, 0, none⟩) 8 8, .slice (some ⟨w.heap.size + 1, 0, none⟩) 8 8]) (by simp [results, Try.results11, go_sem]) rfl ⟨_, _, _, _, rfl, (h1.mono (by omega)).below ((Below.refl _ _).drew) (Nat.le_refl _), (((bnew w _).alloc (by simp) _).alloc (by simp; omega) _).drew⟩
end Go.Proofs.Ythabnffmlgppdaa.Td
