/- Proves what slices.Repeat at one number, emptyHeads and slices.Clone return: rows of their own. Conditions: as each theorem names them. -/
import Derived.Test.YtmhbfplpodikiaaInd
import Derived.Test.YtmhbfplpodikiaaShelf
import Derived.Laws.CopyOwn
import Derived.Laws.MakeOwn
import Derived.Laws.AppendOwn
import Derived.Deep.RegionLaw
import Derived.Lib.SliceRun
namespace Go.Proofs.Ytmhbfplpodikiaa.Ine
open Go.RowKit Ap Mi Nw Rg Aa Ai Hm Ina Inb Inc Ind

theorem elI : Elm Try.prog 54 3 (.int .i64 0) 1 where
  sl := Try.underlying54
  info := by kernel_rfl
  small := by
    have h : (Try.prog.info? 3).map (·.bytes) = some 8 := by kernel_rfl
    intro i hi; rw [hi] at h; simp at h; omega
  cells := rfl
  pos := by omega
theorem elT : Elm Try.prog 55 78 (.agg #[.string ⟨#[]⟩, .int .i64 0, .int .i64 0]) 3 where
  sl := Try.underlying55
  info := by kernel_rfl
  small := by
    have h : (Try.prog.info? 78).map (·.bytes) = some 32 := by kernel_rfl
    intro i hi; rw [hi] at h; simp at h; omega
  cells := rfl
  pos := by omega
theorem made_one (z : Value) (n : Nat) : (madeCells #[z] n) = (List.replicate n z).toArray := by
  unfold madeCells
  refine Array.ext (by simp) (fun i h1 h2 => ?_)
  simp [Nat.mod_one]
theorem make_i (n : Nat) (w : World) (h : n ≤ 100000000) : (Instr.makeSlice 54 (.int .i64 (n : Int)) (.int .i64 (n : Int))).run Try.prog w = .ok (.slice (some ⟨w.heap.size, 0, none⟩) n n) (w.alloc (.cells (List.replicate n (.int .i64 0)).toArray 3)) := by
  have hi := elI.info
  rw [Option.map_eq_some_iff] at hi
  obtain ⟨i, hi1, hi2⟩ := hi
  simp only [Prod.mk.injEq] at hi2
  have hb := elI.small i hi1
  have hmul : i.bytes * n ≤ 1024 * 100000000 := Nat.mul_le_mul hb h
  have hmul' : (i.bytes : Int) * (n : Int) ≤ 281474976710656 := by
    have h0 : ((i.bytes * n : Nat) : Int) ≤ 281474976710656 := by omega
    rwa [Int.natCast_mul] at h0
  have hr := run_make (P := Try.prog) w 54 3 i (.int .i64 0) elI.sl hi1 hi2.1 .i64 .i64 (n : Int) (n : Int) (by omega) (Int.le_refl _) hmul' (by omega)
  rw [Int.toNat_natCast, hi2.2, Nat.mul_one] at hr
  rw [← made_one]
  exact hr
theorem rep_row (w : World) (n : Nat) (z : Value) (e : TypeId) : (w.alloc (.cells (Array.replicate n z) e)).heap[w.heap.size]? = some (.cells (List.replicate n z).toArray e (0, 0)) := by
  have h : (List.replicate n z).toArray = Array.replicate n z := by simp
  rw [h]; exact heap_alloc_new w _
def v0 : Value := .int .i64 0
def v1 : Value := .int .i64 (-1)
/-- The first k of n cells are -1. -/
def rp (k n : Nat) : List Value := List.replicate k v1 ++ List.replicate (n - k) v0
theorem rp_len {k n : Nat} (h : k ≤ n) : (rp k n).length = n := by unfold rp; simp; omega
theorem rp_zero (n : Nat) : rp 0 n = List.replicate n v0 := by unfold rp; simp
theorem rp_all (n : Nat) : rp n n = zs (List.replicate n (-1)) := by unfold rp zs; simp [v1]
theorem rp_more {k d n : Nat} (h : k + d ≤ n) : splice (rp k n) k (List.replicate d v1) = rp (k + d) n := by
  unfold splice rp
  rw [List.take_append_of_le_length (by simp), List.take_of_length_le (by simp), List.drop_append, List.drop_eq_nil_of_le (by simp), List.nil_append, List.drop_replicate, List.length_replicate, List.length_replicate, ← List.append_assoc, List.replicate_append_replicate]
  congr 2
  omega
theorem rp_at {k n i : Nat} (h : i < k) : (rp k n)[i]? = some v1 := by
  unfold rp
  rw [List.getElem?_append_left (by simpa using h), List.getElem?_replicate, if_pos h]
def repPost (w : World) (n : Nat) : Ending → World → Prop := fun e w' => ∃ b, e = .returned (.slice (some ⟨b, 0, none⟩) n n) ∧ w.heap.size ≤ b ∧ w'.heap[b]? = some (.cells (rp n n).toArray 3 (0, 0)) ∧ Below w.heap.size w w'
set_option maxRecDepth 100000 in
set_option maxHeartbeats 1000000 in
theorem repeat_any (n : Nat) (h1 : 1 ≤ n) (h2 : n ≤ 1000000) (xb xo : Nat) (w : World) (hx : w.cell? ⟨xb, xo, none⟩ = some (.int .i64 (-1))) (hxb : xb < w.heap.size) :
    Calls Try.prog 45 #[.slice (some ⟨xb, xo, none⟩) 1 1, .int .i64 (n : Int)] w (repPost w n) := by
  have MK := fun W => make_i n W (by omega)
  have hm := fun W => Try.bits_Mul 1 n (by omega) (by omega) W
  have e1 : (1 * n / 18446744073709551616 : Nat) = 0 := by omega
  have e2 : (1 * n % 18446744073709551616 : Nat) = n := by omega
  rw [e1, e2] at hm
  have HM := Lib.hid hm
  have i1 : (1 : Int) ≤ (n : Int) := by omega
  have i2 : (n : Int) ≤ 1000000 := by omega
  clear hm e1 e2
  unfold repPost
  go_enter Try.func45, Try.ntmps45
  go_wp2_with fail
  refine (HM.out _).mono ?_
  rintro e w1 ⟨rfl, rfl⟩
  obtain ⟨N, hN⟩ : ∃ N, N = w1.heap.size := ⟨_, rfl⟩
  have HX : Hid (∀ j v, [v1][j]? = some v → (w1.alloc (.cells (Array.replicate n (.int .i64 0)) 3)).cell? ((⟨xb, xo, none⟩ : Addr).add j) = some v) := fun j v hj => by
    cases j with
    | zero =>
      rw [Nw.add_lit, Nat.add_zero, (bnew w1 _).cell hxb, hx]; exact hj
    | succ j => simp at hj
  have H1 : Hid (∀ u ∈ [v1], u.oneCell' = true) := fun u hu => by rw [List.mem_singleton.1 hu]; rfl
  clear hx
  go_wp2_with (refine wpList_copy_splice (o := ⟨some 33, _, _, _, _, _⟩) rfl (.tmp 31) (.tmp 32) _ _ rfl 3 Try.underlying54 (by kernel_rfl) _ _ _ _ _ _ rfl rfl w1.heap.size 0 _ 3 (rep_row w1 n _ _) [v1] (Nat.min_eq_left h1).symm (fun _ => ⟨rfl, _, rfl, HX.out⟩) (by simp; omega) H1.out w1.heap.size w1 (bnew _ _) (Nat.le_refl _) ?_)
  intro w2 hw hb
  have HW : Hid (w2.heap[N]? = some (.cells (rp 1 n).toArray 3 (0, 0))) := by
    show _ = _
    have h := hw.out
    rw [← hN] at h
    rw [h, ← rp_more (k := 0) (d := 1) (by omega), rp_zero]; rfl
  have HB : Hid (Below N w1 w2) := by rw [hN]; exact hb
  have HN := Lib.hid hN
  rw [← hN]
  clear hw hb MK HM hN HX
  go_wp2_with fail
  go_loopw [8] (fun v wr => ∃ k : Nat, 1 ≤ k ∧ k ≤ n ∧ v = .int .i64 (k : Int) ∧ Hid (wr.heap[N]? = some (.cells (rp k n).toArray 3 (0, 0))) ∧ Hid (Below N w1 wr)) (fun v _ => n - (intOf v).toNat)
  case atStart => exact ⟨1, Nat.le_refl _, h1, rfl, HW, HB⟩
  case round =>
    obtain ⟨k, hk0, hk, rfl, hR, hb⟩ := hrel
    by_cases hlt : k < n
    · have i3 : (k : Int) < (n : Int) := by omega
      have i4 : ¬ (n = k) := by omega
      have i5 : (1 : Int) ≤ (k : Int) := by omega
      obtain ⟨d, hd⟩ : ∃ d, d = Nat.min k (n - k) := ⟨_, rfl⟩
      have hd1 : 1 ≤ d ∧ k + d ≤ n := by rw [hd]; simp only [Nat.min_def]; split <;> omega
      have HD := Lib.hid hd
      have hwr : IntKind.i64.wrap ((k : Int) + (d : Int)) = (k : Int) + (d : Int) := by rw [IntKind.wrap_i64]; omega
      clear hd
      have HRr : Hid (∀ j v, (List.replicate d v1)[j]? = some v → wr.drew.cell? ((⟨N, 0, none⟩ : Addr).add j) = some v) := fun j v hj => by
        rw [List.getElem?_replicate] at hj
        split at hj
        · rename_i hjd
          injection hj with hj
          subst hj
          have hjk : j < k := by have h := HD.out; simp only [Nat.min_def] at h; split at h <;> omega
          rw [Nw.add_lit]
          exact (cell_of_row wr N (0 + j) _ _ (0, 0) hR.out).trans (by rw [List.getElem?_toArray, Nat.zero_add]; exact rp_at hjk)
        · cases hj
      have HM : Hid ((List.replicate d v1).length = Nat.min k (n - k)) := by show _ = _; rw [List.length_replicate]; exact HD.out
      have HRd : Hid (wr.drew.heap[N]? = some (.cells (rp k n).toArray 3 (0, 0))) := hR
      have HBd : Hid (Below N w1 wr.drew) := hb.out.drew
      have HV : Hid (∀ v ∈ List.replicate d v1, v.oneCell' = true) := fun v hv => by rw [(List.mem_replicate.1 hv).2]; rfl
      have HF : Hid (k + (List.replicate d v1).length ≤ (rp k n).length) := by show _ ≤ _; rw [List.length_replicate, rp_len hk]; exact hd1.2
      obtain ⟨D, hDD⟩ : ∃ D, D = List.replicate d v1 := ⟨_, rfl⟩
      rw [← hDD] at HRr HM HV HF
      have HDD : Hid (D.length = d) := by show _ = _; rw [hDD, List.length_replicate]
      have HDE := Lib.hid hDD
      clear hDD hR hb
      go_wp2_with fail
      refine wp_region_noPanic ?_
      refine wp_region_held_drew (S := fun _ => True) (by kernel_rfl) (trivial) (fun hHeld => ?_)
      refine wpAnyH_take (i := 0) (oi := ⟨some 38, _, _, _, _, _⟩) (v := ?_) rfl (by kernel_rfl) (by kernel_rfl) (by kernel_rfl) (fun _ _ _ h => h) (Or.inl ⟨by rfl, ?_⟩) (by assumption) ?_
      rotate_left
      · intro w hSw; go_simp; first | done | with_reducible rfl
      try simp only [Act.put, List.setIfInBounds_toArray, List.set_cons_zero, List.set_cons_succ]
      refine wpAnyH_take (i := 1) (oi := ⟨some 39, _, _, _, _, _⟩) (v := ?_) rfl (by kernel_rfl) (by kernel_rfl) (by kernel_rfl) (fun _ _ _ h => h) (Or.inl ⟨by rfl, ?_⟩) (by assumption) ?_
      rotate_left
      · intro w hSw; go_simp; first | done | with_reducible rfl
      try simp only [Act.put, List.setIfInBounds_toArray, List.set_cons_zero, List.set_cons_succ]
      refine wpAnyH_take (i := 2) (oi := ⟨some 40, _, _, _, _, _⟩) (v := ?_) rfl (by kernel_rfl) (by kernel_rfl) (by kernel_rfl) (fun _ _ _ h => h) (Or.inl ⟨by rfl, ?_⟩) (by assumption) ?_
      rotate_left
      · intro w hSw; go_simp; first | done | with_reducible rfl
      try simp only [Act.put, List.setIfInBounds_toArray, List.set_cons_zero, List.set_cons_succ]
      refine wpAnyH_take (i := 3) (oi := ⟨some 41, _, _, _, _, _⟩) (v := ?_) rfl (by kernel_rfl) (by kernel_rfl) (by kernel_rfl) (fun _ _ _ h => h) (Or.inl ⟨by rfl, ?_⟩) (by assumption) ?_
      rotate_left
      · intro w hSw; go_simp; first | done | with_reducible rfl
      try simp only [Act.put, List.setIfInBounds_toArray, List.set_cons_zero, List.set_cons_succ]
      refine wpAnyH_take (i := 4) (oi := ⟨some 42, _, _, _, _, _⟩) (v := ?_) rfl (by kernel_rfl) (by kernel_rfl) (by kernel_rfl) (fun _ _ _ h => h) (Or.inl ⟨by rfl, ?_⟩) (by assumption) ?_
      rotate_left
      · intro w hSw; go_simp; first | done | with_reducible rfl
      try simp only [Act.put, List.setIfInBounds_toArray, List.set_cons_zero, List.set_cons_succ]
      refine wpAnyH_take (i := 5) (oi := ⟨some 43, _, _, _, _, _⟩) (v := ?_) rfl (by kernel_rfl) (by kernel_rfl) (by kernel_rfl) (fun _ _ _ h => h) (Or.inl ⟨by rfl, ?_⟩) (by assumption) ?_
      rotate_left
      · intro w hSw; go_simp; first | done | with_reducible rfl
      try simp only [Act.put, List.setIfInBounds_toArray, List.set_cons_zero, List.set_cons_succ]
      refine wpAnyH_take (i := 6) (oi := ⟨some 44, _, _, _, _, _⟩) (v := ?_) rfl (by kernel_rfl) (by kernel_rfl) (by kernel_rfl) (fun _ _ _ h => h) (Or.inl ⟨by rfl, ?_⟩) (by assumption) ?_
      rotate_left
      · intro w hSw; go_simp; first | done | with_reducible rfl
      try simp only [Act.put, List.setIfInBounds_toArray, List.set_cons_zero, List.set_cons_succ]
      refine wpAnyH_ready (rs := [7]) (by kernel_rfl) (by simp) ?_
      refine AllReadyH.cons (o := ⟨some 45, _, _, _, _, _⟩) rfl (fun K hK => ?_) AllReadyH.nil
      refine step_copy_splice rfl (.tmp 41) (.tmp 44) _ _ rfl 3 Try.underlying54 (by kernel_rfl) _ _ _ _ _ _ rfl rfl N k _ 3 HRd.out D HM.out (fun _ => ⟨rfl, _, rfl, HRr.out⟩) HF.out HV.out N w1 HBd.out (Nat.le_refl _) ?_
      intro w3 HW3 hb3
      have HB3 := Lib.hid hb3
      clear hb3
      refine hK.out _ _ (trivial) (fun hHeld => ?_)
      clear hK K
      try simp only [Act.put, List.setIfInBounds_toArray, List.set_cons_zero, List.set_cons_succ]
      refine wpAnyH_take (i := 8) (oi := ⟨some 46, _, _, _, _, _⟩) (v := ?_) rfl (by kernel_rfl) (by kernel_rfl) (by kernel_rfl) (fun _ _ _ h => h) (Or.inl ⟨by rfl, ?_⟩) (by assumption) ?_
      rotate_left
      · intro w hSw; go_simp; first | done | with_reducible rfl
      try simp only [Act.put, List.setIfInBounds_toArray, List.set_cons_zero, List.set_cons_succ]
      refine wpAnyH_take (i := 9) (oi := ⟨some 8, _, _, _, _, _⟩) (v := ?_) rfl (by kernel_rfl) (by kernel_rfl) (by kernel_rfl) (fun _ _ _ h => h) (Or.inl ⟨by rfl, ?_⟩) (by assumption) ?_
      rotate_left
      · intro w hSw; go_simp; first | done | with_reducible rfl
      try simp only [Act.put, List.setIfInBounds_toArray, List.set_cons_zero, List.set_cons_succ]
      refine wpAnyH_done (by kernel_rfl) ?_ _
      refine NoPanic.normal ?_
      have HL := HDD.out
      rw [HL]
      go_wp2_with fail
      go_roundw
      case rel => exact ⟨k + d, by omega, hd1.2, by go_num, by show _ = _; rw [HW3.out, HDE.out, rp_more hd1.2], HB3⟩
      case measure => simp [intOf]; omega
    · obtain rfl : k = n := by omega
      clear hlt
      go_wp2_with fail
      go_ret
      exact ⟨N, rfl, by rw [HN.out]; exact Nat.le_refl _, hR.out, by have h := hb.out; rw [HN.out] at h; exact h⟩
/-- What emptyHeads leaves. -/
def rowPost (w : World) (n : Nat) (xs : List Value) : Ending → World → Prop := fun e w' => ∃ A c, e = .returned (.slice A n c) ∧ Mine w.heap.size 1 w' A n c xs ∧ Below w.heap.size w w'
set_option maxRecDepth 100000 in
set_option maxHeartbeats 1000000 in
theorem empty_any (n : Nat) (h1 : 1 ≤ n) (h2 : n ≤ 1000000) (w : World) : Calls Try.prog 29 #[.int .i64 (n : Int)] w (rowPost w n (zs (List.replicate n (-1)))) := by
  have HB := Lib.hid (Blk.new w #[.int .i64 (-1)] 3)
  have HR := Lib.hid (repeat_any n h1 h2 w.heap.size 0 (w.alloc (.cells #[.int .i64 (-1)] 3)) (HB.out.cell 0) (by simp))
  unfold rowPost
  go_enter Try.func29, Try.ntmps29
  go_wp2_with fail
  refine HR.out.mono ?_
  rintro e w1 ⟨b, rfl, hb, hrow, hbl⟩
  have HW := Lib.hid hrow; have HBL := Lib.hid hbl; have HBB := Lib.hid hb
  clear hrow hbl hb HR
  go_wp2_with fail
  go_ret
  have hz : w.heap.size + 1 ≤ b := by have := HBB.out; simpa using this
  refine ⟨_, _, rfl, ?_, (bnew w _).trans (HBL.out.mono (by simp))⟩
  rw [← rp_all]
  refine ⟨Nat.le_refl _, by unfold maxLen; omega, by rw [rp_len (Nat.le_refl _)]; omega, (fun e => by cases e), fun a ha => ?_⟩
  injection ha with ha
  have hl := rp_len (Nat.le_refl n)
  refine ⟨b, 0, ha.symm, by omega, (Array.getElem?_eq_some_iff.1 HW.out).1, fun j hj => ⟨?_, frozen_of_row w1 b _ _ _ HW.out⟩, fun j hj => ?_⟩
  · rw [cell_of_row w1 b _ _ _ (0, 0) HW.out, List.getElem?_toArray, Nat.zero_add, List.getElem?_eq_getElem (by omega)]; rfl
  · rw [cell_of_row w1 b _ _ _ (0, 0) HW.out, List.getElem?_toArray, Nat.zero_add, List.getElem?_eq_getElem hj]
theorem rs_none {w : World} {sz n c : Nat} {xs : List Value} (h : Rs w sz none n c xs) (hp : 0 < sz) : n = 0 ∧ c = 0 ∧ xs = [] := by
  have h0 : xs = [] := by
    rcases Nat.eq_zero_or_pos xs.length with h0 | h0
    · exact List.eq_nil_of_length_eq_zero h0
    · obtain ⟨_, _, e, _⟩ := h.rd h0; cases e
  subst h0
  have hl := h.len
  refine ⟨?_, h.non rfl, rfl⟩
  rcases Nat.eq_zero_or_pos n with h2 | h2
  · exact h2
  · have := Nat.mul_pos h2 hp; simp at hl; omega
theorem below_of_grown' {w w' : World} {row : Option Nat} {B : Nat} (h : w.grownBy w' row) (hB : B ≤ w.heap.size) (hr : ∀ k, row = some k → B ≤ k) : Below B w w' := (Below.refl B w).grown h hB hr
/-- What a copy of a slice leaves. -/
def clonePost (sz : Nat) (w : World) (n : Nat) (xs : List Value) : Ending → World → Prop := fun e w' =>
  ∃ A c, e = .returned (.slice A n c) ∧ Mine w.heap.size sz w' A n c xs ∧ Below w.heap.size w w'
theorem cloneS_nil (w : World) (A : Option Addr) (n c : Nat) : (binOp .eql 55 (.slice A n c) (.slice none 0 0)).run Try.prog w = .ok (.bool A.isNone) w := Lib.run_eql_slice_nil w 55 78 A n c 0 0 Try.underlying55
set_option maxRecDepth 100000 in
set_option maxHeartbeats 1000000 in
theorem cloneS_any (A : Option Addr) (n c : Nat) (xs : List Value) (w : World) (h : Rs w 3 A n c xs) (h1 : ∀ u ∈ xs, u.oneCell' = true) (hn : n ≤ 1000000000) :
    Calls Try.prog 37 #[.slice A n c] w (clonePost 3 w n xs) := by
  cases A with
  | none =>
    obtain ⟨rfl, rfl, rfl⟩ := rs_none h (by omega)
    have hnil := fun w => cloneS_nil w none 0 0
    clear h
    unfold clonePost
    go_enter Try.func37, Try.ntmps37
    go_wp2_with fail
    go_ret
    exact ⟨_, _, rfl, Mine.nil _ _ _, Below.refl _ _⟩
  | some a =>
    have HS := Lib.hid ((h.below (bnew w (.cells #[] 78)) (Nat.le_refl _)).src Try.underlying55 (by omega) h1)
    have HM := Lib.hid (Mine.lit (sz := 3) w #[] 78 0 rfl (by unfold maxLen; omega))
    have hnil := fun w => cloneS_nil w (some a) n c
    clear h h1
    unfold clonePost
    go_enter Try.func37, Try.ntmps37
    go_wp2_with (at_builtin; (refine wpList_mine rfl _ _ elT _ rfl rfl HM.out _ rfl n _ HS.out (by omega) (by omega) (by simp) ?_))
    intro A' c' w1 m1 g1 _
    have HM1 := Lib.hid m1
    have HB1 : Hid (Below w.heap.size w w1) := (bnew w _).trans (below_of_grown' g1 (by simp) (fun k e => by simp at e; omega))
    clear m1 g1
    go_wp2_with fail
    go_ret
    refine ⟨A', c', by simp, ?_, HB1.out⟩
    simpa using HM1.out
theorem cloneI_nil (w : World) (A : Option Addr) (n c : Nat) : (binOp .eql 54 (.slice A n c) (.slice none 0 0)).run Try.prog w = .ok (.bool A.isNone) w := Lib.run_eql_slice_nil w 54 3 A n c 0 0 Try.underlying54
set_option maxRecDepth 100000 in
set_option maxHeartbeats 1000000 in
theorem cloneI_any (A : Option Addr) (n c : Nat) (xs : List Value) (w : World) (h : Rs w 1 A n c xs) (h1 : ∀ u ∈ xs, u.oneCell' = true) (hn : n ≤ 1000000000) :
    Calls Try.prog 36 #[.slice A n c] w (clonePost 1 w n xs) := by
  cases A with
  | none =>
    obtain ⟨rfl, rfl, rfl⟩ := rs_none h (by omega)
    have hnil := fun w => cloneI_nil w none 0 0
    clear h
    unfold clonePost
    go_enter Try.func36, Try.ntmps36
    go_wp2_with fail
    go_ret
    exact ⟨_, _, rfl, Mine.nil _ _ _, Below.refl _ _⟩
  | some a =>
    have HS := Lib.hid ((h.below (bnew w (.cells #[] 3)) (Nat.le_refl _)).src Try.underlying54 (by omega) h1)
    have HM := Lib.hid (Mine.lit (sz := 1) w #[] 3 0 rfl (by unfold maxLen; omega))
    have hnil := fun w => cloneI_nil w (some a) n c
    clear h h1
    unfold clonePost
    go_enter Try.func36, Try.ntmps36
    go_wp2_with (at_builtin; (refine wpList_mine rfl _ _ elI _ rfl rfl HM.out _ rfl n _ HS.out (by omega) (by omega) (by simp) ?_))
    intro A' c' w1 m1 g1 _
    have HM1 := Lib.hid m1
    have HB1 : Hid (Below w.heap.size w w1) := (bnew w _).trans (below_of_grown' g1 (by simp) (fun k e => by simp at e; omega))
    clear m1 g1
    go_wp2_with fail
    go_ret
    refine ⟨A', c', by simp, ?_, HB1.out⟩
    simpa using HM1.out
end Go.Proofs.Ytmhbfplpodikiaa.Ine
