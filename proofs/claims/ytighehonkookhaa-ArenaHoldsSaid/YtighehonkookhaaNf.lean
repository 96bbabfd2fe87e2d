/- Proves what the methods Refs and Copy of an arena and the copies of slices return, and what they leave in memory. Conditions: as each theorem names them. -/
import Derived.Test.YtighehonkookhaaNx
namespace Go.Proofs.Ytighehonkookhaa.Nf
open Go.RowKit Ap Mi Nm Nw Na Nb Rg Nc Nd Nx

theorem below_of_grown' {w w' : World} {row : Option Nat} {B : Nat} (h : w.grownBy w' row) (hB : B ≤ w.heap.size) (hr : ∀ k, row = some k → B ≤ k) : Below B w w' := (Below.refl B w).grown h hB hr
/-- What a copy of a slice leaves. -/
def clonePost (sz : Nat) (w : World) (n : Nat) (xs : List Value) : Ending → World → Prop := fun e w' =>
  ∃ A c, e = .returned (.slice A n c) ∧ Mine w.heap.size sz w' A n c xs ∧ Below w.heap.size w w'
theorem rs_none {w : World} {sz n c : Nat} {xs : List Value} (h : Rs w sz none n c xs) (hp : 0 < sz) : n = 0 ∧ c = 0 ∧ xs = [] := by
  have h0 : xs = [] := by
    rcases Nat.eq_zero_or_pos xs.length with h0 | h0
    · exact List.eq_nil_of_length_eq_zero h0
    · obtain ⟨_, _, e, _⟩ := h.rd h0; cases e
  subst h0
  have hl := h.len
  refine ⟨?_, h.non rfl, rfl⟩
  rcases Nat.eq_zero_or_pos n with h2 | h2
  · exact h2
  · have := Nat.mul_pos h2 hp; simp at hl; omega
theorem cloneS_nil (w : World) (A : Option Addr) (n c : Nat) : (binOp .eql 48 (.slice A n c) (.slice none 0 0)).run Try.prog w = .ok (.bool A.isNone) w := Lib.run_eql_slice_nil w 48 68 A n c 0 0 Try.underlying48
set_option maxRecDepth 100000 in
set_option maxHeartbeats 1000000 in
theorem cloneS_any (A : Option Addr) (n c : Nat) (xs : List Value) (w : World) (h : Rs w 2 A n c xs) (h1 : ∀ u ∈ xs, u.oneCell' = true) (hn : n ≤ 1000000000) :
    Calls Try.prog 31 #[.slice A n c] w (clonePost 2 w n xs) := by
  cases A with
  | none =>
    obtain ⟨rfl, rfl, rfl⟩ := rs_none h (by omega)
    have hnil := fun w => cloneS_nil w none 0 0
    clear h
    unfold clonePost
    go_enter Try.func31, Try.ntmps31
    go_wp2_with fail
    go_ret
    exact ⟨_, _, rfl, Mine.nil _ _ _, Below.refl _ _⟩
  | some a =>
    have HS := Lib.hid ((h.below (bnew w (.cells #[] 68)) (Nat.le_refl _)).src Try.underlying48 (by omega) h1)
    have HM := Lib.hid (Mine.lit (sz := 2) w #[] 68 0 rfl (by unfold maxLen; omega))
    have hnil := fun w => cloneS_nil w (some a) n c
    clear h h1
    unfold clonePost
    go_enter Try.func31, Try.ntmps31
    go_wp2_with (at_builtin; (refine wpList_mine rfl _ _ elS _ rfl rfl HM.out _ rfl n _ HS.out (by omega) (by omega) (by simp) ?_))
    intro A' c' w1 m1 g1 _
    have HM1 := Lib.hid m1
    have HB1 : Hid (Below w.heap.size w w1) := (bnew w _).trans (below_of_grown' g1 (by simp) (fun k e => by simp at e; omega))
    clear m1 g1
    go_wp2_with fail
    go_ret
    refine ⟨A', c', by simp, ?_, HB1.out⟩
    simpa using HM1.out
theorem cloneI_nil (w : World) (A : Option Addr) (n c : Nat) : (binOp .eql 28 (.slice A n c) (.slice none 0 0)).run Try.prog w = .ok (.bool A.isNone) w := Lib.run_eql_slice_nil w 28 3 A n c 0 0 Try.underlying28
set_option maxRecDepth 100000 in
set_option maxHeartbeats 1000000 in
theorem cloneI_any (A : Option Addr) (n c : Nat) (xs : List Value) (w : World) (h : Rs w 1 A n c xs) (h1 : ∀ u ∈ xs, u.oneCell' = true) (hn : n ≤ 1000000000) :
    Calls Try.prog 32 #[.slice A n c] w (clonePost 1 w n xs) := by
  cases A with
  | none =>
    obtain ⟨rfl, rfl, rfl⟩ := rs_none h (by omega)
    have hnil := fun w => cloneI_nil w none 0 0
    clear h
    unfold clonePost
    go_enter Try.func32, Try.ntmps32
    go_wp2_with fail
    go_ret
    exact ⟨_, _, rfl, Mine.nil _ _ _, Below.refl _ _⟩
  | some a =>
    have HS := Lib.hid ((h.below (bnew w (.cells #[] 3)) (Nat.le_refl _)).src Try.underlying28 (by omega) h1)
    have HM := Lib.hid (Mine.lit (sz := 1) w #[] 3 0 rfl (by unfold maxLen; omega))
    have hnil := fun w => cloneI_nil w (some a) n c
    clear h h1
    unfold clonePost
    go_enter Try.func32, Try.ntmps32
    go_wp2_with (at_builtin; (refine wpList_mine rfl _ _ elI _ rfl rfl HM.out _ rfl n _ HS.out (by omega) (by omega) (by simp) ?_))
    intro A' c' w1 m1 g1 _
    have HM1 := Lib.hid m1
    have HB1 : Hid (Below w.heap.size w w1) := (bnew w _).trans (below_of_grown' g1 (by simp) (fun k e => by simp at e; omega))
    clear m1 g1
    go_wp2_with fail
    go_ret
    refine ⟨A', c', by simp, ?_, HB1.out⟩
    simpa using HM1.out

theorem elR : Elm Try.prog 53 35 (.agg #[.int .i64 0, .int .i64 0]) 2 where
  sl := Try.underlying53
  info := by kernel_rfl
  small := by
    have h : (Try.prog.info? 35).map (·.bytes) = some 16 := by kernel_rfl
    intro i hi; rw [hi] at h; simp at h; omega
  cells := rfl
  pos := by omega
/-- What Refs leaves. -/
def refsPost (w : World) (s : St) : Ending → World → Prop := fun e w' =>
  ∃ A c, e = .returned (.slice A (refs s).length c) ∧ Mine w.heap.size 2 w' A (refs s).length c (rfL (refs s)) ∧ Below w.heap.size w w'
set_option maxRecDepth 100000 in
set_option maxHeartbeats 2000000 in
theorem refs_any {F : Nat → Prop} {w : World} {g m G : Nat} {s : St} (h : Are F w g m G s) :
    Calls Try.prog 19 #[.pointer (some ⟨g, 0, none⟩)] w (refsPost w s) := by
  have lg := h.lt
  have HL := Lib.hid (len_any h)
  have HH := Lib.hid h
  have hle := h.inv.le; have hhi := h.hi; have hfr := h.inv.frl
  have htl := h.inv.tl
  have HT := Lib.hid htl
  obtain ⟨N, hN⟩ : ∃ N, N = w.heap.size := ⟨_, rfl⟩
  obtain ⟨i0, hi1, hi2⟩ : ∃ i, Try.prog.info? 35 = some i ∧ (i.zero, i.size) = (some (.agg #[.int .i64 0, .int .i64 0]), 2) := by
    have := elR.info
    rw [Option.map_eq_some_iff] at this
    exact this
  simp only [Prod.mk.injEq] at hi2
  obtain ⟨hz, hsz⟩ := hi2
  have hb := elR.small i0 hi1
  have HI1 := Lib.hid hi1; have HZ := Lib.hid hz; have HSZ := Lib.hid hsz
  have hmul : i0.bytes * (s.gens.length - s.fr.length) ≤ 1024 * 1048576 := Nat.mul_le_mul hb (by omega)
  clear h htl hi1 hz hsz hb
  go_enter Try.func19, Try.ntmps19
  go_wp2_with fail
  refine HL.out.mono ?_
  rintro e w1 ⟨rfl, nd, rfl⟩
  have HH1 := Lib.hid (HH.out.drewN nd)
  go_wp2_with ((refine wpList_make_own _ rfl _ _ _ rfl N 35 i0 _ 2 elR.sl HI1.out HZ.out HSZ.out .i64 .i64 _ (s.gens.length - s.fr.length) rfl rfl rfl (by omega) (by unfold maxLen; omega) (by rw [hN]; exact Nat.le_refl _) ?_))
  intro w2 o2 g2
  rw [← hN] at o2
  obtain ⟨A0, c0, e0, m0, _⟩ := Mine.of_own o2
  injection e0 with e0 _ e0'
  subst e0; subst e0'
  have b2 : Below N w w2 := by rw [hN]; exact (Below.refl w.heap.size w).grown ((grown_drewN w nd none).trans g2) (Nat.le_refl _) (fun k e => by cases e)
  have M0 : Hid (Mine N 2 w2 (some ⟨w.heap.size, 0, none⟩) 0 (s.gens.length - s.fr.length) []) := by rw [hN] at m0 ⊢; exact m0
  have HB2 := Lib.hid b2
  have HMD := Lib.hid (made_any (HH.out.below b2 (by omega)))
  have HN := Lib.hid hN
  have lN : g < N := by omega
  clear o2 m0 g2 b2 hmul HL hN HH1
  go_wp2_with fail
  refine HMD.out.mono ?_
  rintro e w3 ⟨rfl, rfl⟩
  go_wp2_with fail
  clear HMD
  go_loopw [3, 10] (fun v i wr => ∃ (k : Nat) (A : Option Addr) (c : Nat) (L : List (Nat × Nat)), k ≤ s.gens.length ∧ i = .int .i64 (k : Int) ∧ v = .slice A L.length c ∧ Hid (L = refsFrom 0 (s.gens.take k) (s.tk.take k)) ∧ Mine N 2 wr A L.length c (rfL L) ∧ Below N w wr) (fun _ i _ => s.gens.length - (intOf i).toNat)
  case atStart => exact ⟨0, _, _, [], Nat.zero_le _, rfl, rfl, rfl, M0.out, HB2.out⟩
  case round =>
    obtain ⟨k, A, c, L, hk, rfl, rfl, HLk, hm, hb⟩ := hrel
    have HM := Lib.hid hm; have HB := Lib.hid hb
    have HR := Lib.hid (HH.out.below hb (by have := HN.out; omega))
    have hzr := hb.size
    clear hm hb
    by_cases hlt : k < s.gens.length
    · have i1 : (k : Int) < (s.gens.length : Int) := by omega
      obtain ⟨gA, oA, cA, B, d, lA, h1, e0, e1⟩ := HR.out.slot hlt
      obtain ⟨c0, c1, c2, _, _, _⟩ := h1.three
      have hkt : k < s.tk.length := by rw [HT.out]; exact hlt
      have hst := refs_step HT.out hlt
      have hit : ist s (k : Int) = s.tk[k] := by rw [ist_nat, List.getElem?_eq_getElem hkt]; cases s.tk[k] <;> rfl
      have hge : genAt s (k : Int) = s.gens[k] := genAt_nat hlt
      have hLl : L.length ≤ k := by
        have h2 := refsFrom_len 0 (s.gens.take k) (s.tk.take k) (by simp [HT.out])
        rw [← HLk.out] at h2
        rw [h2]
        exact Nat.le_trans List.count_le_length (by rw [List.length_take]; omega)
      rw [hit] at e1
      cases htk : s.tk[k]
      · rw [htk] at e1 hst
        have HS := Lib.hid hst
        clear hst hit hge h1 htk
        go_wp2_with fail
        go_roundw
        case rel => exact ⟨k + 1, A, c, L, by omega, by go_num, rfl, by show L = _; rw [HS.out, HLk.out]; simp, HM.out, HB.out⟩
        case measure => simp [intOf]; omega
      · rw [htk] at e1 hst
        rw [← hge] at hst
        have HS := Lib.hid hst
        have HRF := Lib.hid (ref_any HR.out k hlt)
        clear hst hit hge h1 htk
        go_wp2_with fail
        refine HRF.out.mono ?_
        rintro e w4 ⟨rfl, hb4⟩
        have HM4 := Lib.hid (HM.out.below hb4 (Nat.le_refl _))
        have HB4 := Lib.hid (bstepN HB.out (by have := HN.out; omega) hb4)
        have hz4 := hb4.size
        obtain ⟨x, hx⟩ : ∃ x, x = genAt s (k : Int) := ⟨_, rfl⟩
        have HX := Lib.hid hx
        rw [← hx] at HS ⊢
        clear hb4 hx e0 e1 c0 c1 c2
        go_wp2_with (at_builtin; (refine wpList_mine rfl _ _ elR _ rfl rfl (HM4.out.below (bnew w4 (.cells #[.int .i64 (k : Int), .int .i64 (x : Int)] 35)) (Nat.le_refl _)) _ rfl 1 _ (src_lit Try.underlying53 #[.int .i64 (k : Int), .int .i64 (x : Int)] 1 2 rfl (by simp [Value.oneCell'])) (by omega) (by omega) (by have := HN.out; simp; omega) ?_))
        intro A' c' w5 m5 g5 q5
        have HB5 : Hid (Below N w w5) := (HB4.out.trans ((bnew w4 (.cells #[.int .i64 (k : Int), .int .i64 (x : Int)] 35)).mono (by have := HN.out; omega))).trans ((only_row (F := fun j => N ≤ j) g5 (fun a ha => (HM4.out.base ha).1)).below (fun _ h => h) (by have := HN.out; simp; omega))
        have HM5 := Lib.hid m5
        obtain ⟨L', hL'⟩ : ∃ L', L' = L ++ [(k, x)] := ⟨_, rfl⟩
        have hLn : L.length + 1 = L'.length := by rw [hL']; simp
        have HL' := Lib.hid hL'
        rw [hLn] at HM5 ⊢
        clear m5 g5 q5 hL' hLn
        go_wp2_with fail
        go_roundw
        case rel => exact ⟨k + 1, A', c', L', by omega, by go_num, rfl, by show L' = _; rw [HL'.out, HS.out, HLk.out]; simp, by have := HM5.out; rw [HL'.out, rfL_snoc]; rw [HL'.out] at this; exact this, HB5.out⟩
        case measure => simp [intOf]; omega
    · obtain rfl : k = s.gens.length := by omega
      have hnn : ¬ (s.gens.length : Int) < s.gens.length := by omega
      have hr := refs_all s HT.out
      rw [hr] at HLk
      have HLL := HLk
      clear hr hlt hk
      go_wp2_with fail
      go_ret
      have hLL := HLL.out
      subst hLL
      have hNN := HN.out
      subst hNN
      exact ⟨A, c, rfl, HM.out, HB.out⟩

/-- What Copy leaves. -/
def copyPost (w : World) (m G : Nat) (s : St) : Ending → World → Prop := fun e w' =>
  ∃ g, e = .returned (.pointer (some ⟨g, 0, none⟩)) ∧ Are (fun j => w.heap.size ≤ j) w' g m G s ∧ Below w.heap.size w w'
set_option maxRecDepth 100000 in
set_option maxHeartbeats 1000000 in
theorem copy_any {F : Nat → Prop} {w : World} {g m G : Nat} {s : St} (h : Are F w g m G s) :
    Calls Try.prog 20 #[.pointer (some ⟨g, 0, none⟩)] w (copyPost w m G s) := by
  have lg := h.lt
  have HU := Lib.hid (usable_any h)
  have HH := Lib.hid h
  have hle := h.inv.le; have hhi := h.hi; have hfr := h.inv.frl
  obtain ⟨A, c, B, d, h1, h2, h3, h4, h5, h6, h7⟩ := h.has
  obtain ⟨c0, c1, c2, _, _, _⟩ := h1.three
  have HG := Lib.hid h1
  have HA := Lib.hid h3; have HB := Lib.hid h4
  clear h h1 h2 h3 h4 h5 h6 h7
  unfold copyPost
  go_enter Try.func20, Try.ntmps20
  go_wp2_with fail
  refine HU.out.mono ?_
  rintro e w1 ⟨rfl, rfl⟩
  go_wp2_with fail
  have HGd := Lib.hid (show Blk w.drew g _ _ from HG.out)
  have HAd := Lib.hid (mine_drew HA.out)
  have HBd := Lib.hid (mine_drew HB.out)
  have Od := Lib.hid ((Below.refl w.heap.size w).drew)
  refine wp_region_noPanic ?_
  refine wp_region_held_drew (S := fun v => v.cell? ⟨g, 0, none⟩ = some (.int .i64 (m : Int)) ∧ v.cell? ⟨g, 1, none⟩ = some (.slice A s.gens.length c) ∧ v.cell? ⟨g, 2, none⟩ = some (.slice B s.fr.length d)) (by kernel_rfl) (⟨c0, c1, c2⟩) (fun hHeld => ?_)
  generalize w.drew = u1 at HGd HAd HBd Od hHeld ⊢
  refine wpAnyH_take (i := 0) (oi := ⟨some 6, _, _, _, _, _⟩) (v := ?_) rfl (by kernel_rfl) (by kernel_rfl) (by kernel_rfl) (fun _ _ _ h => h) (Or.inl ⟨by rfl, ?_⟩) (by assumption) ?_
  rotate_left
  · intro w hSw; go_simp; first | done | with_reducible rfl
  try simp only [Act.put, List.setIfInBounds_toArray, List.set_cons_zero, List.set_cons_succ]
  refine wpAnyH_take (i := 1) (oi := ⟨some 7, _, _, _, _, _⟩) (v := ?_) rfl (by kernel_rfl) (by kernel_rfl) (by kernel_rfl) (fun _ _ _ h => h) (Or.inl ⟨by rfl, ?_⟩) (by assumption) ?_
  rotate_left
  · intro w hSw; go_simp; first | done | with_reducible rfl
  try simp only [Act.put, List.setIfInBounds_toArray, List.set_cons_zero, List.set_cons_succ]
  refine wpAnyH_take (i := 2) (oi := ⟨some 8, _, _, _, _, _⟩) (v := ?_) rfl (by kernel_rfl) (by kernel_rfl) (by kernel_rfl) (fun _ _ _ h => h) (Or.inl ⟨by rfl, ?_⟩) (by assumption) ?_
  rotate_left
  · intro w hSw; go_simp; first | done | with_reducible rfl
  try simp only [Act.put, List.setIfInBounds_toArray, List.set_cons_zero, List.set_cons_succ]
  refine wpAnyH_take (i := 3) (oi := ⟨some 9, _, _, _, _, _⟩) (v := ?_) rfl (by kernel_rfl) (by kernel_rfl) (by kernel_rfl) (fun _ _ _ h => h) (Or.inl ⟨by rfl, ?_⟩) (by assumption) ?_
  rotate_left
  · intro w hSw; go_simp; first | done | with_reducible rfl
  try simp only [Act.put, List.setIfInBounds_toArray, List.set_cons_zero, List.set_cons_succ]
  refine wpAnyH_take (i := 4) (oi := ⟨some 10, _, _, _, _, _⟩) (v := ?_) rfl (by kernel_rfl) (by kernel_rfl) (by kernel_rfl) (fun _ _ _ h => h) (Or.inl ⟨by rfl, ?_⟩) (by assumption) ?_
  rotate_left
  · intro w hSw; go_simp; first | done | with_reducible rfl
  try simp only [Act.put, List.setIfInBounds_toArray, List.set_cons_zero, List.set_cons_succ]
  refine wpAnyH_take (i := 5) (oi := ⟨some 11, _, _, _, _, _⟩) (v := ?_) rfl (by kernel_rfl) (by kernel_rfl) (by kernel_rfl) (fun _ _ _ h => h) (Or.inl ⟨by rfl, ?_⟩) (by assumption) ?_
  rotate_left
  · intro w hSw; go_simp; first | done | with_reducible rfl
  try simp only [Act.put, List.setIfInBounds_toArray, List.set_cons_zero, List.set_cons_succ]
  refine wpAnyH_take (i := 6) (oi := ⟨some 12, _, _, _, _, _⟩) (v := ?_) rfl (by kernel_rfl) (by kernel_rfl) (by kernel_rfl) (fun _ _ _ h => h) (Or.inl ⟨by rfl, ?_⟩) (by assumption) ?_
  rotate_left
  · intro w hSw; go_simp; first | done | with_reducible rfl
  try simp only [Act.put, List.setIfInBounds_toArray, List.set_cons_zero, List.set_cons_succ]
  refine wpAnyH_take (i := 7) (oi := ⟨some 13, _, _, _, _, _⟩) (v := ?_) rfl (by kernel_rfl) (by kernel_rfl) (by kernel_rfl) (fun _ _ _ h => h) (Or.inl ⟨by rfl, ?_⟩) (by assumption) ?_
  rotate_left
  · intro w hSw; go_simp; first | done | with_reducible rfl
  try simp only [Act.put, List.setIfInBounds_toArray, List.set_cons_zero, List.set_cons_succ]
  refine wpAnyH_take (i := 9) (oi := ⟨some 15, _, _, _, _, _⟩) (v := ?_) rfl (by kernel_rfl) (by kernel_rfl) (by kernel_rfl) (fun _ _ _ h => h) (Or.inl ⟨by rfl, ?_⟩) (by assumption) ?_
  rotate_left
  · intro w hSw; go_simp; first | done | with_reducible rfl
  try simp only [Act.put, List.setIfInBounds_toArray, List.set_cons_zero, List.set_cons_succ]
  refine wpAnyH_take (i := 10) (oi := ⟨some 16, _, _, _, _, _⟩) (v := ?_) rfl (by kernel_rfl) (by kernel_rfl) (by kernel_rfl) (fun _ _ _ h => h) (Or.inl ⟨by rfl, ?_⟩) (by assumption) ?_
  rotate_left
  · intro w hSw; go_simp; first | done | with_reducible rfl
  try simp only [Act.put, List.setIfInBounds_toArray, List.set_cons_zero, List.set_cons_succ]
  refine wpAnyH_take (i := 11) (oi := ⟨some 17, _, _, _, _, _⟩) (v := ?_) rfl (by kernel_rfl) (by kernel_rfl) (by kernel_rfl) (fun _ _ _ h => h) (Or.inl ⟨by rfl, ?_⟩) (by assumption) ?_
  rotate_left
  · intro w hSw; go_simp; first | done | with_reducible rfl
  try simp only [Act.put, List.setIfInBounds_toArray, List.set_cons_zero, List.set_cons_succ]
  refine wpAnyH_take (i := 12) (oi := ⟨some 18, _, _, _, _, _⟩) (v := ?_) rfl (by kernel_rfl) (by kernel_rfl) (by kernel_rfl) (fun _ _ _ h => h) (Or.inl ⟨by rfl, ?_⟩) (by assumption) ?_
  rotate_left
  · intro w hSw; go_simp; first | done | with_reducible rfl
  try simp only [Act.put, List.setIfInBounds_toArray, List.set_cons_zero, List.set_cons_succ]
  refine wpAnyH_ready (rs := [8]) (by kernel_rfl) (by simp) ?_
  refine AllReadyH.cons (o := ⟨some 14, _, _, _, _, _⟩) rfl (fun K hK => ?_) AllReadyH.nil
  go_simp
  refine (cloneS_any A s.gens.length c _ u1 (Rs.mine HAd.out) (sl_one _ _) (by omega)).mono ?_
  rintro e u2 ⟨A2, k2, rfl, m2, b2⟩
  have HM2 := Lib.hid m2; have HB2 := Lib.hid b2
  have HG2 := Lib.hid (HGd.out.below b2 HGd.out.lt)
  have HB2d := Lib.hid (HBd.out.below b2 (Nat.le_refl _))
  have hz2 := b2.size
  clear m2 b2
  go_simp
  refine hK.out _ _ (⟨HG2.out.cell 0, HG2.out.cell 1, HG2.out.cell 2⟩) (fun hHeld => ?_)
  clear hK K
  try simp only [Act.put, List.setIfInBounds_toArray, List.set_cons_zero, List.set_cons_succ]
  refine wpAnyH_ready (rs := [13]) (by kernel_rfl) (by simp) ?_
  refine AllReadyH.cons (o := ⟨some 19, _, _, _, _, _⟩) rfl (fun K hK => ?_) AllReadyH.nil
  go_simp
  refine (cloneI_any B s.fr.length d _ u2 (Rs.mine HB2d.out) (ints_one _) (by omega)).mono ?_
  rintro e u3 ⟨B3, k3, rfl, m3, b3⟩
  have HM3 := Lib.hid m3; have HB3 := Lib.hid b3
  have HM23 := Lib.hid (HM2.out.below b3 (Nat.le_refl _))
  have HG3 := Lib.hid (HG2.out.below b3 HG2.out.lt)
  have hz3 := b3.size
  clear m3 b3
  go_simp
  refine hK.out _ _ (⟨HG3.out.cell 0, HG3.out.cell 1, HG3.out.cell 2⟩) (fun hHeld => ?_)
  clear hK K
  try simp only [Act.put, List.setIfInBounds_toArray, List.set_cons_zero, List.set_cons_succ]
  refine wpAnyH_take (i := 14) (oi := ⟨some 20, _, _, _, _, _⟩) (v := ?_) rfl (by kernel_rfl) (by kernel_rfl) (by kernel_rfl) (fun _ _ _ h => h) (Or.inl ⟨by rfl, ?_⟩) (by assumption) ?_
  rotate_left
  · intro w hSw; go_simp; first | done | with_reducible rfl
  try simp only [Act.put, List.setIfInBounds_toArray, List.set_cons_zero, List.set_cons_succ]
  refine wpAnyH_ready (rs := [15]) (by kernel_rfl) (by simp) ?_
  refine AllReadyH.cons (o := ⟨some 21, _, _, _, _, _⟩) rfl (fun K hK => ?_) AllReadyH.nil
  go_simp
  have HG4 := Lib.hid (HG3.out.below (bnew u3 (.cells #[.int .i64 (m : Int), .slice A2 s.gens.length k2, .slice B3 s.fr.length k3] 50)) HG3.out.lt)
  refine hK.out _ _ (⟨HG4.out.cell 0, HG4.out.cell 1, HG4.out.cell 2⟩) (fun hHeld => ?_)
  clear hK K
  try simp only [Act.put, List.setIfInBounds_toArray, List.set_cons_zero, List.set_cons_succ]
  refine wpAnyH_take (i := 16) (oi := ⟨some 2, _, _, _, _, _⟩) (v := ?_) rfl (by kernel_rfl) (by kernel_rfl) (by kernel_rfl) (fun _ _ _ h => h) (Or.inl ⟨by rfl, ?_⟩) (by assumption) ?_
  rotate_left
  · intro w hSw; go_simp; first | done | with_reducible rfl
  try simp only [Act.put, List.setIfInBounds_toArray, List.set_cons_zero, List.set_cons_succ]
  refine wpAnyH_done (by kernel_rfl) ?_ _
  refine NoPanic.normal ?_
  go_wp2_with fail
  go_ret
  have hzd := Od.out.size
  refine ⟨_, rfl, ⟨⟨A2, k2, B3, k3, Blk.new u3 _ _, by omega, (HM23.out.mono (Nat.zero_le _)).below (bnew u3 _) (Nat.le_refl _), (HM3.out.mono (Nat.zero_le _)).below (bnew u3 _) (Nat.le_refl _), fun a ha => ?_, fun b hb => ?_, fun a b ha hb => ?_⟩, HH.out.inv, HH.out.lo, HH.out.hi⟩, ?_⟩
  · have h1 := HM23.out.base ha; exact ⟨by omega, by omega⟩
  · have h1 := HM3.out.base hb; exact ⟨by omega, by omega⟩
  · have h1 := HM2.out.base ha; have h2 := HM3.out.base hb; omega
  · exact ((Od.out.trans (HB2.out.mono hzd)).trans (HB3.out.mono (by omega))).trans ((bnew u3 _).mono (by omega))
end Go.Proofs.Ytighehonkookhaa.Nf
