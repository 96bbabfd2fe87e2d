/- Proves what New and the method Copy of a table return: a table of its own. Conditions: as each theorem names them. -/
import Derived.Test.YtmhbfplpodikiaaInm
namespace Go.Proofs.Ytmhbfplpodikiaa.Inn
open Go.RowKit Ap Mi Nw Rg Aa Ai Hm Ina Inb Inc Ind Ine Inf Ing Inh Ini Inj Ink Inl Inm Ag

/-- What New and Copy leave. -/
def mkPost (w : World) (m : Int) (l : List Nr) : Ending → World → Prop := fun q w' => ∃ g F', q = .returned (.pointer (some ⟨g, 0, none⟩)) ∧ St F' w' g m l ∧ (∀ j, F' j → w.heap.size ≤ j) ∧ Below w.heap.size w w'
def newPost (w : World) (m : Int) : Ending → World → Prop := fun q w' => ∃ g F', q = .returned (.tuple #[.pointer (some ⟨g, 0, none⟩), .int .i64 0]) ∧ St F' w' g m [] ∧ (∀ j, F' j → w.heap.size ≤ j) ∧ Below w.heap.size w w'
set_option maxRecDepth 100000 in
set_option maxHeartbeats 400000 in
theorem new_no {m : Int} (h : ¬ (1 ≤ m ∧ m ≤ 65536)) (sd : Int) (w : World) : Calls Try.prog 9 #[.int .i64 m, .int .u64 sd] w fun q w' => q = .returned (.tuple #[.pointer none, .int .i64 2]) ∧ Below w.heap.size w w' := by
  by_cases h0 : m < 1
  · clear h
    go_enter Try.func9, Try.ntmps9
    go_wp2_with fail
    go_ret2
    exact ⟨rfl, Below.refl _ _⟩
  · have h1 : (65536 : Int) < m := by omega
    clear h
    go_enter Try.func9, Try.ntmps9
    go_wp2_with fail
    go_ret2
    exact ⟨rfl, Below.refl _ _⟩
theorem tb_nil (sd : Int) : Tb sd [] ⟨[-1], []⟩ where
  iv := iv_nil
  rf := fun x hx => by cases hx
  len := rfl
  pw := (isPow_iff _).2 ⟨0, by omega, rfl⟩
  le := by simp
  mx := by show 1 ≤ 65536; omega
  ch := (Chs.empty _ (fun b hb => by
    have hb' : b < 1 := hb
    obtain rfl : b = 0 := by omega
    rfl)).iff (fun i => ⟨fun q => q.elim, fun q => absurd q.1 (Nat.not_lt_zero i)⟩)
set_option maxRecDepth 100000 in
set_option maxHeartbeats 1000000 in
theorem new_yes {m : Int} (h : 1 ≤ m ∧ m ≤ 65536) (sd : Int) (hsd : 0 ≤ sd ∧ sd < 18446744073709551616) (w : World) : Calls Try.prog 9 #[.int .i64 m, .int .u64 sd] w (newPost w m) := by
  have HE := Lib.hid (empty_any 1 (by omega) (by omega) w)
  obtain ⟨h1, h2⟩ := h
  unfold newPost
  go_enter Try.func9, Try.ntmps9
  go_wp2_with fail
  refine HE.out.mono ?_
  rintro e w1 ⟨H1, ch1, rfl, hm1, hb1⟩
  have HM1 := Lib.hid hm1; have HB1 := Lib.hid hb1
  clear hm1 hb1 HE
  go_wp2_with fail
  go_ret2
  have hz := HB1.out.size
  refine ⟨w1.heap.size, fun j => w.heap.size ≤ j, rfl, ⟨fun j => if j < w1.heap.size then 1 else 0, sd, H1, ch1, [-1], none, 0, [], none, 0, ?_, tb_nil sd, hsd, h1, h2, by show ((0 : Nat) : Int) ≤ m; omega⟩, fun _ hf => hf, HB1.out.trans ((bnew w1 _).mono hz)⟩
  refine ⟨Blk.new w1 _ _, hz, by show (if _ then _ else _) = _; rw [if_neg (by omega)], (HM1.out.below (bnew w1 _) (Nat.le_refl _)).mono (Nat.zero_le _), Mine.nil _ _ _, Mine.nil _ _ _, fun a e => ?_, (fun a e => by cases e), (fun a e => by cases e), rfl⟩
  have := HM1.out.base e
  exact ⟨this.1, by show (if _ then _ else _) = _; rw [if_pos this.2.1]⟩
section
variable {F F' : Nat → Prop} {p : Nat → Nat} {w w' : World} {g : Nat} {m sd : Int} {H S R : Option Addr} {ch cs cf : Nat} {hd nx : List Int} {l : List Nr} {fr : List Nat}
set_option maxRecDepth 100000 in
set_option maxHeartbeats 1000000 in
theorem copy_st (h : St F w g m l) : Calls Try.prog 17 #[.pointer (some ⟨g, 0, none⟩)] w (mkPost w m l) := by
  have hlen := h.len
  have lg := h.lt
  obtain ⟨p, sd, H, ch, hd, S, cs, nx, R, cf, h1, ht, hsd, hm1, hm2, hc⟩ := h
  have HU := Lib.hid (usable_any h1 hm1)
  have HT := Lib.hid ht; have HSD := Lib.hid hsd
  have hdm : hd.length ≤ 65536 := ht.mx
  have hfl := frees_len l
  have HL1 := Lib.hid h1.drew
  have HB1 : Hid (Below w.heap.size w w.drew) := (Below.refl _ w).drew
  have b0 : w.drew.cell? ⟨g, 0, none⟩ = some (.int .i64 m) ∧ w.drew.cell? ⟨g, 1, none⟩ = some (.int .u64 sd) ∧ w.drew.cell? ⟨g, 2, none⟩ = some (.slice H hd.length ch) ∧ w.drew.cell? ⟨g, 3, none⟩ = some (.slice S l.length cs) ∧ w.drew.cell? ⟨g, 4, none⟩ = some (.slice R (frees l).length cf) := Blk.five h1.blk
  unfold mkPost
  clear h1 ht hsd
  go_enter Try.func17, Try.ntmps17
  go_wp2_with fail
  refine HU.out.mono ?_
  rintro e w1 ⟨rfl, hw⟩
  rw [hw]
  clear HU hw
  go_wp2_with fail
  refine wp_region_noPanic ?_
  refine wp_region_G 24 (fun v => v.cell? ⟨g, 0, none⟩ = some (.int .i64 m) ∧ v.cell? ⟨g, 1, none⟩ = some (.int .u64 sd) ∧ v.cell? ⟨g, 2, none⟩ = some (.slice H hd.length ch) ∧ v.cell? ⟨g, 3, none⟩ = some (.slice S l.length cs) ∧ v.cell? ⟨g, 4, none⟩ = some (.slice R (frees l).length cf)) (by kernel_rfl) ?_
  generalize w.drew = u1 at HL1 HB1 b0 ⊢
  refine wpAnyG_take (i := 0) (oi := ⟨some 6, _, _, _, _, _⟩) (v := ?_) rfl (by kernel_rfl) (by kernel_rfl) (by kernel_rfl) (by kernel_rfl) (by kernel_rfl) (fun _ _ _ h => h) (Or.inl ⟨by rfl, ?_⟩) (b0) ?_
  rotate_left
  · intro w hSw; go_simp; first | done | with_reducible rfl
  try simp only [Act.put, List.setIfInBounds_toArray, List.set_cons_zero, List.set_cons_succ]
  refine wpAnyG_take (i := 1) (oi := ⟨some 7, _, _, _, _, _⟩) (v := ?_) rfl (by kernel_rfl) (by kernel_rfl) (by kernel_rfl) (by kernel_rfl) (by kernel_rfl) (fun _ _ _ h => h) (Or.inl ⟨by rfl, ?_⟩) (b0) ?_
  rotate_left
  · intro w hSw; go_simp; first | done | with_reducible rfl
  try simp only [Act.put, List.setIfInBounds_toArray, List.set_cons_zero, List.set_cons_succ]
  refine wpAnyG_take (i := 2) (oi := ⟨some 8, _, _, _, _, _⟩) (v := ?_) rfl (by kernel_rfl) (by kernel_rfl) (by kernel_rfl) (by kernel_rfl) (by kernel_rfl) (fun _ _ _ h => h) (Or.inl ⟨by rfl, ?_⟩) (b0) ?_
  rotate_left
  · intro w hSw; go_simp; first | done | with_reducible rfl
  try simp only [Act.put, List.setIfInBounds_toArray, List.set_cons_zero, List.set_cons_succ]
  refine wpAnyG_take (i := 3) (oi := ⟨some 9, _, _, _, _, _⟩) (v := ?_) rfl (by kernel_rfl) (by kernel_rfl) (by kernel_rfl) (by kernel_rfl) (by kernel_rfl) (fun _ _ _ h => h) (Or.inl ⟨by rfl, ?_⟩) (b0) ?_
  rotate_left
  · intro w hSw; go_simp; first | done | with_reducible rfl
  try simp only [Act.put, List.setIfInBounds_toArray, List.set_cons_zero, List.set_cons_succ]
  refine wpAnyG_take (i := 4) (oi := ⟨some 10, _, _, _, _, _⟩) (v := ?_) rfl (by kernel_rfl) (by kernel_rfl) (by kernel_rfl) (by kernel_rfl) (by kernel_rfl) (fun _ _ _ h => h) (Or.inl ⟨by rfl, ?_⟩) (b0) ?_
  rotate_left
  · intro w hSw; go_simp; first | done | with_reducible rfl
  try simp only [Act.put, List.setIfInBounds_toArray, List.set_cons_zero, List.set_cons_succ]
  refine wpAnyG_take (i := 5) (oi := ⟨some 11, _, _, _, _, _⟩) (v := ?_) rfl (by kernel_rfl) (by kernel_rfl) (by kernel_rfl) (by kernel_rfl) (by kernel_rfl) (fun _ _ _ h => h) (Or.inl ⟨by rfl, ?_⟩) (b0) ?_
  rotate_left
  · intro w hSw; go_simp; first | done | with_reducible rfl
  try simp only [Act.put, List.setIfInBounds_toArray, List.set_cons_zero, List.set_cons_succ]
  refine wpAnyG_take (i := 6) (oi := ⟨some 12, _, _, _, _, _⟩) (v := ?_) rfl (by kernel_rfl) (by kernel_rfl) (by kernel_rfl) (by kernel_rfl) (by kernel_rfl) (fun _ _ _ h => h) (Or.inl ⟨by rfl, ?_⟩) (b0) ?_
  rotate_left
  · intro w hSw; go_simp; first | done | with_reducible rfl
  try simp only [Act.put, List.setIfInBounds_toArray, List.set_cons_zero, List.set_cons_succ]
  refine wpAnyG_take (i := 7) (oi := ⟨some 13, _, _, _, _, _⟩) (v := ?_) rfl (by kernel_rfl) (by kernel_rfl) (by kernel_rfl) (by kernel_rfl) (by kernel_rfl) (fun _ _ _ h => h) (Or.inl ⟨by rfl, ?_⟩) (b0) ?_
  rotate_left
  · intro w hSw; go_simp; first | done | with_reducible rfl
  try simp only [Act.put, List.setIfInBounds_toArray, List.set_cons_zero, List.set_cons_succ]
  refine wpAnyG_take (i := 8) (oi := ⟨some 14, _, _, _, _, _⟩) (v := ?_) rfl (by kernel_rfl) (by kernel_rfl) (by kernel_rfl) (by kernel_rfl) (by kernel_rfl) (fun _ _ _ h => h) (Or.inl ⟨by rfl, ?_⟩) (b0) ?_
  rotate_left
  · intro w hSw; go_simp; first | done | with_reducible rfl
  try simp only [Act.put, List.setIfInBounds_toArray, List.set_cons_zero, List.set_cons_succ]
  refine wpAnyG_take (i := 9) (oi := ⟨some 15, _, _, _, _, _⟩) (v := ?_) rfl (by kernel_rfl) (by kernel_rfl) (by kernel_rfl) (by kernel_rfl) (by kernel_rfl) (fun _ _ _ h => h) (Or.inl ⟨by rfl, ?_⟩) (b0) ?_
  rotate_left
  · intro w hSw; go_simp; first | done | with_reducible rfl
  try simp only [Act.put, List.setIfInBounds_toArray, List.set_cons_zero, List.set_cons_succ]
  refine wpAnyG_take (i := 10) (oi := ⟨some 16, _, _, _, _, _⟩) (v := ?_) rfl (by kernel_rfl) (by kernel_rfl) (by kernel_rfl) (by kernel_rfl) (by kernel_rfl) (fun _ _ _ h => h) (Or.inl ⟨by rfl, ?_⟩) (b0) ?_
  rotate_left
  · intro w hSw; go_simp; first | done | with_reducible rfl
  try simp only [Act.put, List.setIfInBounds_toArray, List.set_cons_zero, List.set_cons_succ]
  refine wpAnyG_take (i := 11) (oi := ⟨some 17, _, _, _, _, _⟩) (v := ?_) rfl (by kernel_rfl) (by kernel_rfl) (by kernel_rfl) (by kernel_rfl) (by kernel_rfl) (fun _ _ _ h => h) (Or.inl ⟨by rfl, ?_⟩) (b0) ?_
  rotate_left
  · intro w hSw; go_simp; first | done | with_reducible rfl
  try simp only [Act.put, List.setIfInBounds_toArray, List.set_cons_zero, List.set_cons_succ]
  refine wpAnyG_take (i := 13) (oi := ⟨some 19, _, _, _, _, _⟩) (v := ?_) rfl (by kernel_rfl) (by kernel_rfl) (by kernel_rfl) (by kernel_rfl) (by kernel_rfl) (fun _ _ _ h => h) (Or.inl ⟨by rfl, ?_⟩) (b0) ?_
  rotate_left
  · intro w hSw; go_simp; first | done | with_reducible rfl
  try simp only [Act.put, List.setIfInBounds_toArray, List.set_cons_zero, List.set_cons_succ]
  refine wpAnyG_take (i := 14) (oi := ⟨some 20, _, _, _, _, _⟩) (v := ?_) rfl (by kernel_rfl) (by kernel_rfl) (by kernel_rfl) (by kernel_rfl) (by kernel_rfl) (fun _ _ _ h => h) (Or.inl ⟨by rfl, ?_⟩) (b0) ?_
  rotate_left
  · intro w hSw; go_simp; first | done | with_reducible rfl
  try simp only [Act.put, List.setIfInBounds_toArray, List.set_cons_zero, List.set_cons_succ]
  refine wpAnyG_take (i := 15) (oi := ⟨some 21, _, _, _, _, _⟩) (v := ?_) rfl (by kernel_rfl) (by kernel_rfl) (by kernel_rfl) (by kernel_rfl) (by kernel_rfl) (fun _ _ _ h => h) (Or.inl ⟨by rfl, ?_⟩) (b0) ?_
  rotate_left
  · intro w hSw; go_simp; first | done | with_reducible rfl
  try simp only [Act.put, List.setIfInBounds_toArray, List.set_cons_zero, List.set_cons_succ]
  refine wpAnyG_take (i := 16) (oi := ⟨some 22, _, _, _, _, _⟩) (v := ?_) rfl (by kernel_rfl) (by kernel_rfl) (by kernel_rfl) (by kernel_rfl) (by kernel_rfl) (fun _ _ _ h => h) (Or.inl ⟨by rfl, ?_⟩) (b0) ?_
  rotate_left
  · intro w hSw; go_simp; first | done | with_reducible rfl
  try simp only [Act.put, List.setIfInBounds_toArray, List.set_cons_zero, List.set_cons_succ]
  refine wpAnyG_take (i := 18) (oi := ⟨some 24, _, _, _, _, _⟩) (v := ?_) rfl (by kernel_rfl) (by kernel_rfl) (by kernel_rfl) (by kernel_rfl) (by kernel_rfl) (fun _ _ _ h => h) (Or.inl ⟨by rfl, ?_⟩) (b0) ?_
  rotate_left
  · intro w hSw; go_simp; first | done | with_reducible rfl
  try simp only [Act.put, List.setIfInBounds_toArray, List.set_cons_zero, List.set_cons_succ]
  refine wpAnyG_take (i := 19) (oi := ⟨some 25, _, _, _, _, _⟩) (v := ?_) rfl (by kernel_rfl) (by kernel_rfl) (by kernel_rfl) (by kernel_rfl) (by kernel_rfl) (fun _ _ _ h => h) (Or.inl ⟨by rfl, ?_⟩) (b0) ?_
  rotate_left
  · intro w hSw; go_simp; first | done | with_reducible rfl
  try simp only [Act.put, List.setIfInBounds_toArray, List.set_cons_zero, List.set_cons_succ]
  refine wpAnyG_take (i := 20) (oi := ⟨some 26, _, _, _, _, _⟩) (v := ?_) rfl (by kernel_rfl) (by kernel_rfl) (by kernel_rfl) (by kernel_rfl) (by kernel_rfl) (fun _ _ _ h => h) (Or.inl ⟨by rfl, ?_⟩) (b0) ?_
  rotate_left
  · intro w hSw; go_simp; first | done | with_reducible rfl
  try simp only [Act.put, List.setIfInBounds_toArray, List.set_cons_zero, List.set_cons_succ]
  refine wpAnyG_take (i := 21) (oi := ⟨some 27, _, _, _, _, _⟩) (v := ?_) rfl (by kernel_rfl) (by kernel_rfl) (by kernel_rfl) (by kernel_rfl) (by kernel_rfl) (fun _ _ _ h => h) (Or.inl ⟨by rfl, ?_⟩) (b0) ?_
  rotate_left
  · intro w hSw; go_simp; first | done | with_reducible rfl
  try simp only [Act.put, List.setIfInBounds_toArray, List.set_cons_zero, List.set_cons_succ]
  refine wpAnyG_ready (rs := [12]) (by kernel_rfl) (by simp) ?_
  refine AllReadyG.cons (o := ⟨some 18, _, _, _, _, _⟩) rfl (fun K hK => ?_) AllReadyG.nil
  go_simp
  refine (cloneI_any _ _ _ _ _ (Rs.mine HL1.out.hm) (zs_one _) (by omega)).mono ?_
  rintro _ u2 ⟨A1, d1, rfl, hm, hb⟩
  have HM2 := Lib.hid hm; have HB2 := Lib.hid hb
  have HL2 := Lib.hid (HL1.out.below hb (Nat.le_refl _))
  have c2 : u2.cell? ⟨g, 0, none⟩ = some (.int .i64 m) ∧ u2.cell? ⟨g, 1, none⟩ = some (.int .u64 sd) ∧ u2.cell? ⟨g, 2, none⟩ = some (.slice H hd.length ch) ∧ u2.cell? ⟨g, 3, none⟩ = some (.slice S l.length cs) ∧ u2.cell? ⟨g, 4, none⟩ = some (.slice R (frees l).length cf) := Blk.five HL2.out.blk
  clear hm hb
  refine hK.out _ _ (fun _ => c2) ?_
  clear hK K
  try simp only [Act.put, List.setIfInBounds_toArray, List.set_cons_zero, List.set_cons_succ]
  refine wpAnyG_ready (rs := [17]) (by kernel_rfl) (by simp) ?_
  refine AllReadyG.cons (o := ⟨some 23, _, _, _, _, _⟩) rfl (fun K hK => ?_) AllReadyG.nil
  go_simp
  refine (cloneS_any _ _ _ _ _ (Rs.mine HL2.out.sm) (slC_one _ _) (by omega)).mono ?_
  rintro _ u3 ⟨A2, d2, rfl, hm, hb⟩
  have HM3 := Lib.hid hm; have HB3 := Lib.hid hb
  have HL3 := Lib.hid (HL2.out.below hb (Nat.le_refl _))
  have c3 : u3.cell? ⟨g, 0, none⟩ = some (.int .i64 m) ∧ u3.cell? ⟨g, 1, none⟩ = some (.int .u64 sd) ∧ u3.cell? ⟨g, 2, none⟩ = some (.slice H hd.length ch) ∧ u3.cell? ⟨g, 3, none⟩ = some (.slice S l.length cs) ∧ u3.cell? ⟨g, 4, none⟩ = some (.slice R (frees l).length cf) := Blk.five HL3.out.blk
  clear hm hb
  refine hK.out _ _ (fun _ => c3) ?_
  clear hK K
  try simp only [Act.put, List.setIfInBounds_toArray, List.set_cons_zero, List.set_cons_succ]
  refine wpAnyG_ready (rs := [22]) (by kernel_rfl) (by simp) ?_
  refine AllReadyG.cons (o := ⟨some 28, _, _, _, _, _⟩) rfl (fun K hK => ?_) AllReadyG.nil
  go_simp
  refine (cloneI_any _ _ _ _ _ (Rs.mine HL3.out.rm) (ns_one _) (by omega)).mono ?_
  rintro _ u4 ⟨A3, d3, rfl, hm, hb⟩
  have HM4 := Lib.hid hm; have HB4 := Lib.hid hb
  have HL4 := Lib.hid (HL3.out.below hb (Nat.le_refl _))
  have c4 : u4.cell? ⟨g, 0, none⟩ = some (.int .i64 m) ∧ u4.cell? ⟨g, 1, none⟩ = some (.int .u64 sd) ∧ u4.cell? ⟨g, 2, none⟩ = some (.slice H hd.length ch) ∧ u4.cell? ⟨g, 3, none⟩ = some (.slice S l.length cs) ∧ u4.cell? ⟨g, 4, none⟩ = some (.slice R (frees l).length cf) := Blk.five HL4.out.blk
  clear hm hb
  refine hK.out _ _ (fun _ => c4) ?_
  clear hK K
  try simp only [Act.put, List.setIfInBounds_toArray, List.set_cons_zero, List.set_cons_succ]
  refine wpAnyG_take (i := 23) (oi := ⟨some 29, _, _, _, _, _⟩) (v := ?_) rfl (by kernel_rfl) (by kernel_rfl) (by kernel_rfl) (by kernel_rfl) (by kernel_rfl) (fun _ _ _ h => h) (Or.inl ⟨by rfl, ?_⟩) (c4) ?_
  rotate_left
  · intro w hSw; go_simp; first | done | with_reducible rfl
  try simp only [Act.put, List.setIfInBounds_toArray, List.set_cons_zero, List.set_cons_succ]
  refine wpAnyG_ready (rs := [24]) (by kernel_rfl) (by simp) ?_
  refine AllReadyG.cons (o := ⟨some 30, _, _, _, _, _⟩) rfl (fun K hK => ?_) AllReadyG.nil
  go_simp
  refine hK.out _ _ (fun h => absurd h (by omega)) ?_
  clear hK K
  try simp only [Act.put, List.setIfInBounds_toArray, List.set_cons_zero, List.set_cons_succ]
  refine wpAnyG_ready (rs := [25]) (by kernel_rfl) (by simp) ?_
  refine AllReadyG.cons (o := ⟨some 2, _, _, _, _, _⟩) rfl (fun K hK => ?_) AllReadyG.nil
  go_simp
  refine hK.out _ _ (fun h => absurd h (by omega)) ?_
  clear hK K
  refine wpAnyG_done (by kernel_rfl) ?_ _
  refine NoPanic.normal ?_
  go_wp2_with fail
  go_ret
  have z2 := HB2.out.size; have z3 := HB3.out.size; have z4 := HB4.out.size; have z1 := HB1.out.size
  obtain ⟨u5, hu5⟩ : ∃ u5, u5 = u4.alloc (.cells #[.int .i64 m, .int .u64 sd, .slice A1 hd.length d1, .slice A2 l.length d2, .slice A3 (frees l).length d3] 57) := ⟨_, rfl⟩
  have hb5 : Below u4.heap.size u4 u5 := by rw [hu5]; exact bnew _ _
  have hk5 : Blk u5 u4.heap.size #[.int .i64 m, .int .u64 sd, .slice A1 hd.length d1, .slice A2 l.length d2, .slice A3 (frees l).length d3] 57 := by rw [hu5]; exact Blk.new _ _ _
  rw [← hu5]
  refine ⟨u4.heap.size, fun j => w.heap.size ≤ j, rfl, ⟨fun j => if j < u2.heap.size then 1 else if j < u3.heap.size then 2 else if j < u4.heap.size then 3 else 0, sd, A1, d1, hd, A2, d2, nx, A3, d3, ?_, HT.out, HSD.out, hm1, hm2, hc⟩, fun _ hf => hf, (((HB1.out.trans (HB2.out.mono (by omega))).trans (HB3.out.mono (by omega))).trans (HB4.out.mono (by omega))).trans (hb5.mono (by omega))⟩
  have m2 := HM2.out.below (HB3.out.trans ((HB4.out.trans (hb5.mono (by omega))).mono (by omega))) (Nat.le_refl _)
  have m3 := HM3.out.below (HB4.out.trans (hb5.mono (by omega))) (Nat.le_refl _)
  have m4 := HM4.out.below hb5 (Nat.le_refl _)
  refine ⟨hk5, by show w.heap.size ≤ u4.heap.size; omega, by show (if _ then _ else if _ then _ else if _ then _ else _) = _; rw [if_neg (by omega), if_neg (by omega), if_neg (by omega)], m2.mono (Nat.zero_le _), m3.mono (Nat.zero_le _), m4.mono (Nat.zero_le _), fun a e => ?_, fun a e => ?_, fun a e => ?_, HL1.out.nl⟩
  · have h1 := HM2.out.base e
    exact ⟨by show w.heap.size ≤ a.block; omega, by show (if _ then _ else if _ then _ else if _ then _ else _) = _; rw [if_pos h1.2.1]⟩
  · have h1 := HM3.out.base e
    exact ⟨by show w.heap.size ≤ a.block; omega, by show (if _ then _ else if _ then _ else if _ then _ else _) = _; rw [if_neg (by omega), if_pos h1.2.1]⟩
  · have h1 := HM4.out.base e
    exact ⟨by show w.heap.size ≤ a.block; omega, by show (if _ then _ else if _ then _ else if _ then _ else _) = _; rw [if_neg (by omega), if_neg (by omega), if_pos h1.2.1]⟩
end
end Go.Proofs.Ytmhbfplpodikiaa.Inn
