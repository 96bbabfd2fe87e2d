/- Proves what the specification's Put returns. Conditions: as each theorem names them. -/
import Derived.Test.YtlmljhnogmfcfaaGreatRg
import Derived.Test.YtlmljhnogmfcfaaGreatEi
import Derived.Deep.Cut
namespace Go.Proofs.YtlmljhnogmfcfaaGreat.Ej
open Go.RowKit Ap Mi Nw Rg Ea Eb Ec Ed Ef Eg Eh Ei

structure Pu (w v : World) (C : Nat) (cs : Array Value) (x : Em) : Prop where
 b : Below C w v
 k : Blk v C cs 32
 e : Blk v (C + 1) (emA x) 42
 r : Blk v (C + 1 + 1) zS 32
 z : C + 3 ≤ v.heap.size
theorem pu_new (w : World) (cs : Array Value) (x : Em) : Pu w (((w.alloc (.cells cs 32)).alloc (.cells (emA x) 42)).alloc (.cells zS 32)) w.heap.size cs x := by
 refine ⟨((bnew _ _).alloc (by simp) _).alloc (by simp; omega) _, ?_, ?_, ?_, by simp⟩
 ·exact ((Blk.new w _ _).below (bnew _ _) (by simp)).below (bnew _ _) (by simp; omega)
 ·have := (Blk.new (w.alloc (.cells cs 32)) (emA x) 42).below (bnew _ (.cells zS 32)) (by simp)
  simpa using this
 ·have := Blk.new ((w.alloc (.cells cs 32)).alloc (.cells (emA x) 42)) zS 32
  simpa using this
theorem Pu.below {w v u : World} {C : Nat} {cs : Array Value} {x : Em} (h : Pu w v C cs x) (hb : Below v.heap.size v u) : Pu w u C cs x := by
 have hz := h.z
 exact ⟨h.b.trans (hb.mono (by omega)), h.k.below hb (by omega), h.e.below hb (by omega), h.r.below hb (by omega), Nat.le_trans hz hb.size⟩
section
variable {G G' : Nat → Prop} {A : Option Addr} {c : Nat} {l : List Em} {w : World}
open Classical in
set_option maxRecDepth 100000 in
set_option maxHeartbeats 1000000 in
theorem put_no (b e : Int) (x : Em) (hl : RL G w A c l) (hx : RE G' w x) (hb1 : 1 ≤ b) (hb2 : b ≤ 1099511627776) (hk : putE b x.e ≠ 0) :
  Calls Tryz.prog 16 #[mV b e A l.length c, emV x] w (vPost w (.tuple #[mV b e A l.length c, .slice none 0 0, .int .i64 (putE b x.e)])) := by
 obtain ⟨v0, hv0⟩ : ∃ v0, v0 = ((w.alloc (.cells (mA b e A l.length c) 32)).alloc (.cells (emA x) 42)).alloc (.cells zS 32) := ⟨_, rfl⟩
 have HP0 : Hid (Pu w v0 w.heap.size (mA b e A l.length c) x) := by show Pu _ _ _ _ _; rw [hv0]; exact pu_new _ _ _
 obtain ⟨C, hC⟩ : ∃ C, C = w.heap.size := ⟨_, rfl⟩
 rw [← hC] at HP0
 have HCB : Hid (∀ v, Below C w v → Below w.heap.size w v) := fun v h => by rw [← hC]; exact h
 have HCC : Hid (w.heap.size ≤ C) := by show _ ≤ _; omega
 have HX := Lib.hid (hx.below HP0.out.b (by omega))
 have HLW := Lib.hid hl
 have HXW := Lib.hid hx
 have HL := Lib.hid (hl.below HP0.out.b (by omega))
 have hcm := Rs.max hl.r
 have hcl := Rs.le hl.r
 unfold maxLen at hcm
 have hvl := hx.f.v
 have hvm := Rs.max hx.v
 have htm := Rs.max hx.t
 unfold maxLen at hvm htm
 have htl := hx.f.t
 have hbI := hb1; have hbI2 := hb2
 have HKY := Lib.hid (key_any x.e.k v0)
 have HTG := Lib.hid (tags_any x.B x.b x.e.t v0 HX.out.t htl)
 have HCO : Hid (∀ v, Below v0.heap.size v0 v → Calls Tryz.prog 24 #[emV x] v (vPost v (.int .i64 (cost x.e : Int)))) := fun v hv => cost_any x v (HX.out.below hv (Nat.le_refl _))
 unfold vPost at HTG HCO
 unfold emV at HCO
 unfold mA emA zS at hv0
 have hz0 := HP0.out.z
 have HKK := HP0.out.k
 unfold mA at HKK
 obtain ⟨x0, x1, x2, xf0, xf1, xf2⟩ := HKK.three
 have lg := HKK.lt
 clear HKK
 have HEE := HP0.out.e
 unfold emA at HEE
 obtain ⟨e0, e1, e2, e3, e4, e5, _⟩ := six HEE
 have le := HEE.lt
 clear HEE
 have HRZ := HP0.out.r
 unfold zS at HRZ
 obtain ⟨r0, r1, r2, rf0, rf1, rf2⟩ := HRZ.three
 have lr := HRZ.lt
 clear HRZ
 unfold vPost mV emV
 clear hl hx
 obtain ⟨E, hE⟩ : ∃ E, E = putE b x.e := ⟨_, rfl⟩
 have HPC := Lib.hid (putE_cases b x.e)
 rw [← hE] at HPC hk ⊢
 clear hE
 rcases HPC.out with ⟨hE, h0⟩ | ⟨hE, h0, h1⟩ | ⟨hE, h0, h1, h2⟩ | ⟨hE, h0, h1, h2, h3⟩ | ⟨hE, h0, h1, h2, h3⟩
 ·subst hE
  rw [decide_eq_false h0] at HKY
  clear HPC h0 hk
  go_enter Tryz.func16, Tryz.ntmps16
  go_upto_region 1 with fail
  rw [← hv0, ← hC]
  clear hv0 hC
  go_wp2_with fail
  refine HKY.out.mono ?_
  rintro q w1 ⟨rfl, rfl⟩
  go_wp2_with fail
  obtain ⟨v9, hv9⟩ : ∃ v9, v9 = put3 w1 (C + 1 + 1) (.int .i64 b) (.int .i64 e) (.slice A l.length c) := ⟨_, rfl⟩
  have HP9 : Hid (Only (fun j => j = C + 1 + 1) w1 v9) := by show Only _ _ _; rw [hv9]; exact put3_only _ _ _ _ _
  have HQ9 : Hid (Blk v9 (C + 1 + 1) #[.int .i64 b, .int .i64 e, .slice A l.length c] 32) := by show Blk _ _ _ _; rw [hv9]; exact put3_blk (by have := HP0.out.r; unfold zS at this; exact this) _ _ _
  unfold put3 at hv9
  rw [← hv9]
  clear hv9
  obtain ⟨s0, s1, s2, _⟩ := HQ9.out.three
  exact bodyPost_ret (v := .tuple #[.agg #[.int .i64 b, .int .i64 e, .slice A l.length c], .slice none 0 0, .int .i64 2]) (by simp [results, Tryz.results16, go_sem, s0, s1, s2]) rfl ⟨rfl, HCB.out _ (HP0.out.b.trans (HP9.out.below (fun j hj => by omega) (by have := HP0.out.z; omega)))⟩
 ·subst hE
  rw [decide_eq_true h0] at HKY
  rw [decide_eq_false h1] at HTG
  clear HPC h0 h1 hk
  go_enter Tryz.func16, Tryz.ntmps16
  go_upto_region 1 with fail
  rw [← hv0, ← hC]
  clear hv0 hC
  go_wp2_with fail
  refine HKY.out.mono ?_
  rintro q w1 ⟨rfl, rfl⟩
  go_wp2_with fail
  refine HTG.out.mono ?_
  rintro q w2 ⟨rfl, hb⟩
  have HP2 := Lib.hid (HP0.out.below hb)
  have HBT := Lib.hid hb
  clear hb
  clear x0 x1 x2 xf0 xf1 xf2 lg e0 e1 e2 e3 e4 e5 le r0 r1 r2 rf0 rf1 rf2 lr
  have HKK := HP2.out.k
  unfold mA at HKK
  obtain ⟨x0, x1, x2, xf0, xf1, xf2⟩ := HKK.three
  have lg := HKK.lt
  clear HKK
  have HEE := HP2.out.e
  unfold emA at HEE
  obtain ⟨e0, e1, e2, e3, e4, e5, _⟩ := six HEE
  have le := HEE.lt
  clear HEE
  have HRZ := HP2.out.r
  unfold zS at HRZ
  obtain ⟨r0, r1, r2, rf0, rf1, rf2⟩ := HRZ.three
  have lr := HRZ.lt
  clear HRZ
  go_wp2_with fail
  obtain ⟨v9, hv9⟩ : ∃ v9, v9 = put3 w2 (C + 1 + 1) (.int .i64 b) (.int .i64 e) (.slice A l.length c) := ⟨_, rfl⟩
  have HP9 : Hid (Only (fun j => j = C + 1 + 1) w2 v9) := by show Only _ _ _; rw [hv9]; exact put3_only _ _ _ _ _
  have HQ9 : Hid (Blk v9 (C + 1 + 1) #[.int .i64 b, .int .i64 e, .slice A l.length c] 32) := by show Blk _ _ _ _; rw [hv9]; exact put3_blk (by have := HP2.out.r; unfold zS at this; exact this) _ _ _
  unfold put3 at hv9
  rw [← hv9]
  clear hv9
  obtain ⟨s0, s1, s2, _⟩ := HQ9.out.three
  exact bodyPost_ret (v := .tuple #[.agg #[.int .i64 b, .int .i64 e, .slice A l.length c], .slice none 0 0, .int .i64 2]) (by simp [results, Tryz.results16, go_sem, s0, s1, s2]) rfl ⟨rfl, HCB.out _ (HP2.out.b.trans (HP9.out.below (fun j hj => by omega) (by have := HP2.out.z; omega)))⟩
 ·subst hE
  rw [decide_eq_true h0] at HKY
  rw [decide_eq_true h1] at HTG
  have g2 : (x.e.v.length : Int) > 65536 := by omega
  clear HPC h0 h1 h2 hk
  go_enter Tryz.func16, Tryz.ntmps16
  go_upto_region 1 with fail
  rw [← hv0, ← hC]
  clear hv0 hC
  go_wp2_with fail
  refine HKY.out.mono ?_
  rintro q w1 ⟨rfl, rfl⟩
  go_wp2_with fail
  refine HTG.out.mono ?_
  rintro q w2 ⟨rfl, hb⟩
  have HP2 := Lib.hid (HP0.out.below hb)
  have HBT := Lib.hid hb
  clear hb
  clear x0 x1 x2 xf0 xf1 xf2 lg e0 e1 e2 e3 e4 e5 le r0 r1 r2 rf0 rf1 rf2 lr
  have HKK := HP2.out.k
  unfold mA at HKK
  obtain ⟨x0, x1, x2, xf0, xf1, xf2⟩ := HKK.three
  have lg := HKK.lt
  clear HKK
  have HEE := HP2.out.e
  unfold emA at HEE
  obtain ⟨e0, e1, e2, e3, e4, e5, _⟩ := six HEE
  have le := HEE.lt
  clear HEE
  have HRZ := HP2.out.r
  unfold zS at HRZ
  obtain ⟨r0, r1, r2, rf0, rf1, rf2⟩ := HRZ.three
  have lr := HRZ.lt
  clear HRZ
  go_wp2_with fail
  obtain ⟨v9, hv9⟩ : ∃ v9, v9 = put3 w2 (C + 1 + 1) (.int .i64 b) (.int .i64 e) (.slice A l.length c) := ⟨_, rfl⟩
  have HP9 : Hid (Only (fun j => j = C + 1 + 1) w2 v9) := by show Only _ _ _; rw [hv9]; exact put3_only _ _ _ _ _
  have HQ9 : Hid (Blk v9 (C + 1 + 1) #[.int .i64 b, .int .i64 e, .slice A l.length c] 32) := by show Blk _ _ _ _; rw [hv9]; exact put3_blk (by have := HP2.out.r; unfold zS at this; exact this) _ _ _
  unfold put3 at hv9
  rw [← hv9]
  clear hv9
  obtain ⟨s0, s1, s2, _⟩ := HQ9.out.three
  exact bodyPost_ret (v := .tuple #[.agg #[.int .i64 b, .int .i64 e, .slice A l.length c], .slice none 0 0, .int .i64 5]) (by simp [results, Tryz.results16, go_sem, s0, s1, s2]) rfl ⟨rfl, HCB.out _ (HP2.out.b.trans (HP9.out.below (fun j hj => by omega) (by have := HP2.out.z; omega)))⟩
 ·subst hE
  obtain ⟨cx, hcx⟩ : ∃ cx : Int, cx = (cost x.e : Int) := ⟨_, rfl⟩
  have HCX := Lib.hid hcx.symm
  rw [← hcx] at h3
  rw [decide_eq_true h0] at HKY
  rw [decide_eq_true h1] at HTG
  have g2 : ¬ (x.e.v.length : Int) > 65536 := by omega
  have g3 : decide (b < cx) = true := by simp; omega
  clear HPC h0 h1 h2 h3 hk hcx
  go_enter Tryz.func16, Tryz.ntmps16
  go_upto_region 1 with fail
  rw [← hv0, ← hC]
  clear hv0 hC
  go_wp2_with fail
  refine HKY.out.mono ?_
  rintro q w1 ⟨rfl, rfl⟩
  go_wp2_with fail
  refine HTG.out.mono ?_
  rintro q w2 ⟨rfl, hb⟩
  have HP2 := Lib.hid (HP0.out.below hb)
  have HBT := Lib.hid hb
  clear hb
  clear x0 x1 x2 xf0 xf1 xf2 lg e0 e1 e2 e3 e4 e5 le r0 r1 r2 rf0 rf1 rf2 lr
  have HKK := HP2.out.k
  unfold mA at HKK
  obtain ⟨x0, x1, x2, xf0, xf1, xf2⟩ := HKK.three
  have lg := HKK.lt
  clear HKK
  have HEE := HP2.out.e
  unfold emA at HEE
  obtain ⟨e0, e1, e2, e3, e4, e5, _⟩ := six HEE
  have le := HEE.lt
  clear HEE
  have HRZ := HP2.out.r
  unfold zS at HRZ
  obtain ⟨r0, r1, r2, rf0, rf1, rf2⟩ := HRZ.three
  have lr := HRZ.lt
  clear HRZ
  have T0 : ∀ v, Below w2.heap.size w2 v → v.cell? ⟨C, 0, none⟩ = some (.int .i64 b) := fun v hv => by have := (HP2.out.below hv).k.cell 0; exact this
  have U0 : ∀ v, Below w2.heap.size w2 v → v.cell? ⟨C + 1, 0, none⟩ = some (.string x.e.k) := fun v hv => by have := (HP2.out.below hv).e.cell 0; exact this
  have U1 : ∀ v, Below w2.heap.size w2 v → v.cell? ⟨C + 1, 1, none⟩ = some (.slice x.A x.e.v.length x.a) := fun v hv => by have := (HP2.out.below hv).e.cell 1; exact this
  have U2 : ∀ v, Below w2.heap.size w2 v → v.cell? ⟨C + 1, 2, none⟩ = some (.slice x.B x.e.t.length x.b) := fun v hv => by have := (HP2.out.below hv).e.cell 2; exact this
  have U3 : ∀ v, Below w2.heap.size w2 v → v.cell? ⟨C + 1, 3, none⟩ = some (.int .u64 x.e.d) := fun v hv => by have := (HP2.out.below hv).e.cell 3; exact this
  have U4 : ∀ v, Below w2.heap.size w2 v → v.cell? ⟨C + 1, 4, none⟩ = some (.int .u64 x.e.n) := fun v hv => by have := (HP2.out.below hv).e.cell 4; exact this
  have U5 : ∀ v, Below w2.heap.size w2 v → v.cell? ⟨C + 1, 5, none⟩ = some (.int .u64 x.e.s) := fun v hv => by have := (HP2.out.below hv).e.cell 5; exact this
  have D1 : Below w2.heap.size w2 w2.drew := (Below.refl _ _).drew
  have HCQ : Hid (∀ v, Below w2.heap.size w2 v → Calls Tryz.prog 24 #[.agg #[.string x.e.k, .slice x.A x.e.v.length x.a, .slice x.B x.e.t.length x.b, .int .u64 x.e.d, .int .u64 x.e.n, .int .u64 x.e.s]] v fun q u => q = .returned (.int .i64 cx) ∧ Below w2.heap.size w2 u) := fun v hv => (HCO.out v (HBT.out.trans (hv.mono HBT.out.size))).mono fun _ _ hp => ⟨by rw [hp.1, HCX.out], bstep hv hp.2⟩
  go_upto_region 5 with fail
  refine wp_region_noPanic ?_
  refine wp_region_held_drew (S := fun v => Below w2.heap.size w2 v) (by kernel_rfl) (D1) (fun hHeld => ?_)
  refine Rg.th 0 (some 26) (v := ?_) rfl (by kernel_rfl) (fun _ _ _ h => h) (by rfl) (by assumption) ?_ ?_
  rotate_left
  ·intro w hSw; go_simp; first | done | with_reducible rfl
  try simp only [Ap.sc]
  refine Rg.th 2 (some 28) (v := ?_) rfl (by kernel_rfl) (fun _ _ _ h => h) (by rfl) (by assumption) ?_ ?_
  rotate_left
  ·intro w hSw; go_simp; first | done | with_reducible rfl
  try simp only [Ap.sc]
  refine Rg.th 3 (some 29) (v := ?_) rfl (by kernel_rfl) (fun _ _ _ h => h) (by rfl) (by assumption) ?_ ?_
  rotate_left
  ·intro w hSw; go_simp; first | done | with_reducible rfl
  try simp only [Ap.sc]
  refine wpAnyH_ready (rs := [1]) (by kernel_rfl) (by simp) ?_
  refine AllReadyH.cons (o := ⟨some 27, _, _, _, _, _⟩) rfl (fun K hK => ?_) AllReadyH.nil
  go_simp
  refine (HCQ.out _ hHeld).mono ?_
  rintro d u3 ⟨rfl, hb⟩
  have K3 := hb
  clear hb
  go_simp
  refine hK.out _ _ (K3) (fun hHeld => ?_)
  clear hK K
  try simp only [Ap.sc]
  refine Rg.th 4 (some 30) (v := ?_) rfl (by kernel_rfl) (fun _ _ _ h => h) (by rfl) (by assumption) ?_ ?_
  rotate_left
  ·intro w hSw; go_simp; first | done | with_reducible rfl
  try simp only [Ap.sc]
  refine wpAnyH_done (by kernel_rfl) ?_ _
  refine NoPanic.normal ?_
  have HP3 := Lib.hid (HP2.out.below hHeld)
  have HB3 := Lib.hid hHeld
  clear hHeld D1 T0 U0 U1 U2 U3 U4 U5
  clear x0 x1 x2 xf0 xf1 xf2 lg e0 e1 e2 e3 e4 e5 le r0 r1 r2 rf0 rf1 rf2 lr
  have HKK := HP3.out.k
  unfold mA at HKK
  obtain ⟨x0, x1, x2, xf0, xf1, xf2⟩ := HKK.three
  have lg := HKK.lt
  clear HKK
  have HEE := HP3.out.e
  unfold emA at HEE
  obtain ⟨e0, e1, e2, e3, e4, e5, _⟩ := six HEE
  have le := HEE.lt
  clear HEE
  have HRZ := HP3.out.r
  unfold zS at HRZ
  obtain ⟨r0, r1, r2, rf0, rf1, rf2⟩ := HRZ.three
  have lr := HRZ.lt
  clear HRZ
  go_wp2_with fail
  obtain ⟨v9, hv9⟩ : ∃ v9, v9 = put3 u3 (C + 1 + 1) (.int .i64 b) (.int .i64 e) (.slice A l.length c) := ⟨_, rfl⟩
  have HP9 : Hid (Only (fun j => j = C + 1 + 1) u3 v9) := by show Only _ _ _; rw [hv9]; exact put3_only _ _ _ _ _
  have HQ9 : Hid (Blk v9 (C + 1 + 1) #[.int .i64 b, .int .i64 e, .slice A l.length c] 32) := by show Blk _ _ _ _; rw [hv9]; exact put3_blk (by have := HP3.out.r; unfold zS at this; exact this) _ _ _
  unfold put3 at hv9
  rw [← hv9]
  clear hv9
  obtain ⟨s0, s1, s2, _⟩ := HQ9.out.three
  exact bodyPost_ret (v := .tuple #[.agg #[.int .i64 b, .int .i64 e, .slice A l.length c], .slice none 0 0, .int .i64 12]) (by simp [results, Tryz.results16, go_sem, s0, s1, s2]) rfl ⟨rfl, HCB.out _ (HP3.out.b.trans (HP9.out.below (fun j hj => by omega) (by have := HP3.out.z; omega)))⟩
 ·exact absurd hE hk
theorem rl_all (h : RL G w A c l) : RL (fun _ => True) w A c l := h.mono (fun _ _ => trivial)
theorem rl_cut (h : RL G w A c l) {k : Nat} (hk : k ≤ l.length) : RL (fun _ => True) w (cutM A 6 k c) (c - k) (l.drop k) := by
 refine ⟨?_, fun _ _ => trivial, fun x hx => (h.e x (List.mem_of_mem_drop hx)).mono (fun _ _ => trivial)⟩
 have := rs_cut h.r hk
 rw [emL_drop] at this
 rw [List.length_drop]
 exact this
theorem owe_lt {B : Nat} {v : World} {y : Em} (h : OwE B v y) (a : Addr) (ha : y.A = some a ∨ y.B = some a) : B ≤ a.block ∧ a.block < v.heap.size := by
 rcases ha with ha | ha
 ·obtain ⟨A', c', e1, hm, _⟩ := Mine.of_own h.v
  injection e1 with e1; subst e1
  have := hm.base ha; exact ⟨this.1, this.2.1⟩
 ·obtain ⟨A', c', e1, hm, _⟩ := Mine.of_own h.t
  injection e1 with e1; subst e1
  have := hm.base ha; exact ⟨this.1, this.2.1⟩
theorem owe_keep {B : Nat} {v v' : World} {y : Em} (h : OwE B v y) {F : Nat → Prop} (ho : Only F v v') (hn : ∀ a, y.A = some a ∨ y.B = some a → ¬ F a.block) : OwE B v' y := by
 refine ⟨h.f, own_keep h.v ho (fun j e => ?_), own_keep h.t ho (fun j e => ?_)⟩
 ·cases hA : y.A with
  | none => rw [hA] at e; cases e
  | some a => rw [hA] at e; cases e; exact hn a (Or.inl hA)
 ·cases hA : y.B with
  | none => rw [hA] at e; cases e
  | some a => rw [hA] at e; cases e; exact hn a (Or.inr hA)
theorem cut_q (q : Addr) (K c : Nat) : cutM (some q) 6 K c = if c = K then some q else some (q.add (K * 6)) := by
 unfold cutM
 split <;> rfl
def putPost (b e : Int) (w : World) (R : List Em) (n : Nat) (x : En) : Ending → World → Prop := fun q w' => ∃ A c D d y, y.e = x ∧ q = .returned (.tuple #[mV b e A (R.drop n ++ [y]).length c, .slice D (R.take n).length d, .int .i64 0]) ∧
 Mine w.heap.size 6 w' A (R.drop n ++ [y]).length c (emL (R.drop n ++ [y])) ∧ Mine w.heap.size 6 w' D (R.take n).length d (emL (R.take n)) ∧ OwE w.heap.size w' y ∧ Below w.heap.size w w'
structure Ps (w v : World) (C : Nat) (b e : Int) (x : Em) (D : Option Addr) (d : Nat) (R : List Em) : Prop where
 p : Pu w v C #[.int .i64 b, .int .i64 e, .slice D R.length d] x
 r : RL (fun _ => True) v D d R
open Classical in
set_option maxRecDepth 100000 in
set_option maxHeartbeats 3000000 in
theorem put_yes (b e : Int) (x : Em) (hl : RL G w A c l) (hx : RE G' w x) (hn : l.length ≤ 1000) (hb1 : 1 ≤ b) (hb2 : b ≤ 1099511627776) (he1 : 1 ≤ e) (he2 : e ≤ 1048576) (hk : putE b x.e = 0) {R : List Em} (hR : R = rest Em.e l x.e.k) {n : Nat} (hN : n = evN b e (cost x.e) (R.map Em.e)) :
  Calls Tryz.prog 16 #[mV b e A l.length c, emV x] w (putPost b e w R n x.e) := by
 obtain ⟨v0, hv0⟩ : ∃ v0, v0 = ((w.alloc (.cells (mA b e A l.length c) 32)).alloc (.cells (emA x) 42)).alloc (.cells zS 32) := ⟨_, rfl⟩
 have HP0 : Hid (Pu w v0 w.heap.size (mA b e A l.length c) x) := by show Pu _ _ _ _ _; rw [hv0]; exact pu_new _ _ _
 obtain ⟨C, hC⟩ : ∃ C, C = w.heap.size := ⟨_, rfl⟩
 rw [← hC] at HP0
 have HCB : Hid (∀ v, Below C w v → Below w.heap.size w v) := fun v h => by rw [← hC]; exact h
 have HCC : Hid (w.heap.size ≤ C) := by show _ ≤ _; omega
 have HX := Lib.hid (hx.below HP0.out.b (by omega))
 have HLW := Lib.hid hl
 have HXW := Lib.hid hx
 have HL := Lib.hid (hl.below HP0.out.b (by omega))
 have hcm := Rs.max hl.r
 have hcl := Rs.le hl.r
 unfold maxLen at hcm
 have hvl := hx.f.v
 have hvm := Rs.max hx.v
 have htm := Rs.max hx.t
 unfold maxLen at hvm htm
 have htl := hx.f.t
 have hbI := hb1; have hbI2 := hb2
 have HKY := Lib.hid (key_any x.e.k v0)
 have HTG := Lib.hid (tags_any x.B x.b x.e.t v0 HX.out.t htl)
 have HCO : Hid (∀ v, Below v0.heap.size v0 v → Calls Tryz.prog 24 #[emV x] v (vPost v (.int .i64 (cost x.e : Int)))) := fun v hv => cost_any x v (HX.out.below hv (Nat.le_refl _))
 unfold vPost at HTG HCO
 unfold emV at HCO
 unfold mA emA zS at hv0
 have hz0 := HP0.out.z
 have HKK := HP0.out.k
 unfold mA at HKK
 obtain ⟨x0, x1, x2, xf0, xf1, xf2⟩ := HKK.three
 have lg := HKK.lt
 clear HKK
 have HEE := HP0.out.e
 unfold emA at HEE
 obtain ⟨e0, e1, e2, e3, e4, e5, _⟩ := six HEE
 have le := HEE.lt
 clear HEE
 have HRZ := HP0.out.r
 unfold zS at HRZ
 obtain ⟨r0, r1, r2, rf0, rf1, rf2⟩ := HRZ.three
 have lr := HRZ.lt
 clear HRZ
 have HRL : Hid (R.length ≤ 1000) := by show _ ≤ _; have := rest_len Em.e l x.e.k; rw [hR]; omega
 have HNL : Hid (n ≤ R.length) := by show _ ≤ _; rw [hN]; have := evN_le b e (cost x.e) (R.map Em.e); rw [List.length_map] at this; exact this
 have HGO : Hid (∀ K, K < n → evQ b e (cost x.e) (R.map Em.e) K) := fun K hK => by rw [hN] at hK; exact evN_go hK
 obtain ⟨h0, h1, h2, h3⟩ : keyOk x.e.k ∧ okT x.e.t ∧ x.e.v.length ≤ 65536 ∧ (cost x.e : Int) ≤ b := by
  rcases putE_cases b x.e with ⟨hE, _⟩ | ⟨hE, _⟩ | ⟨hE, _⟩ | ⟨hE, _⟩ | ⟨_, h0, h1, h2, h3⟩
  ·omega
  ·omega
  ·omega
  ·omega
  ·exact ⟨h0, h1, h2, h3⟩
 have HST : Hid (¬ evQ b e (cost x.e) (R.map Em.e) n) := by show ¬ _; rw [hN]; exact evN_stop he1 h3 _
 obtain ⟨y0, hy0⟩ : ∃ y0, y0 = x.e := ⟨_, rfl⟩
 have HY0 := Lib.hid hy0
 obtain ⟨cx, hcx⟩ : ∃ cx : Int, cx = (cost x.e : Int) := ⟨_, rfl⟩
 have HCX := Lib.hid hcx.symm
 rw [← hcx] at h3 HGO HST
 have hcx0 : 0 ≤ cx := by omega
 have HFD : Hid (fnd Em.e l x.e.k = none → R = l) := fun h => by rw [hR]; unfold rest; rw [h]
 have HFS : Hid (∀ i, fnd Em.e l x.e.k = some i → R = wo l i) := fun i h => by rw [hR]; unfold rest; rw [h]
 rw [decide_eq_true h0] at HKY
 rw [decide_eq_true h1] at HTG
 have g2 : ¬ (x.e.v.length : Int) > 65536 := by omega
 have g3 : decide (b < cx) = false := by simp; omega
 have HH3 := Lib.hid h3
 rw [← hy0]
 unfold putPost mV
 unfold emV
 clear hl hx h0 h1 h2 h3 hk hR hN hcx hy0
 go_enter Tryz.func16, Tryz.ntmps16
 go_upto_region 1 with fail
 rw [← hv0, ← hC]
 clear hv0 hC
 go_wp2_with fail
 refine HKY.out.mono ?_
 rintro q w1 ⟨rfl, rfl⟩
 go_wp2_with fail
 refine HTG.out.mono ?_
 rintro q w2 ⟨rfl, hb⟩
 have HP2 := Lib.hid (HP0.out.below hb)
 have HBT := Lib.hid hb
 clear hb
 clear x0 x1 x2 xf0 xf1 xf2 lg e0 e1 e2 e3 e4 e5 le r0 r1 r2 rf0 rf1 rf2 lr
 have HKK := HP2.out.k
 unfold mA at HKK
 obtain ⟨x0, x1, x2, xf0, xf1, xf2⟩ := HKK.three
 have lg := HKK.lt
 clear HKK
 have HEE := HP2.out.e
 unfold emA at HEE
 obtain ⟨e0, e1, e2, e3, e4, e5, _⟩ := six HEE
 have le := HEE.lt
 clear HEE
 have HRZ := HP2.out.r
 unfold zS at HRZ
 obtain ⟨r0, r1, r2, rf0, rf1, rf2⟩ := HRZ.three
 have lr := HRZ.lt
 clear HRZ
 have T0 : ∀ v, Below w2.heap.size w2 v → v.cell? ⟨C, 0, none⟩ = some (.int .i64 b) := fun v hv => by have := (HP2.out.below hv).k.cell 0; exact this
 have U0 : ∀ v, Below w2.heap.size w2 v → v.cell? ⟨C + 1, 0, none⟩ = some (.string x.e.k) := fun v hv => by have := (HP2.out.below hv).e.cell 0; exact this
 have U1 : ∀ v, Below w2.heap.size w2 v → v.cell? ⟨C + 1, 1, none⟩ = some (.slice x.A x.e.v.length x.a) := fun v hv => by have := (HP2.out.below hv).e.cell 1; exact this
 have U2 : ∀ v, Below w2.heap.size w2 v → v.cell? ⟨C + 1, 2, none⟩ = some (.slice x.B x.e.t.length x.b) := fun v hv => by have := (HP2.out.below hv).e.cell 2; exact this
 have U3 : ∀ v, Below w2.heap.size w2 v → v.cell? ⟨C + 1, 3, none⟩ = some (.int .u64 x.e.d) := fun v hv => by have := (HP2.out.below hv).e.cell 3; exact this
 have U4 : ∀ v, Below w2.heap.size w2 v → v.cell? ⟨C + 1, 4, none⟩ = some (.int .u64 x.e.n) := fun v hv => by have := (HP2.out.below hv).e.cell 4; exact this
 have U5 : ∀ v, Below w2.heap.size w2 v → v.cell? ⟨C + 1, 5, none⟩ = some (.int .u64 x.e.s) := fun v hv => by have := (HP2.out.below hv).e.cell 5; exact this
 have D1 : Below w2.heap.size w2 w2.drew := (Below.refl _ _).drew
 have HCQ : Hid (∀ v, Below w2.heap.size w2 v → Calls Tryz.prog 24 #[.agg #[.string x.e.k, .slice x.A x.e.v.length x.a, .slice x.B x.e.t.length x.b, .int .u64 x.e.d, .int .u64 x.e.n, .int .u64 x.e.s]] v fun q u => q = .returned (.int .i64 cx) ∧ Below w2.heap.size w2 u) := fun v hv => (HCO.out v (HBT.out.trans (hv.mono HBT.out.size))).mono fun _ _ hp => ⟨by rw [hp.1, HCX.out], bstep hv hp.2⟩
 go_upto_region 5 with fail
 refine wp_region_noPanic ?_
 refine wp_region_held_drew (S := fun v => Below w2.heap.size w2 v) (by kernel_rfl) (D1) (fun hHeld => ?_)
 refine Rg.th 0 (some 26) (v := ?_) rfl (by kernel_rfl) (fun _ _ _ h => h) (by rfl) (by assumption) ?_ ?_
 rotate_left
 ·intro w hSw; go_simp; first | done | with_reducible rfl
 try simp only [Ap.sc]
 refine Rg.th 2 (some 28) (v := ?_) rfl (by kernel_rfl) (fun _ _ _ h => h) (by rfl) (by assumption) ?_ ?_
 rotate_left
 ·intro w hSw; go_simp; first | done | with_reducible rfl
 try simp only [Ap.sc]
 refine Rg.th 3 (some 29) (v := ?_) rfl (by kernel_rfl) (fun _ _ _ h => h) (by rfl) (by assumption) ?_ ?_
 rotate_left
 ·intro w hSw; go_simp; first | done | with_reducible rfl
 try simp only [Ap.sc]
 refine wpAnyH_ready (rs := [1]) (by kernel_rfl) (by simp) ?_
 refine AllReadyH.cons (o := ⟨some 27, _, _, _, _, _⟩) rfl (fun K hK => ?_) AllReadyH.nil
 go_simp
 refine (HCQ.out _ hHeld).mono ?_
 rintro d u3 ⟨rfl, hb⟩
 have K3 := hb
 clear hb
 go_simp
 refine hK.out _ _ (K3) (fun hHeld => ?_)
 clear hK K
 try simp only [Ap.sc]
 refine Rg.th 4 (some 30) (v := ?_) rfl (by kernel_rfl) (fun _ _ _ h => h) (by rfl) (by assumption) ?_ ?_
 rotate_left
 ·intro w hSw; go_simp; first | done | with_reducible rfl
 try simp only [Ap.sc]
 refine wpAnyH_done (by kernel_rfl) ?_ _
 refine NoPanic.normal ?_
 have HP3 := Lib.hid (HP2.out.below hHeld)
 have HB3 := Lib.hid hHeld
 clear hHeld D1 T0 U0 U1 U2 U3 U4 U5
 clear x0 x1 x2 xf0 xf1 xf2 lg e0 e1 e2 e3 e4 e5 le r0 r1 r2 rf0 rf1 rf2 lr
 have HKK := HP3.out.k
 unfold mA at HKK
 obtain ⟨x0, x1, x2, xf0, xf1, xf2⟩ := HKK.three
 have lg := HKK.lt
 clear HKK
 have HEE := HP3.out.e
 unfold emA at HEE
 obtain ⟨e0, e1, e2, e3, e4, e5, _⟩ := six HEE
 have le := HEE.lt
 clear HEE
 have HRZ := HP3.out.r
 unfold zS at HRZ
 obtain ⟨r0, r1, r2, rf0, rf1, rf2⟩ := HRZ.three
 have lr := HRZ.lt
 clear HRZ
 have HLL := Lib.hid (HL.out.below (HBT.out.trans (HB3.out.mono HBT.out.size)) (Nat.le_refl _))
 have HF := Lib.hid (find_any A c l x.e.k u3 HLL.out hn)
 have HFL : Hid (∀ i, fnd Em.e l x.e.k = some i → i < l.length) := fun i h => fnd_lt Em.e h
 obtain ⟨fo, hfo⟩ : ∃ fo, fo = fnd Em.e l x.e.k := ⟨_, rfl⟩
 rw [← hfo] at HF HFD HFS HFL
 clear hfo
 cases fo
 case' none =>
  unfold fndI at HF
  simp only at HF
  have hRl := HFD.out rfl
  go_wp2_with fail
  refine HF.out.mono ?_
  rintro q vs ⟨rfl, rfl⟩
  go_upto_region 11 with fail
  have HS : Hid (Ps w vs C b e x A c R) := ⟨by have := HP3.out; unfold mA at this; rw [hRl]; exact this, by rw [hRl]; exact rl_all HLL.out⟩
  have HVS : Hid (Below w1.heap.size w1 vs) := HBT.out.trans (HB3.out.mono HBT.out.size)
  clear hRl HCQ
  clear x0 x1 x2 xf0 xf1 xf2 lg e0 e1 e2 e3 e4 e5 le r0 r1 r2 rf0 rf1 rf2 lr
  generalize A = D at HS
  generalize c = d at HS
 case' some i =>
  unfold fndI at HF
  simp only at HF
  have i0 : (0 : Int) ≤ (i : Int) := by omega
  have hRl := HFS.out i rfl
  have hil := HFL.out i rfl
  have HO := Lib.hid (out_any A c l u3 HLL.out.r hn hil)
  unfold rowPost at HO
  go_wp2_with fail
  refine HF.out.mono ?_
  rintro q w4 ⟨rfl, rfl⟩
  go_wp2_with fail
  refine HO.out.mono ?_
  rintro q w5 ⟨D, d, rfl, m5, b5⟩
  have HM5 := Lib.hid m5
  have HP5 := Lib.hid (HP3.out.below b5)
  have HL5 := Lib.hid (HLL.out.below b5 (Nat.le_refl _))
  have HB5 : Hid (Below w1.heap.size w1 w5) := (HBT.out.trans (HB3.out.mono HBT.out.size)).trans (b5.mono (HBT.out.trans (HB3.out.mono HBT.out.size)).size)
  have hz5 := HP3.out.z
  clear m5 b5 HO
  clear x0 x1 x2 xf0 xf1 xf2 lg e0 e1 e2 e3 e4 e5 le r0 r1 r2 rf0 rf1 rf2 lr
  have HKK := HP5.out.k
  unfold mA at HKK
  obtain ⟨x0, x1, x2, xf0, xf1, xf2⟩ := HKK.three
  have lg := HKK.lt
  clear HKK
  have HEE := HP5.out.e
  unfold emA at HEE
  obtain ⟨e0, e1, e2, e3, e4, e5, _⟩ := six HEE
  have le := HEE.lt
  clear HEE
  have HRZ := HP5.out.r
  unfold zS at HRZ
  obtain ⟨r0, r1, r2, rf0, rf1, rf2⟩ := HRZ.three
  have lr := HRZ.lt
  clear HRZ
  go_upto_region 11 with fail
  obtain ⟨vs, hvs⟩ : ∃ vs, vs = w5.setCell ⟨C, 2, none⟩ (.slice D (wo l i).length d) := ⟨_, rfl⟩
  have HQ : Hid (Only (fun j => j = C) w5 vs) := by show Only _ _ _; rw [hvs]; exact only_own (F := fun j => j = C) rfl _
  have HS : Hid (Ps w vs C b e x D d R) := by
   show Ps _ _ _ _ _ _ _ _ _
   have hz := HP5.out.z; have hq := HQ.out.size
   refine ⟨⟨HP5.out.b.trans (HQ.out.below (fun j hj => by omega) (by omega)), ?_, HP5.out.e.only HQ.out (by omega), HP5.out.r.only HQ.out (by omega), by omega⟩, ?_⟩
   ·rw [hRl, hvs]; exact HP5.out.k.set 2 _
   ·rw [hRl]
    have hm : Mine (C + 3) 6 vs D (wo l i).length d (emL (wo l i)) := (HM5.out.mono hz5).only HQ.out (fun a ha hf => by have := (HM5.out.base ha).1; omega)
    exact ⟨Rs.mine hm, fun _ _ => trivial, fun y hy => ((HLW.out.e y (wo_mem hy)).below (HP5.out.b.trans (HQ.out.below (fun j hj => by omega) (by omega))) HCC.out).mono (fun _ _ => trivial)⟩
  rw [← hvs]
  clear hvs hRl hil HCQ
  clear x0 x1 x2 xf0 xf1 xf2 lg e0 e1 e2 e3 e4 e5 le r0 r1 r2 rf0 rf1 rf2 lr
 all_goals
  have hcb := HH3.out
  have HXS := Lib.hid (HXW.out.below HS.out.p.b HCC.out)
  have HCQ : Hid (∀ v, Below vs.heap.size vs v → Calls Tryz.prog 24 #[.agg #[.string x.e.k, .slice x.A x.e.v.length x.a, .slice x.B x.e.t.length x.b, .int .u64 x.e.d, .int .u64 x.e.n, .int .u64 x.e.s]] v fun q u => q = .returned (.int .i64 cx) ∧ Below v.heap.size v u) := fun v hv => (cost_any x v (HXS.out.below hv (Nat.le_refl _))).mono fun _ _ hp => ⟨by rw [hp.1, HCX.out], hp.2⟩
  clear HP0 HX HL HCO HP2 HBT HP3 HB3 hz0
  cases D
  case none =>
   have hR0 : R = [] := by
    have h1 := HS.out.r.r.non rfl
    have h2 := Rs.le HS.out.r.r
    exact List.eq_nil_of_length_eq_zero (by omega)
   have hd0 : d = 0 := HS.out.r.r.non rfl
   have hn0 : n = 0 := by have := HNL.out; rw [hR0] at this; simpa using this
   subst hR0; subst hd0; subst hn0
   go_loopw [8] (fun s wr => s = .int .i64 0 ∧ Below vs.heap.size vs wr) (fun _ _ => 0)
   case atStart => exact ⟨rfl, Below.refl _ _⟩
   case round =>
    obtain ⟨rfl, hb⟩ := hrel
    have HBW := Lib.hid hb
    have HPr := Lib.hid (HS.out.p.below hb)
    have HRr := Lib.hid (HS.out.r.below hb (Nat.le_refl _))
    have D1 : Below wr.heap.size wr wr.drew := (Below.refl _ _).drew
    clear hb
    have T0 : ∀ v, Below wr.heap.size wr v → v.cell? ⟨C, 0, none⟩ = some (.int .i64 b) := fun v hv => by have := (HPr.out.below hv).k.cell 0; exact this
    have T1 : ∀ v, Below wr.heap.size wr v → v.cell? ⟨C, 1, none⟩ = some (.int .i64 e) := fun v hv => by have := (HPr.out.below hv).k.cell 1; exact this
    have T2 : ∀ v, Below wr.heap.size wr v → v.cell? ⟨C, 2, none⟩ = some (.slice none 0 0) := fun v hv => by have := (HPr.out.below hv).k.cell 2; exact this
    have U0 : ∀ v, Below wr.heap.size wr v → v.cell? ⟨C + 1, 0, none⟩ = some (.string x.e.k) := fun v hv => by have := (HPr.out.below hv).e.cell 0; exact this
    have U1 : ∀ v, Below wr.heap.size wr v → v.cell? ⟨C + 1, 1, none⟩ = some (.slice x.A x.e.v.length x.a) := fun v hv => by have := (HPr.out.below hv).e.cell 1; exact this
    have U2 : ∀ v, Below wr.heap.size wr v → v.cell? ⟨C + 1, 2, none⟩ = some (.slice x.B x.e.t.length x.b) := fun v hv => by have := (HPr.out.below hv).e.cell 2; exact this
    have U3 : ∀ v, Below wr.heap.size wr v → v.cell? ⟨C + 1, 3, none⟩ = some (.int .u64 x.e.d) := fun v hv => by have := (HPr.out.below hv).e.cell 3; exact this
    have U4 : ∀ v, Below wr.heap.size wr v → v.cell? ⟨C + 1, 4, none⟩ = some (.int .u64 x.e.n) := fun v hv => by have := (HPr.out.below hv).e.cell 4; exact this
    have U5 : ∀ v, Below wr.heap.size wr v → v.cell? ⟨C + 1, 5, none⟩ = some (.int .u64 x.e.s) := fun v hv => by have := (HPr.out.below hv).e.cell 5; exact this
    have HCR : Hid (∀ v, Below wr.heap.size wr v → Calls Tryz.prog 24 #[.agg #[.string x.e.k, .slice x.A x.e.v.length x.a, .slice x.B x.e.t.length x.b, .int .u64 x.e.d, .int .u64 x.e.n, .int .u64 x.e.s]] v fun q u => q = .returned (.int .i64 cx) ∧ Below wr.heap.size wr u) := fun v hv => (HCQ.out v (HBW.out.trans (hv.mono HBW.out.size))).mono fun _ _ hp => ⟨hp.1, bstep hv hp.2⟩
    have HUR : Hid (∀ v, Below wr.heap.size wr v → Calls Tryz.prog 39 #[.slice none 0 0] v fun q u => q = .returned (.int .i64 0) ∧ Below wr.heap.size wr u) := fun v hv => (used_any (G := G) none 0 [] v RL.nil (by simp)).mono fun _ _ hp => ⟨hp.1, bstep hv hp.2⟩
    have d1 : decide (e < (0 : Int) - 0 + 1) = false := by simp; omega
    have d1b : decide (e < (1 : Int)) = false := by simp; omega
    have d2 : decide (b < (0 : Int) + cx) = false := by simp; omega
    have d2b : decide (b < cx) = false := g3
    have q3 : IntKind.i64.wrap ((0 : Int) + cx) = cx := by rw [IntKind.wrap_i64]; omega
    have q4 : IntKind.i64.wrap cx = cx := by rw [IntKind.wrap_i64]; omega
    have q5 : IntKind.i64.wrap (0 : Int) = 0 := by decide
    have q6 : IntKind.i64.wrap (1 : Int) = 1 := by decide
    go_wp2_with fail
    refine wp_region_noPanic ?_
    refine wp_region_held_drew (S := fun v => Below wr.heap.size wr v) (by kernel_rfl) (D1) (fun hHeld => ?_)
    refine Rg.th 0 (some 44) (v := ?_) rfl (by kernel_rfl) (fun _ _ _ h => h) (by rfl) (by assumption) ?_ ?_
    rotate_left
    ·intro w hSw; go_simp; first | done | with_reducible rfl
    try simp only [Ap.sc]
    refine Rg.th 1 (some 45) (v := ?_) rfl (by kernel_rfl) (fun _ _ _ h => h) (by rfl) (by assumption) ?_ ?_
    rotate_left
    ·intro w hSw; go_simp; first | done | with_reducible rfl
    try simp only [Ap.sc]
    refine Rg.th 2 (some 46) (v := ?_) rfl (by kernel_rfl) (fun _ _ _ h => h) (by rfl) (by assumption) ?_ ?_
    rotate_left
    ·intro w hSw; go_simp; first | done | with_reducible rfl
    try simp only [Ap.sc]
    refine Rg.th 3 (some 47) (v := ?_) rfl (by kernel_rfl) (fun _ _ _ h => h) (by rfl) (by assumption) ?_ ?_
    rotate_left
    ·intro w hSw; go_simp; first | done | with_reducible rfl
    try simp only [Ap.sc]
    refine Rg.th 4 (some 48) (v := ?_) rfl (by kernel_rfl) (fun _ _ _ h => h) (by rfl) (by assumption) ?_ ?_
    rotate_left
    ·intro w hSw; go_simp; first | done | with_reducible rfl
    try simp only [Ap.sc]
    refine Rg.th 5 (some 49) (v := ?_) rfl (by kernel_rfl) (fun _ _ _ h => h) (by rfl) (by assumption) ?_ ?_
    rotate_left
    ·intro w hSw; go_simp; first | done | with_reducible rfl
    try simp only [Ap.sc]
    refine Rg.th 6 (some 50) (v := ?_) rfl (by kernel_rfl) (fun _ _ _ h => h) (by rfl) (by assumption) ?_ ?_
    rotate_left
    ·intro w hSw; go_simp; first | done | with_reducible rfl
    try simp only [Ap.sc]
    refine Rg.th 7 (some 51) (v := ?_) rfl (by kernel_rfl) (fun _ _ _ h => h) (by rfl) (by assumption) ?_ ?_
    rotate_left
    ·intro w hSw; go_simp; first | done | with_reducible rfl
    try simp only [Ap.sc]
    refine Rg.th 8 (some 52) (v := ?_) rfl (by kernel_rfl) (fun _ _ _ h => h) (by rfl) (by assumption) ?_ ?_
    rotate_left
    ·intro w hSw; go_simp; first | done | with_reducible rfl
    try simp only [Ap.sc]
    refine Rg.th 9 (some 53) (v := ?_) rfl (by kernel_rfl) (fun _ _ _ h => h) (by rfl) (by assumption) ?_ ?_
    rotate_left
    ·intro w hSw; go_simp; first | done | with_reducible rfl
    try simp only [Ap.sc]
    refine Rg.th 10 (some 54) (v := ?_) rfl (by kernel_rfl) (fun _ _ _ h => h) (by rfl) (by assumption) ?_ ?_
    rotate_left
    ·intro w hSw; go_simp; first | done | with_reducible rfl
    try simp only [Ap.sc]
    refine Rg.th 11 (some 55) (v := ?_) rfl (by kernel_rfl) (fun _ _ _ h => h) (by rfl) (by assumption) ?_ ?_
    rotate_left
    ·intro w hSw; go_simp; first | done | with_reducible rfl
    try simp only [Ap.sc]
    refine Rg.th 12 (some 56) (v := ?_) rfl (by kernel_rfl) (fun _ _ _ h => h) (by rfl) (by assumption) ?_ ?_
    rotate_left
    ·intro w hSw; go_simp; first | done | with_reducible rfl
    try simp only [Ap.sc]
    refine Rg.th 13 (some 57) (v := ?_) rfl (by kernel_rfl) (fun _ _ _ h => h) (by rfl) (by assumption) ?_ ?_
    rotate_left
    ·intro w hSw; go_simp; first | done | with_reducible rfl
    try simp only [Ap.sc]
    refine Rg.th 15 (some 59) (v := ?_) rfl (by kernel_rfl) (fun _ _ _ h => h) (by rfl) (by assumption) ?_ ?_
    rotate_left
    ·intro w hSw; go_simp; first | done | with_reducible rfl
    try simp only [Ap.sc]
    refine Rg.th 18 (some 62) (v := ?_) rfl (by kernel_rfl) (fun _ _ _ h => h) (by rfl) (by assumption) ?_ ?_
    rotate_left
    ·intro w hSw; go_simp; first | done | with_reducible rfl
    try simp only [Ap.sc]
    refine Rg.th 19 (some 63) (v := ?_) rfl (by kernel_rfl) (fun _ _ _ h => h) (by rfl) (by assumption) ?_ ?_
    rotate_left
    ·intro w hSw; go_simp; first | done | with_reducible rfl
    try simp only [Ap.sc]
    refine wpAnyH_ready (rs := [14]) (by kernel_rfl) (by simp) ?_
    refine AllReadyH.cons (o := ⟨some 58, _, _, _, _, _⟩) rfl (fun K hK => ?_) AllReadyH.nil
    go_simp
    with_reducible refine (HUR.out _ hHeld).mono ?_
    rintro d3 u3 ⟨rfl, hb⟩
    have K3 := hb
    clear hb
    go_simp
    refine hK.out _ _ (K3) (fun hHeld => ?_)
    clear hK K
    try simp only [Ap.sc]
    refine wpAnyH_ready (rs := [16]) (by kernel_rfl) (by simp) ?_
    refine AllReadyH.cons (o := ⟨some 60, _, _, _, _, _⟩) rfl (fun K hK => ?_) AllReadyH.nil
    go_simp
    with_reducible refine (HCR.out _ hHeld).mono ?_
    rintro d4 u4 ⟨rfl, hb⟩
    have K4 := hb
    clear hb
    go_simp
    refine hK.out _ _ (K4) (fun hHeld => ?_)
    clear hK K
    try simp only [Ap.sc]
    refine Rg.th 17 (some 61) (v := ?_) rfl (by kernel_rfl) (fun _ _ _ h => h) (by rfl) (by assumption) ?_ ?_
    rotate_left
    ·intro w hSw; go_simp; first | done | with_reducible rfl
    try simp only [Ap.sc]
    refine Rg.th 20 (some 64) (v := ?_) rfl (by kernel_rfl) (fun _ _ _ h => h) (by rfl) (by assumption) ?_ ?_
    rotate_left
    ·intro w hSw; go_simp; first | done | with_reducible rfl
    try simp only [Ap.sc]
    refine Rg.th 21 (some 65) (v := ?_) rfl (by kernel_rfl) (fun _ _ _ h => h) (by rfl) (by assumption) ?_ ?_
    rotate_left
    ·intro w hSw; go_simp; first | done | with_reducible rfl
    try simp only [Ap.sc]
    refine wpAnyH_done (by kernel_rfl) ?_ _
    refine NoPanic.normal ?_
    obtain ⟨we, hwe⟩ : ∃ we, we = u4 := ⟨_, rfl⟩
    rw [← hwe] at hHeld ⊢
    clear hwe
    have HPe := Lib.hid (HPr.out.below hHeld)
    have HRe := Lib.hid (HRr.out.below hHeld (Nat.le_refl _))
    have HBE : Hid (Below vs.heap.size vs we) := HBW.out.trans (hHeld.mono HBW.out.size)
    clear hHeld D1 HCR HUR T0 T1 T2 U0 U1 U2 U3 U4 U5
    have HKK := HPe.out.k
    obtain ⟨x0, x1, x2, xf0, xf1, xf2⟩ := HKK.three
    have lg := HKK.lt
    clear HKK
    have HEE := HPe.out.e
    unfold emA at HEE
    obtain ⟨e0, e1, e2, e3, e4, e5, _⟩ := six HEE
    have le := HEE.lt
    clear HEE
    have HRZ := HPe.out.r
    unfold zS at HRZ
    obtain ⟨r0, r1, r2, rf0, rf1, rf2⟩ := HRZ.three
    have lr := HRZ.lt
    clear HRZ
    have S13 := Lib.hid (pre_src HRe.out.r (k := 0) (by simp))
    rw [List.take_nil] at S13
    go_upto_region 13 with fail
    go_upto_region 14 with (at_builtin; (refine wpList_mine rfl _ _ elE _ rfl rfl (Mine.nil we.heap.size 6 we) _ rfl 0 _ S13.out (by omega) (by omega) (Nat.le_refl _) ?_); intro D7 d7 w7 m7 g7 _)
    try simp only [Nat.zero_add]
    have B7 : Hid (Below we.heap.size we w7) := fresh (by exact g7)
    have M7 : Hid (Mine we.heap.size 6 w7 D7 0 d7 (emL ([]))) := by show Mine _ _ _ _ _ _ _; rw [Nat.zero_add, List.nil_append] at m7; exact m7
    have HP7 := Lib.hid (HPe.out.below B7.out)
    have HR7 := Lib.hid (HRe.out.below B7.out (Nat.le_refl _))
    have HB7 : Hid (Below vs.heap.size vs w7) := HBE.out.trans (B7.out.mono HBE.out.size)
    clear m7 g7 S13 x0 x1 x2 xf0 xf1 xf2 lg e0 e1 e2 e3 e4 e5 le r0 r1 r2 rf0 rf1 rf2 lr
    have D7B : Below w7.heap.size w7 w7.drew := (Below.refl _ _).drew
    have T0 : ∀ v, Below w7.heap.size w7 v → v.cell? ⟨C, 0, none⟩ = some (.int .i64 b) := fun v hv => by have := (HP7.out.below hv).k.cell 0; exact this
    have T1 : ∀ v, Below w7.heap.size w7 v → v.cell? ⟨C, 1, none⟩ = some (.int .i64 e) := fun v hv => by have := (HP7.out.below hv).k.cell 1; exact this
    have T2 : ∀ v, Below w7.heap.size w7 v → v.cell? ⟨C, 2, none⟩ = some (.slice none 0 0) := fun v hv => by have := (HP7.out.below hv).k.cell 2; exact this
    have U0 : ∀ v, Below w7.heap.size w7 v → v.cell? ⟨C + 1, 0, none⟩ = some (.string x.e.k) := fun v hv => by have := (HP7.out.below hv).e.cell 0; exact this
    have U1 : ∀ v, Below w7.heap.size w7 v → v.cell? ⟨C + 1, 1, none⟩ = some (.slice x.A x.e.v.length x.a) := fun v hv => by have := (HP7.out.below hv).e.cell 1; exact this
    have U2 : ∀ v, Below w7.heap.size w7 v → v.cell? ⟨C + 1, 2, none⟩ = some (.slice x.B x.e.t.length x.b) := fun v hv => by have := (HP7.out.below hv).e.cell 2; exact this
    have U3 : ∀ v, Below w7.heap.size w7 v → v.cell? ⟨C + 1, 3, none⟩ = some (.int .u64 x.e.d) := fun v hv => by have := (HP7.out.below hv).e.cell 3; exact this
    have U4 : ∀ v, Below w7.heap.size w7 v → v.cell? ⟨C + 1, 4, none⟩ = some (.int .u64 x.e.n) := fun v hv => by have := (HP7.out.below hv).e.cell 4; exact this
    have U5 : ∀ v, Below w7.heap.size w7 v → v.cell? ⟨C + 1, 5, none⟩ = some (.int .u64 x.e.s) := fun v hv => by have := (HP7.out.below hv).e.cell 5; exact this
    have S14 : Hid (∀ v, Below w7.heap.size w7 v → Src Tryz.prog 6 30 (.slice none 0 0) 0 (emL ([])) v) := fun v hv => by
     exact Src.ofNil _ Tryz.underlying30 0
    have HCP : Hid (∀ v, Below w7.heap.size w7 v → Calls Tryz.prog 49 #[.agg #[.string x.e.k, .slice x.A x.e.v.length x.a, .slice x.B x.e.t.length x.b, .int .u64 x.e.d, .int .u64 x.e.n, .int .u64 x.e.s]] v (copyPost v x.e)) := fun v hv => copy_any x v ((HXS.out.below HB7.out (Nat.le_refl _)).below hv (Nat.le_refl _))
    unfold copyPost at HCP
    have hz7 := HP7.out.z
    refine wp_region_noPanic ?_
    refine wp_region_G 10 (fun v => Below w7.heap.size w7 v) (by kernel_rfl) ?_
    refine Rg.tg 0 (some 73) (v := ?_) rfl (by kernel_rfl) (fun _ _ _ h => h) (by rfl) (D7B) ?_ ?_
    rotate_left
    ·intro w hSw; go_simp; first | done | with_reducible rfl
    try simp only [Ap.sc]
    refine Rg.tg 1 (some 74) (v := ?_) rfl (by kernel_rfl) (fun _ _ _ h => h) (by rfl) (D7B) ?_ ?_
    rotate_left
    ·intro w hSw; go_simp; first | done | with_reducible rfl
    try simp only [Ap.sc]
    refine Rg.tg 2 (some 75) (v := ?_) rfl (by kernel_rfl) (fun _ _ _ h => h) (by rfl) (D7B) ?_ ?_
    rotate_left
    ·intro w hSw; go_simp; first | done | with_reducible rfl
    try simp only [Ap.sc]
    refine Rg.tg 3 (some 76) (v := ?_) rfl (by kernel_rfl) (fun _ _ _ h => h) (by rfl) (D7B) ?_ ?_
    rotate_left
    ·intro w hSw; go_simp; first | done | with_reducible rfl
    try simp only [Ap.sc]
    refine Rg.tg 5 (some 78) (v := ?_) rfl (by kernel_rfl) (fun _ _ _ h => h) (by rfl) (D7B) ?_ ?_
    rotate_left
    ·intro w hSw; go_simp; first | done | with_reducible rfl
    try simp only [Ap.sc]
    refine wpAnyG_ready (rs := [4]) (by kernel_rfl) (by simp) ?_
    refine AllReadyG.cons (o := ⟨some 77, _, _, _, _, _⟩) rfl (fun K hK => ?_) AllReadyG.nil
    have hzw : w7.heap.size ≤ w7.drew.heap.size := D7B.size
    refine step_mine (by kernel_rfl) _ _ elE _ rfl rfl (Mine.nil w7.heap.size 6 w7.drew) _ rfl 0 _ (S14.out _ D7B) (by omega) (by omega) hzw ?_
    intro A8 c8 w8 m8 g8 q8
    have M8 : Hid (Mine w7.heap.size 6 w8 A8 0 c8 (emL ([]))) := by show Mine _ _ _ _ _ _ _; rw [Nat.zero_add, List.nil_append] at m8; exact m8
    have K8 : Below w7.heap.size w7 w8 := D7B.trans ((fresh (by exact g8)).mono hzw)
    have Q8 : Hid (∀ a, A8 = some a → w7.drew.heap.size ≤ a.block) := fun a ha => by rcases q8 with q | q; rw [q] at ha; cases ha; exact q a ha
    try simp only [Nat.zero_add]
    clear m8 g8 q8
    refine hK.out _ _ (fun _ => K8) ?_
    clear hK K
    try simp only [Ap.sc]
    refine wpAnyG_ready (rs := [6]) (by kernel_rfl) (by simp) ?_
    refine AllReadyG.cons (o := ⟨some 79, _, _, _, _, _⟩) rfl (fun K hK => ?_) AllReadyG.nil
    go_simp
    with_reducible refine (HCP.out _ K8).mono ?_
    rintro dd u6 ⟨y, hye, rfl, oy, hb⟩
    have HYE := Lib.hid hye
    have OY := Lib.hid oy
    have K6 : Below w7.heap.size w7 u6 := bstep K8 hb
    have M86 := Lib.hid (M8.out.below hb (Nat.le_refl _))
    have OB : Hid (w7.heap.size ≤ w8.heap.size) := K8.size
    unfold emV
    clear hye oy hb
    go_simp
    refine hK.out _ _ (fun _ => K6) ?_
    clear hK K
    try simp only [Ap.sc]
    refine wpAnyG_ready (rs := [7]) (by kernel_rfl) (by simp) ?_
    refine AllReadyG.cons (o := ⟨some 80, _, _, _, _, _⟩) rfl (fun K hK => ?_) AllReadyG.nil
    go_simp
    have KA : Below w7.heap.size w7 (u6.alloc (.cells (emA y) 42)) := K6.trans ((bnew _ _).mono K6.size)
    unfold emA at KA
    refine hK.out _ _ (fun _ => KA) ?_
    clear hK K
    try simp only [Ap.sc]
    refine wpAnyG_ready (rs := [8]) (by kernel_rfl) (by simp) ?_
    refine AllReadyG.cons (o := ⟨some 81, _, _, _, _, _⟩) rfl (fun K hK => ?_) AllReadyG.nil
    have hzw9 : w7.heap.size ≤ (u6.alloc (.cells #[.string y.e.k, .slice y.A y.e.v.length y.a, .slice y.B y.e.t.length y.b, .int .u64 y.e.d, .int .u64 y.e.n, .int .u64 y.e.s] 42)).heap.size := KA.size
    refine step_mine (by kernel_rfl) _ _ elE _ rfl rfl (M86.out.below (bnew u6 (.cells #[.string y.e.k, .slice y.A y.e.v.length y.a, .slice y.B y.e.t.length y.b, .int .u64 y.e.d, .int .u64 y.e.n, .int .u64 y.e.s] 42)) (Nat.le_refl _)) _ rfl 1 _ (src_one u6 y) (by omega) (by omega) hzw9 ?_
    intro A9 c9 w9 m9 g9 q9
    obtain ⟨NL, hNL⟩ : ∃ NL, NL = ([] : List Em) ++ [y] := ⟨_, rfl⟩
    have HNL2 := Lib.hid hNL
    have HL9 : Hid (0 + 1 = NL.length) := by show _ = _; rw [hNL]; simp
    clear hNL
    have M9 : Hid (Mine w7.heap.size 6 w9 A9 NL.length c9 (emL NL)) := by show Mine _ _ _ _ _ _ _; rw [← HL9.out, HNL2.out, emL_append, emL_one]; exact m9
    have K9 : Below w7.heap.size w7 w9 := KA.trans ((only_row (F := fun j => w7.heap.size ≤ j) g9 (fun a ha => (M86.out.base ha).1)).below (fun _ h => h) hzw9)
    have OY9 : Hid (OwE w7.heap.size w9 y) := owe_keep ((OY.out.base (OB.out)).below (bnew _ _)) (only_row (F := fun j => ∃ a, A8 = some a ∧ a.block = j) g9 (fun a ha => ⟨a, ha, rfl⟩)) (fun a ha => by
     rintro ⟨a8, h8, e8⟩
     have h1 := owe_lt OY.out a ha
     have h2 := (M8.out.base h8).2.1
     omega)
    rw [HL9.out]
    clear m9 g9 q9
    refine hK.out _ _ (fun _ => K9) ?_
    clear hK K
    try simp only [Ap.sc]
    refine Rg.tg 9 (some 82) (v := ?_) rfl (by kernel_rfl) (fun _ _ _ h => h) (by rfl) (K9) ?_ ?_
    rotate_left
    ·intro w hSw; go_simp; first | done | with_reducible rfl
    try simp only [Ap.sc]
    refine wpAnyG_ready (rs := [10]) (by kernel_rfl) (by simp) ?_
    refine AllReadyG.cons (o := ⟨none, _, _, _, _, _⟩) rfl (fun K hK => ?_) AllReadyG.nil
    have HP9 := Lib.hid (HP7.out.below K9)
    obtain ⟨x0, x1, x2, xf0, xf1, xf2⟩ := HP9.out.k.three
    have lg := HP9.out.k.lt
    go_simp
    obtain ⟨va, hva⟩ : ∃ va, va = w9.setCell ⟨C, 2, none⟩ (.slice A9 NL.length c9) := ⟨_, rfl⟩
    have HQA : Hid (Only (fun j => j = C) w9 va) := by show Only _ _ _; rw [hva]; exact only_own (F := fun j => j = C) rfl _
    have HKA : Hid (Blk va C #[.int .i64 b, .int .i64 e, .slice A9 NL.length c9] 32) := by show Blk _ _ _ _; rw [hva]; exact HP9.out.k.set 2 _
    have HRA := Lib.hid (HP9.out.r.only HQA.out (by omega))
    have MA := Lib.hid (M9.out.only HQA.out (fun a ha hf => by have := (M9.out.base ha).1; omega))
    have MD := Lib.hid ((M7.out.below K9 (Nat.le_refl _)).only HQA.out (fun a ha hf => by have := (M7.out.base ha).1; have := HPe.out.z; omega))
    have OA : Hid (OwE w7.heap.size va y) := owe_keep OY9.out HQA.out (fun a ha hf => by have := (owe_lt OY9.out a ha).1; omega)
    have BA : Hid (Below C w va) := HP9.out.b.trans (HQA.out.below (fun j hj => by omega) (by have := HP9.out.z; omega))
    rw [← hva]
    clear hva x0 x1 x2 xf0 xf1 xf2 lg T0 T1 T2 U0 U1 U2 U3 U4 U5
    refine hK.out _ _ (fun h => absurd h (by omega)) ?_
    clear hK K
    try simp only [Ap.sc]
    refine wpAnyG_done (by kernel_rfl) ?_ _
    refine NoPanic.normal ?_
    obtain ⟨x0, x1, x2, _, _, _⟩ := HKA.out.three
    have lg := HKA.out.lt
    have HRZ := HRA.out
    unfold zS at HRZ
    obtain ⟨r0, r1, r2, rf0, rf1, rf2⟩ := HRZ.three
    have lr := HRZ.lt
    clear HRZ
    go_wp2_with fail
    obtain ⟨v9, hv9⟩ : ∃ v9, v9 = put3 va (C + 1 + 1) (.int .i64 b) (.int .i64 e) (.slice A9 NL.length c9) := ⟨_, rfl⟩
    have HP9x : Hid (Only (fun j => j = C + 1 + 1) va v9) := by show Only _ _ _; rw [hv9]; exact put3_only _ _ _ _ _
    have HQ9 : Hid (Blk v9 (C + 1 + 1) #[.int .i64 b, .int .i64 e, .slice A9 NL.length c9] 32) := by show Blk _ _ _ _; rw [hv9]; exact put3_blk (by have := HRA.out; unfold zS at this; exact this) _ _ _
    unfold put3 at hv9
    rw [← hv9]
    clear hv9
    obtain ⟨s0, s1, s2, _⟩ := HQ9.out.three
    refine bodyPost_ret (v := .tuple #[.agg #[.int .i64 b, .int .i64 e, .slice A9 NL.length c9], .slice D7 0 d7, .int .i64 0]) (by simp [results, Tryz.results16, go_sem, s0, s1, s2]) rfl ?_
    have hz9 := HP7.out.z
    have hzc := HCC.out
    have hze := HPe.out.z
    refine ⟨A9, c9, D7, d7, y, HYE.out.trans HY0.out.symm, by rw [HNL2.out]; rfl, ?_, ?_, ?_, ?_⟩
    ·have h1 := (MA.out.only HP9x.out (fun a ha hf => by have := (MA.out.base ha).1; omega)).mono (B' := w.heap.size) (by omega)
     rw [HNL2.out] at h1
     exact h1
    ·have h1 := (MD.out.only HP9x.out (fun a ha hf => by have := (MD.out.base ha).1; omega)).mono (B' := w.heap.size) (by omega)
     exact h1
    ·exact (owe_keep OA.out HP9x.out (fun a ha hf => by have := (owe_lt OA.out a ha).1; omega)).base (by omega)
    ·exact HCB.out _ (BA.out.trans (HP9x.out.below (fun j hj => by omega) (by have := HRA.out.lt; omega)))
  case some q =>
   go_loopw [8] (fun s wr => ∃ K : Nat, K ≤ n ∧ s = .int .i64 (K : Int) ∧ Below vs.heap.size vs wr) (fun s _ => n - (intOf s).toNat)
   case atStart => exact ⟨0, Nat.zero_le _, rfl, Below.refl _ _⟩
   case round =>
    obtain ⟨K, hK, rfl, hb⟩ := hrel
    have HBW := Lib.hid hb
    have HPr := Lib.hid (HS.out.p.below hb)
    have HRr := Lib.hid (HS.out.r.below hb (Nat.le_refl _))
    have D1 : Below wr.heap.size wr wr.drew := (Below.refl _ _).drew
    clear hb
    have hKR : K ≤ R.length := by have := HNL.out; omega
    have hRl := HRL.out
    have T0 : ∀ v, Below wr.heap.size wr v → v.cell? ⟨C, 0, none⟩ = some (.int .i64 b) := fun v hv => by have := (HPr.out.below hv).k.cell 0; exact this
    have T1 : ∀ v, Below wr.heap.size wr v → v.cell? ⟨C, 1, none⟩ = some (.int .i64 e) := fun v hv => by have := (HPr.out.below hv).k.cell 1; exact this
    have T2 : ∀ v, Below wr.heap.size wr v → v.cell? ⟨C, 2, none⟩ = some (.slice (some q) R.length d) := fun v hv => by have := (HPr.out.below hv).k.cell 2; exact this
    have U0 : ∀ v, Below wr.heap.size wr v → v.cell? ⟨C + 1, 0, none⟩ = some (.string x.e.k) := fun v hv => by have := (HPr.out.below hv).e.cell 0; exact this
    have U1 : ∀ v, Below wr.heap.size wr v → v.cell? ⟨C + 1, 1, none⟩ = some (.slice x.A x.e.v.length x.a) := fun v hv => by have := (HPr.out.below hv).e.cell 1; exact this
    have U2 : ∀ v, Below wr.heap.size wr v → v.cell? ⟨C + 1, 2, none⟩ = some (.slice x.B x.e.t.length x.b) := fun v hv => by have := (HPr.out.below hv).e.cell 2; exact this
    have U3 : ∀ v, Below wr.heap.size wr v → v.cell? ⟨C + 1, 3, none⟩ = some (.int .u64 x.e.d) := fun v hv => by have := (HPr.out.below hv).e.cell 3; exact this
    have U4 : ∀ v, Below wr.heap.size wr v → v.cell? ⟨C + 1, 4, none⟩ = some (.int .u64 x.e.n) := fun v hv => by have := (HPr.out.below hv).e.cell 4; exact this
    have U5 : ∀ v, Below wr.heap.size wr v → v.cell? ⟨C + 1, 5, none⟩ = some (.int .u64 x.e.s) := fun v hv => by have := (HPr.out.below hv).e.cell 5; exact this
    have HCR : Hid (∀ v, Below wr.heap.size wr v → Calls Tryz.prog 24 #[.agg #[.string x.e.k, .slice x.A x.e.v.length x.a, .slice x.B x.e.t.length x.b, .int .u64 x.e.d, .int .u64 x.e.n, .int .u64 x.e.s]] v fun q u => q = .returned (.int .i64 cx) ∧ Below wr.heap.size wr u) := fun v hv => (HCQ.out v (HBW.out.trans (hv.mono HBW.out.size))).mono fun _ _ hp => ⟨hp.1, bstep hv hp.2⟩
    by_cases hg : e < (R.length : Int) - (K : Int) + 1
    ·have hlt : K < n := by
      rcases Nat.lt_or_ge K n with h | h
      ·exact h
      ·exfalso; apply HST.out; left; rw [List.length_map]; omega
     have d1 : decide (e < (R.length : Int) - (K : Int) + 1) = true := by simp; omega
     have q1 : IntKind.i64.wrap ((R.length : Int) - (K : Int)) = (R.length : Int) - (K : Int) := by rw [IntKind.wrap_i64]; omega
     have q2 : IntKind.i64.wrap ((R.length : Int) - (K : Int) + 1) = (R.length : Int) - (K : Int) + 1 := by rw [IntKind.wrap_i64]; omega
     clear hg
     go_wp2_with fail
     refine wp_region_noPanic ?_
     refine wp_region_held_drew (S := fun v => Below wr.heap.size wr v) (by kernel_rfl) (D1) (fun hHeld => ?_)
     refine Rg.th 0 (some 44) (v := ?_) rfl (by kernel_rfl) (fun _ _ _ h => h) (by rfl) (by assumption) ?_ ?_
     rotate_left
     ·intro w hSw; go_simp; first | done | with_reducible rfl
     try simp only [Ap.sc]
     refine Rg.th 1 (some 45) (v := ?_) rfl (by kernel_rfl) (fun _ _ _ h => h) (by rfl) (by assumption) ?_ ?_
     rotate_left
     ·intro w hSw; go_simp; first | done | with_reducible rfl
     try simp only [Ap.sc]
     refine Rg.th 2 (some 46) (v := ?_) rfl (by kernel_rfl) (fun _ _ _ h => h) (by rfl) (by assumption) ?_ ?_
     rotate_left
     ·intro w hSw; go_simp; first | done | with_reducible rfl
     try simp only [Ap.sc]
     refine Rg.th 3 (some 47) (v := ?_) rfl (by kernel_rfl) (fun _ _ _ h => h) (by rfl) (by assumption) ?_ ?_
     rotate_left
     ·intro w hSw; go_simp; first | done | with_reducible rfl
     try simp only [Ap.sc]
     refine Rg.th 4 (some 48) (v := ?_) rfl (by kernel_rfl) (fun _ _ _ h => h) (by rfl) (by assumption) ?_ ?_
     rotate_left
     ·intro w hSw; go_simp; first | done | with_reducible rfl
     try simp only [Ap.sc]
     refine Rg.th 5 (some 49) (v := ?_) rfl (by kernel_rfl) (fun _ _ _ h => h) (by rfl) (by assumption) ?_ ?_
     rotate_left
     ·intro w hSw; go_simp; first | done | with_reducible rfl
     try simp only [Ap.sc]
     refine Rg.th 6 (some 50) (v := ?_) rfl (by kernel_rfl) (fun _ _ _ h => h) (by rfl) (by assumption) ?_ ?_
     rotate_left
     ·intro w hSw; go_simp; first | done | with_reducible rfl
     try simp only [Ap.sc]
     refine Rg.th 7 (some 51) (v := ?_) rfl (by kernel_rfl) (fun _ _ _ h => h) (by rfl) (by assumption) ?_ ?_
     rotate_left
     ·intro w hSw; go_simp; first | done | with_reducible rfl
     try simp only [Ap.sc]
     refine Rg.th 8 (some 52) (v := ?_) rfl (by kernel_rfl) (fun _ _ _ h => h) (by rfl) (by assumption) ?_ ?_
     rotate_left
     ·intro w hSw; go_simp; first | done | with_reducible rfl
     try simp only [Ap.sc]
     refine Rg.th 9 (some 53) (v := ?_) rfl (by kernel_rfl) (fun _ _ _ h => h) (by rfl) (by assumption) ?_ ?_
     rotate_left
     ·intro w hSw; go_simp; first | done | with_reducible rfl
     try simp only [Ap.sc]
     refine wpAnyH_take (i := 10) (oi := ⟨some 54, _, _, _, _, _⟩) (v := _) rfl (by kernel_rfl) (by kernel_rfl) (by kernel_rfl) (fun _ _ _ h => h) (Or.inr ⟨by rfl, rfl⟩) (by assumption) ?_
     try simp only [Ap.sc]
     refine wpAnyH_take (i := 11) (oi := ⟨some 55, _, _, _, _, _⟩) (v := _) rfl (by kernel_rfl) (by kernel_rfl) (by kernel_rfl) (fun _ _ _ h => h) (Or.inr ⟨by rfl, rfl⟩) (by assumption) ?_
     try simp only [Ap.sc]
     refine wpAnyH_take (i := 12) (oi := ⟨some 56, _, _, _, _, _⟩) (v := _) rfl (by kernel_rfl) (by kernel_rfl) (by kernel_rfl) (fun _ _ _ h => h) (Or.inr ⟨by rfl, rfl⟩) (by assumption) ?_
     try simp only [Ap.sc]
     refine wpAnyH_take (i := 13) (oi := ⟨some 57, _, _, _, _, _⟩) (v := _) rfl (by kernel_rfl) (by kernel_rfl) (by kernel_rfl) (fun _ _ _ h => h) (Or.inr ⟨by rfl, rfl⟩) (by assumption) ?_
     try simp only [Ap.sc]
     refine wpAnyH_take (i := 14) (oi := ⟨some 58, _, _, _, _, _⟩) (v := _) rfl (by kernel_rfl) (by kernel_rfl) (by kernel_rfl) (fun _ _ _ h => h) (Or.inr ⟨by rfl, rfl⟩) (by assumption) ?_
     try simp only [Ap.sc]
     refine wpAnyH_take (i := 15) (oi := ⟨some 59, _, _, _, _, _⟩) (v := _) rfl (by kernel_rfl) (by kernel_rfl) (by kernel_rfl) (fun _ _ _ h => h) (Or.inr ⟨by rfl, rfl⟩) (by assumption) ?_
     try simp only [Ap.sc]
     refine wpAnyH_take (i := 16) (oi := ⟨some 60, _, _, _, _, _⟩) (v := _) rfl (by kernel_rfl) (by kernel_rfl) (by kernel_rfl) (fun _ _ _ h => h) (Or.inr ⟨by rfl, rfl⟩) (by assumption) ?_
     try simp only [Ap.sc]
     refine wpAnyH_take (i := 17) (oi := ⟨some 61, _, _, _, _, _⟩) (v := _) rfl (by kernel_rfl) (by kernel_rfl) (by kernel_rfl) (fun _ _ _ h => h) (Or.inr ⟨by rfl, rfl⟩) (by assumption) ?_
     try simp only [Ap.sc]
     refine wpAnyH_take (i := 18) (oi := ⟨some 62, _, _, _, _, _⟩) (v := _) rfl (by kernel_rfl) (by kernel_rfl) (by kernel_rfl) (fun _ _ _ h => h) (Or.inr ⟨by rfl, rfl⟩) (by assumption) ?_
     try simp only [Ap.sc]
     refine wpAnyH_take (i := 19) (oi := ⟨some 63, _, _, _, _, _⟩) (v := _) rfl (by kernel_rfl) (by kernel_rfl) (by kernel_rfl) (fun _ _ _ h => h) (Or.inr ⟨by rfl, rfl⟩) (by assumption) ?_
     try simp only [Ap.sc]
     refine wpAnyH_take (i := 20) (oi := ⟨some 64, _, _, _, _, _⟩) (v := _) rfl (by kernel_rfl) (by kernel_rfl) (by kernel_rfl) (fun _ _ _ h => h) (Or.inr ⟨by rfl, rfl⟩) (by assumption) ?_
     try simp only [Ap.sc]
     refine Rg.th 21 (some 65) (v := ?_) rfl (by kernel_rfl) (fun _ _ _ h => h) (by rfl) (by assumption) ?_ ?_
     rotate_left
     ·intro w hSw; go_simp; first | done | with_reducible rfl
     try simp only [Ap.sc]
     refine wpAnyH_done (by kernel_rfl) ?_ _
     refine NoPanic.normal ?_
     have HB3 := Lib.hid (HBW.out.trans (hHeld.mono HBW.out.size))
     clear hHeld D1 HCR T0 T1 T2 U0 U1 U2 U3 U4 U5
     go_wp2_with fail
     go_roundw
     case rel => exact ⟨K + 1, by omega, by go_num, HB3.out⟩
     case measure => simp [intOf]; omega
    have hd9 := Rs.le HRr.out.r
    have hm9 := Rs.max HRr.out.r
    unfold maxLen at hm9
    have kc : (K : Int) ≤ (d : Int) := by omega
    have kI : (K : Int) ≤ (R.length : Int) := by omega
    have k0 : (0 : Int) ≤ (K : Int) := by omega
    have hq0 : q.add 0 = q := by unfold Addr.add; simp
    have hq1 : q.add (0 * 6) = q := hq0
    have d1 : decide (e < (R.length : Int) - (K : Int) + 1) = false := by simp; omega
    have q1 : IntKind.i64.wrap ((R.length : Int) - (K : Int)) = (R.length : Int) - (K : Int) := by rw [IntKind.wrap_i64]; omega
    have q2 : IntKind.i64.wrap ((R.length : Int) - (K : Int) + 1) = (R.length : Int) - (K : Int) + 1 := by rw [IntKind.wrap_i64]; omega
    have HUB : Hid (used ((R.map Em.e).drop K) ≤ 2000000000000) := by
     show _ ≤ _
     have h1 := used_le (l := (R.map Em.e).drop K) (fun y hy => by obtain ⟨z, hz, rfl⟩ := List.mem_map.1 (List.mem_of_mem_drop hy); exact (HRr.out.e z hz).f)
     rw [List.length_drop, List.length_map] at h1
     have : (R.length - K) * 2000000000 ≤ 1000 * 2000000000 := Nat.mul_le_mul_right _ (by omega)
     omega
    have HUS : Hid (∀ v, Below wr.heap.size wr v → Calls Tryz.prog 39 #[.slice (cutM (some q) 6 K d) (R.length - K) (d - K)] v fun q u => q = .returned (.int .i64 (used ((R.map Em.e).drop K) : Int)) ∧ Below wr.heap.size wr u) := fun v hv => by
     have h1 := used_any (cutM (some q) 6 K d) (d - K) (R.drop K) v (rl_cut (HRr.out.below hv (Nat.le_refl _)) hKR) (by rw [List.length_drop]; omega)
     rw [List.length_drop, List.map_drop] at h1
     exact h1.mono fun _ _ hp => ⟨hp.1, bstep hv hp.2⟩
    have HEQ : Hid (evQ b e cx (R.map Em.e) K ↔ b < (used ((R.map Em.e).drop K) : Int) + cx) := by
     show _ ↔ _
     unfold evQ
     rw [List.length_map]
     constructor
     ·rintro (h | h)
      ·exact absurd h (by omega)
      ·omega
     ·intro h; right; omega
    obtain ⟨uu, huu⟩ : ∃ uu, uu = used ((R.map Em.e).drop K) := ⟨_, rfl⟩
    rw [← huu] at HUB HUS HEQ
    have hub := HUB.out
    have q3 : IntKind.i64.wrap ((uu : Int) + cx) = (uu : Int) + cx := by rw [IntKind.wrap_i64]; omega
    clear huu hg
    by_cases hcK : d = K
    ·have hcS := hcK.symm
     subst hcS
     rw [cut_q, if_pos rfl, show R.length - K = 0 from by omega, Nat.sub_self] at HUS
     have HUR := HUS
     by_cases hq : b < (uu : Int) + cx
     ·have hlt : K < n := by
       rcases Nat.lt_or_ge K n with h | h
       ·exact h
       ·exfalso; have hKn : K = n := by omega
        subst hKn; exact HST.out (HEQ.out.2 hq)
      have d2 : decide (b < (uu : Int) + cx) = true := by simp; omega
      clear hq
      go_wp2_with fail
      refine wp_region_noPanic ?_
      refine wp_region_held_drew (S := fun v => Below wr.heap.size wr v) (by kernel_rfl) (D1) (fun hHeld => ?_)
      refine Rg.th 0 (some 44) (v := ?_) rfl (by kernel_rfl) (fun _ _ _ h => h) (by rfl) (by assumption) ?_ ?_
      rotate_left
      ·intro w hSw; go_simp; first | done | with_reducible rfl
      try simp only [Ap.sc]
      refine Rg.th 1 (some 45) (v := ?_) rfl (by kernel_rfl) (fun _ _ _ h => h) (by rfl) (by assumption) ?_ ?_
      rotate_left
      ·intro w hSw; go_simp; first | done | with_reducible rfl
      try simp only [Ap.sc]
      refine Rg.th 2 (some 46) (v := ?_) rfl (by kernel_rfl) (fun _ _ _ h => h) (by rfl) (by assumption) ?_ ?_
      rotate_left
      ·intro w hSw; go_simp; first | done | with_reducible rfl
      try simp only [Ap.sc]
      refine Rg.th 3 (some 47) (v := ?_) rfl (by kernel_rfl) (fun _ _ _ h => h) (by rfl) (by assumption) ?_ ?_
      rotate_left
      ·intro w hSw; go_simp; first | done | with_reducible rfl
      try simp only [Ap.sc]
      refine Rg.th 4 (some 48) (v := ?_) rfl (by kernel_rfl) (fun _ _ _ h => h) (by rfl) (by assumption) ?_ ?_
      rotate_left
      ·intro w hSw; go_simp; first | done | with_reducible rfl
      try simp only [Ap.sc]
      refine Rg.th 5 (some 49) (v := ?_) rfl (by kernel_rfl) (fun _ _ _ h => h) (by rfl) (by assumption) ?_ ?_
      rotate_left
      ·intro w hSw; go_simp; first | done | with_reducible rfl
      try simp only [Ap.sc]
      refine Rg.th 6 (some 50) (v := ?_) rfl (by kernel_rfl) (fun _ _ _ h => h) (by rfl) (by assumption) ?_ ?_
      rotate_left
      ·intro w hSw; go_simp; first | done | with_reducible rfl
      try simp only [Ap.sc]
      refine Rg.th 7 (some 51) (v := ?_) rfl (by kernel_rfl) (fun _ _ _ h => h) (by rfl) (by assumption) ?_ ?_
      rotate_left
      ·intro w hSw; go_simp; first | done | with_reducible rfl
      try simp only [Ap.sc]
      refine Rg.th 8 (some 52) (v := ?_) rfl (by kernel_rfl) (fun _ _ _ h => h) (by rfl) (by assumption) ?_ ?_
      rotate_left
      ·intro w hSw; go_simp; first | done | with_reducible rfl
      try simp only [Ap.sc]
      refine Rg.th 9 (some 53) (v := ?_) rfl (by kernel_rfl) (fun _ _ _ h => h) (by rfl) (by assumption) ?_ ?_
      rotate_left
      ·intro w hSw; go_simp; first | done | with_reducible rfl
      try simp only [Ap.sc]
      refine Rg.th 10 (some 54) (v := ?_) rfl (by kernel_rfl) (fun _ _ _ h => h) (by rfl) (by assumption) ?_ ?_
      rotate_left
      ·intro w hSw; go_simp; first | done | with_reducible rfl
      try simp only [Ap.sc]
      refine Rg.th 11 (some 55) (v := ?_) rfl (by kernel_rfl) (fun _ _ _ h => h) (by rfl) (by assumption) ?_ ?_
      rotate_left
      ·intro w hSw; go_simp; first | done | with_reducible rfl
      try simp only [Ap.sc]
      refine Rg.th 12 (some 56) (v := ?_) rfl (by kernel_rfl) (fun _ _ _ h => h) (by rfl) (by assumption) ?_ ?_
      rotate_left
      ·intro w hSw; go_simp; first | done | with_reducible rfl
      try simp only [Ap.sc]
      refine Rg.th 13 (some 57) (v := ?_) rfl (by kernel_rfl) (fun _ _ _ h => h) (by rfl) (by assumption) ?_ ?_
      rotate_left
      ·intro w hSw; go_simp; first | done | with_reducible rfl
      try simp only [Ap.sc]
      refine Rg.th 15 (some 59) (v := ?_) rfl (by kernel_rfl) (fun _ _ _ h => h) (by rfl) (by assumption) ?_ ?_
      rotate_left
      ·intro w hSw; go_simp; first | done | with_reducible rfl
      try simp only [Ap.sc]
      refine Rg.th 18 (some 62) (v := ?_) rfl (by kernel_rfl) (fun _ _ _ h => h) (by rfl) (by assumption) ?_ ?_
      rotate_left
      ·intro w hSw; go_simp; first | done | with_reducible rfl
      try simp only [Ap.sc]
      refine Rg.th 19 (some 63) (v := ?_) rfl (by kernel_rfl) (fun _ _ _ h => h) (by rfl) (by assumption) ?_ ?_
      rotate_left
      ·intro w hSw; go_simp; first | done | with_reducible rfl
      try simp only [Ap.sc]
      refine wpAnyH_ready (rs := [14]) (by kernel_rfl) (by simp) ?_
      refine AllReadyH.cons (o := ⟨some 58, _, _, _, _, _⟩) rfl (fun K hK => ?_) AllReadyH.nil
      go_simp
      with_reducible refine (HUR.out _ hHeld).mono ?_
      rintro d3 u3 ⟨rfl, hb⟩
      have K3 := hb
      clear hb
      go_simp
      refine hK.out _ _ (K3) (fun hHeld => ?_)
      clear hK K
      try simp only [Ap.sc]
      refine wpAnyH_ready (rs := [16]) (by kernel_rfl) (by simp) ?_
      refine AllReadyH.cons (o := ⟨some 60, _, _, _, _, _⟩) rfl (fun K hK => ?_) AllReadyH.nil
      go_simp
      with_reducible refine (HCR.out _ hHeld).mono ?_
      rintro d4 u4 ⟨rfl, hb⟩
      have K4 := hb
      clear hb
      go_simp
      refine hK.out _ _ (K4) (fun hHeld => ?_)
      clear hK K
      try simp only [Ap.sc]
      refine Rg.th 17 (some 61) (v := ?_) rfl (by kernel_rfl) (fun _ _ _ h => h) (by rfl) (by assumption) ?_ ?_
      rotate_left
      ·intro w hSw; go_simp; first | done | with_reducible rfl
      try simp only [Ap.sc]
      refine Rg.th 20 (some 64) (v := ?_) rfl (by kernel_rfl) (fun _ _ _ h => h) (by rfl) (by assumption) ?_ ?_
      rotate_left
      ·intro w hSw; go_simp; first | done | with_reducible rfl
      try simp only [Ap.sc]
      refine Rg.th 21 (some 65) (v := ?_) rfl (by kernel_rfl) (fun _ _ _ h => h) (by rfl) (by assumption) ?_ ?_
      rotate_left
      ·intro w hSw; go_simp; first | done | with_reducible rfl
      try simp only [Ap.sc]
      refine wpAnyH_done (by kernel_rfl) ?_ _
      refine NoPanic.normal ?_
      have HB3 := Lib.hid (HBW.out.trans (hHeld.mono HBW.out.size))
      clear hHeld D1 HCR HUR HUS T0 T1 T2 U0 U1 U2 U3 U4 U5
      go_wp2_with fail
      go_roundw
      case rel => exact ⟨K + 1, by omega, by go_num, HB3.out⟩
      case measure => simp [intOf]; omega
     ·have hKn : n = K := by
       rcases Nat.lt_or_ge K n with h | h
       ·exact absurd (HEQ.out.1 (HGO.out K h)) hq
       ·omega
      have d2 : decide (b < (uu : Int) + cx) = false := by simp; omega
      clear hq HGO HST
      subst hKn
      go_wp2_with fail
      refine wp_region_noPanic ?_
      refine wp_region_held_drew (S := fun v => Below wr.heap.size wr v) (by kernel_rfl) (D1) (fun hHeld => ?_)
      refine Rg.th 0 (some 44) (v := ?_) rfl (by kernel_rfl) (fun _ _ _ h => h) (by rfl) (by assumption) ?_ ?_
      rotate_left
      ·intro w hSw; go_simp; first | done | with_reducible rfl
      try simp only [Ap.sc]
      refine Rg.th 1 (some 45) (v := ?_) rfl (by kernel_rfl) (fun _ _ _ h => h) (by rfl) (by assumption) ?_ ?_
      rotate_left
      ·intro w hSw; go_simp; first | done | with_reducible rfl
      try simp only [Ap.sc]
      refine Rg.th 2 (some 46) (v := ?_) rfl (by kernel_rfl) (fun _ _ _ h => h) (by rfl) (by assumption) ?_ ?_
      rotate_left
      ·intro w hSw; go_simp; first | done | with_reducible rfl
      try simp only [Ap.sc]
      refine Rg.th 3 (some 47) (v := ?_) rfl (by kernel_rfl) (fun _ _ _ h => h) (by rfl) (by assumption) ?_ ?_
      rotate_left
      ·intro w hSw; go_simp; first | done | with_reducible rfl
      try simp only [Ap.sc]
      refine Rg.th 4 (some 48) (v := ?_) rfl (by kernel_rfl) (fun _ _ _ h => h) (by rfl) (by assumption) ?_ ?_
      rotate_left
      ·intro w hSw; go_simp; first | done | with_reducible rfl
      try simp only [Ap.sc]
      refine Rg.th 5 (some 49) (v := ?_) rfl (by kernel_rfl) (fun _ _ _ h => h) (by rfl) (by assumption) ?_ ?_
      rotate_left
      ·intro w hSw; go_simp; first | done | with_reducible rfl
      try simp only [Ap.sc]
      refine Rg.th 6 (some 50) (v := ?_) rfl (by kernel_rfl) (fun _ _ _ h => h) (by rfl) (by assumption) ?_ ?_
      rotate_left
      ·intro w hSw; go_simp; first | done | with_reducible rfl
      try simp only [Ap.sc]
      refine Rg.th 7 (some 51) (v := ?_) rfl (by kernel_rfl) (fun _ _ _ h => h) (by rfl) (by assumption) ?_ ?_
      rotate_left
      ·intro w hSw; go_simp; first | done | with_reducible rfl
      try simp only [Ap.sc]
      refine Rg.th 8 (some 52) (v := ?_) rfl (by kernel_rfl) (fun _ _ _ h => h) (by rfl) (by assumption) ?_ ?_
      rotate_left
      ·intro w hSw; go_simp; first | done | with_reducible rfl
      try simp only [Ap.sc]
      refine Rg.th 9 (some 53) (v := ?_) rfl (by kernel_rfl) (fun _ _ _ h => h) (by rfl) (by assumption) ?_ ?_
      rotate_left
      ·intro w hSw; go_simp; first | done | with_reducible rfl
      try simp only [Ap.sc]
      refine Rg.th 10 (some 54) (v := ?_) rfl (by kernel_rfl) (fun _ _ _ h => h) (by rfl) (by assumption) ?_ ?_
      rotate_left
      ·intro w hSw; go_simp; first | done | with_reducible rfl
      try simp only [Ap.sc]
      refine Rg.th 11 (some 55) (v := ?_) rfl (by kernel_rfl) (fun _ _ _ h => h) (by rfl) (by assumption) ?_ ?_
      rotate_left
      ·intro w hSw; go_simp; first | done | with_reducible rfl
      try simp only [Ap.sc]
      refine Rg.th 12 (some 56) (v := ?_) rfl (by kernel_rfl) (fun _ _ _ h => h) (by rfl) (by assumption) ?_ ?_
      rotate_left
      ·intro w hSw; go_simp; first | done | with_reducible rfl
      try simp only [Ap.sc]
      refine Rg.th 13 (some 57) (v := ?_) rfl (by kernel_rfl) (fun _ _ _ h => h) (by rfl) (by assumption) ?_ ?_
      rotate_left
      ·intro w hSw; go_simp; first | done | with_reducible rfl
      try simp only [Ap.sc]
      refine Rg.th 15 (some 59) (v := ?_) rfl (by kernel_rfl) (fun _ _ _ h => h) (by rfl) (by assumption) ?_ ?_
      rotate_left
      ·intro w hSw; go_simp; first | done | with_reducible rfl
      try simp only [Ap.sc]
      refine Rg.th 18 (some 62) (v := ?_) rfl (by kernel_rfl) (fun _ _ _ h => h) (by rfl) (by assumption) ?_ ?_
      rotate_left
      ·intro w hSw; go_simp; first | done | with_reducible rfl
      try simp only [Ap.sc]
      refine Rg.th 19 (some 63) (v := ?_) rfl (by kernel_rfl) (fun _ _ _ h => h) (by rfl) (by assumption) ?_ ?_
      rotate_left
      ·intro w hSw; go_simp; first | done | with_reducible rfl
      try simp only [Ap.sc]
      refine wpAnyH_ready (rs := [14]) (by kernel_rfl) (by simp) ?_
      refine AllReadyH.cons (o := ⟨some 58, _, _, _, _, _⟩) rfl (fun K hK => ?_) AllReadyH.nil
      go_simp
      with_reducible refine (HUR.out _ hHeld).mono ?_
      rintro d3 u3 ⟨rfl, hb⟩
      have K3 := hb
      clear hb
      go_simp
      refine hK.out _ _ (K3) (fun hHeld => ?_)
      clear hK K
      try simp only [Ap.sc]
      refine wpAnyH_ready (rs := [16]) (by kernel_rfl) (by simp) ?_
      refine AllReadyH.cons (o := ⟨some 60, _, _, _, _, _⟩) rfl (fun K hK => ?_) AllReadyH.nil
      go_simp
      with_reducible refine (HCR.out _ hHeld).mono ?_
      rintro d4 u4 ⟨rfl, hb⟩
      have K4 := hb
      clear hb
      go_simp
      refine hK.out _ _ (K4) (fun hHeld => ?_)
      clear hK K
      try simp only [Ap.sc]
      refine Rg.th 17 (some 61) (v := ?_) rfl (by kernel_rfl) (fun _ _ _ h => h) (by rfl) (by assumption) ?_ ?_
      rotate_left
      ·intro w hSw; go_simp; first | done | with_reducible rfl
      try simp only [Ap.sc]
      refine Rg.th 20 (some 64) (v := ?_) rfl (by kernel_rfl) (fun _ _ _ h => h) (by rfl) (by assumption) ?_ ?_
      rotate_left
      ·intro w hSw; go_simp; first | done | with_reducible rfl
      try simp only [Ap.sc]
      refine Rg.th 21 (some 65) (v := ?_) rfl (by kernel_rfl) (fun _ _ _ h => h) (by rfl) (by assumption) ?_ ?_
      rotate_left
      ·intro w hSw; go_simp; first | done | with_reducible rfl
      try simp only [Ap.sc]
      refine wpAnyH_done (by kernel_rfl) ?_ _
      refine NoPanic.normal ?_
      obtain ⟨we, hwe⟩ : ∃ we, we = u4 := ⟨_, rfl⟩
      rw [← hwe] at hHeld ⊢
      clear hwe
      have HPe := Lib.hid (HPr.out.below hHeld)
      have HRe := Lib.hid (HRr.out.below hHeld (Nat.le_refl _))
      have HBE : Hid (Below vs.heap.size vs we) := HBW.out.trans (hHeld.mono HBW.out.size)
      clear hHeld D1 HCR HUR T0 T1 T2 U0 U1 U2 U3 U4 U5
      have HKK := HPe.out.k
      obtain ⟨x0, x1, x2, xf0, xf1, xf2⟩ := HKK.three
      have lg := HKK.lt
      clear HKK
      have HEE := HPe.out.e
      unfold emA at HEE
      obtain ⟨e0, e1, e2, e3, e4, e5, _⟩ := six HEE
      have le := HEE.lt
      clear HEE
      have HRZ := HPe.out.r
      unfold zS at HRZ
      obtain ⟨r0, r1, r2, rf0, rf1, rf2⟩ := HRZ.three
      have lr := HRZ.lt
      clear HRZ
      have S13 := Lib.hid (pre_src HRe.out.r (k := n) (by have := HNL.out; exact this))
      go_upto_region 13 with fail
      go_upto_region 14 with (at_builtin; (refine wpList_mine rfl _ _ elE _ rfl rfl (Mine.nil we.heap.size 6 we) _ rfl n _ S13.out (by omega) (by omega) (Nat.le_refl _) ?_); intro D7 d7 w7 m7 g7 _)
      try simp only [Nat.zero_add]
      have B7 : Hid (Below we.heap.size we w7) := fresh (by exact g7)
      have M7 : Hid (Mine we.heap.size 6 w7 D7 n d7 (emL (R.take n))) := by show Mine _ _ _ _ _ _ _; rw [Nat.zero_add, List.nil_append] at m7; exact m7
      have HP7 := Lib.hid (HPe.out.below B7.out)
      have HR7 := Lib.hid (HRe.out.below B7.out (Nat.le_refl _))
      have HB7 : Hid (Below vs.heap.size vs w7) := HBE.out.trans (B7.out.mono HBE.out.size)
      clear m7 g7 S13 x0 x1 x2 xf0 xf1 xf2 lg e0 e1 e2 e3 e4 e5 le r0 r1 r2 rf0 rf1 rf2 lr
      have D7B : Below w7.heap.size w7 w7.drew := (Below.refl _ _).drew
      have T0 : ∀ v, Below w7.heap.size w7 v → v.cell? ⟨C, 0, none⟩ = some (.int .i64 b) := fun v hv => by have := (HP7.out.below hv).k.cell 0; exact this
      have T1 : ∀ v, Below w7.heap.size w7 v → v.cell? ⟨C, 1, none⟩ = some (.int .i64 e) := fun v hv => by have := (HP7.out.below hv).k.cell 1; exact this
      have T2 : ∀ v, Below w7.heap.size w7 v → v.cell? ⟨C, 2, none⟩ = some (.slice (some q) R.length n) := fun v hv => by have := (HP7.out.below hv).k.cell 2; exact this
      have U0 : ∀ v, Below w7.heap.size w7 v → v.cell? ⟨C + 1, 0, none⟩ = some (.string x.e.k) := fun v hv => by have := (HP7.out.below hv).e.cell 0; exact this
      have U1 : ∀ v, Below w7.heap.size w7 v → v.cell? ⟨C + 1, 1, none⟩ = some (.slice x.A x.e.v.length x.a) := fun v hv => by have := (HP7.out.below hv).e.cell 1; exact this
      have U2 : ∀ v, Below w7.heap.size w7 v → v.cell? ⟨C + 1, 2, none⟩ = some (.slice x.B x.e.t.length x.b) := fun v hv => by have := (HP7.out.below hv).e.cell 2; exact this
      have U3 : ∀ v, Below w7.heap.size w7 v → v.cell? ⟨C + 1, 3, none⟩ = some (.int .u64 x.e.d) := fun v hv => by have := (HP7.out.below hv).e.cell 3; exact this
      have U4 : ∀ v, Below w7.heap.size w7 v → v.cell? ⟨C + 1, 4, none⟩ = some (.int .u64 x.e.n) := fun v hv => by have := (HP7.out.below hv).e.cell 4; exact this
      have U5 : ∀ v, Below w7.heap.size w7 v → v.cell? ⟨C + 1, 5, none⟩ = some (.int .u64 x.e.s) := fun v hv => by have := (HP7.out.below hv).e.cell 5; exact this
      have S14 : Hid (∀ v, Below w7.heap.size w7 v → Src Tryz.prog 6 30 (.slice (some q) 0 0) 0 (emL (R.drop n)) v) := fun v hv => by
       have := cut_src (HR7.out.below hv (Nat.le_refl _)).r (k := n) (by omega)
       rw [cut_q, if_pos rfl, show R.length - n = 0 from by omega, Nat.sub_self] at this
       exact this
      have HCP : Hid (∀ v, Below w7.heap.size w7 v → Calls Tryz.prog 49 #[.agg #[.string x.e.k, .slice x.A x.e.v.length x.a, .slice x.B x.e.t.length x.b, .int .u64 x.e.d, .int .u64 x.e.n, .int .u64 x.e.s]] v (copyPost v x.e)) := fun v hv => copy_any x v ((HXS.out.below HB7.out (Nat.le_refl _)).below hv (Nat.le_refl _))
      unfold copyPost at HCP
      have hz7 := HP7.out.z
      refine wp_region_noPanic ?_
      refine wp_region_G 10 (fun v => Below w7.heap.size w7 v) (by kernel_rfl) ?_
      refine Rg.tg 0 (some 73) (v := ?_) rfl (by kernel_rfl) (fun _ _ _ h => h) (by rfl) (D7B) ?_ ?_
      rotate_left
      ·intro w hSw; go_simp; first | done | with_reducible rfl
      try simp only [Ap.sc]
      refine Rg.tg 1 (some 74) (v := ?_) rfl (by kernel_rfl) (fun _ _ _ h => h) (by rfl) (D7B) ?_ ?_
      rotate_left
      ·intro w hSw; go_simp; first | done | with_reducible rfl
      try simp only [Ap.sc]
      refine Rg.tg 2 (some 75) (v := ?_) rfl (by kernel_rfl) (fun _ _ _ h => h) (by rfl) (D7B) ?_ ?_
      rotate_left
      ·intro w hSw; go_simp; first | done | with_reducible rfl
      try simp only [Ap.sc]
      refine Rg.tg 3 (some 76) (v := ?_) rfl (by kernel_rfl) (fun _ _ _ h => h) (by rfl) (D7B) ?_ ?_
      rotate_left
      ·intro w hSw; go_simp; first | done | with_reducible rfl
      try simp only [Ap.sc]
      refine Rg.tg 5 (some 78) (v := ?_) rfl (by kernel_rfl) (fun _ _ _ h => h) (by rfl) (D7B) ?_ ?_
      rotate_left
      ·intro w hSw; go_simp; first | done | with_reducible rfl
      try simp only [Ap.sc]
      refine wpAnyG_ready (rs := [4]) (by kernel_rfl) (by simp) ?_
      refine AllReadyG.cons (o := ⟨some 77, _, _, _, _, _⟩) rfl (fun K hK => ?_) AllReadyG.nil
      have hzw : w7.heap.size ≤ w7.drew.heap.size := D7B.size
      refine step_mine (by kernel_rfl) _ _ elE _ rfl rfl (Mine.nil w7.heap.size 6 w7.drew) _ rfl 0 _ (S14.out _ D7B) (by omega) (by omega) hzw ?_
      intro A8 c8 w8 m8 g8 q8
      have M8 : Hid (Mine w7.heap.size 6 w8 A8 0 c8 (emL (R.drop n))) := by show Mine _ _ _ _ _ _ _; rw [Nat.zero_add, List.nil_append] at m8; exact m8
      have K8 : Below w7.heap.size w7 w8 := D7B.trans ((fresh (by exact g8)).mono hzw)
      have Q8 : Hid (∀ a, A8 = some a → w7.drew.heap.size ≤ a.block) := fun a ha => by rcases q8 with q | q; rw [q] at ha; cases ha; exact q a ha
      try simp only [Nat.zero_add]
      clear m8 g8 q8
      refine hK.out _ _ (fun _ => K8) ?_
      clear hK K
      try simp only [Ap.sc]
      refine wpAnyG_ready (rs := [6]) (by kernel_rfl) (by simp) ?_
      refine AllReadyG.cons (o := ⟨some 79, _, _, _, _, _⟩) rfl (fun K hK => ?_) AllReadyG.nil
      go_simp
      with_reducible refine (HCP.out _ K8).mono ?_
      rintro dd u6 ⟨y, hye, rfl, oy, hb⟩
      have HYE := Lib.hid hye
      have OY := Lib.hid oy
      have K6 : Below w7.heap.size w7 u6 := bstep K8 hb
      have M86 := Lib.hid (M8.out.below hb (Nat.le_refl _))
      have OB : Hid (w7.heap.size ≤ w8.heap.size) := K8.size
      unfold emV
      clear hye oy hb
      go_simp
      refine hK.out _ _ (fun _ => K6) ?_
      clear hK K
      try simp only [Ap.sc]
      refine wpAnyG_ready (rs := [7]) (by kernel_rfl) (by simp) ?_
      refine AllReadyG.cons (o := ⟨some 80, _, _, _, _, _⟩) rfl (fun K hK => ?_) AllReadyG.nil
      go_simp
      have KA : Below w7.heap.size w7 (u6.alloc (.cells (emA y) 42)) := K6.trans ((bnew _ _).mono K6.size)
      unfold emA at KA
      refine hK.out _ _ (fun _ => KA) ?_
      clear hK K
      try simp only [Ap.sc]
      refine wpAnyG_ready (rs := [8]) (by kernel_rfl) (by simp) ?_
      refine AllReadyG.cons (o := ⟨some 81, _, _, _, _, _⟩) rfl (fun K hK => ?_) AllReadyG.nil
      have hzw9 : w7.heap.size ≤ (u6.alloc (.cells #[.string y.e.k, .slice y.A y.e.v.length y.a, .slice y.B y.e.t.length y.b, .int .u64 y.e.d, .int .u64 y.e.n, .int .u64 y.e.s] 42)).heap.size := KA.size
      refine step_mine (by kernel_rfl) _ _ elE _ rfl rfl (M86.out.below (bnew u6 (.cells #[.string y.e.k, .slice y.A y.e.v.length y.a, .slice y.B y.e.t.length y.b, .int .u64 y.e.d, .int .u64 y.e.n, .int .u64 y.e.s] 42)) (Nat.le_refl _)) _ rfl 1 _ (src_one u6 y) (by omega) (by omega) hzw9 ?_
      intro A9 c9 w9 m9 g9 q9
      obtain ⟨NL, hNL⟩ : ∃ NL, NL = R.drop n ++ [y] := ⟨_, rfl⟩
      have HNL2 := Lib.hid hNL
      have HL9 : Hid (0 + 1 = NL.length) := by show _ = _; rw [hNL, List.length_append, List.length_drop]; simp <;> omega
      clear hNL
      have M9 : Hid (Mine w7.heap.size 6 w9 A9 NL.length c9 (emL NL)) := by show Mine _ _ _ _ _ _ _; rw [← HL9.out, HNL2.out, emL_append, emL_one]; exact m9
      have K9 : Below w7.heap.size w7 w9 := KA.trans ((only_row (F := fun j => w7.heap.size ≤ j) g9 (fun a ha => (M86.out.base ha).1)).below (fun _ h => h) hzw9)
      have OY9 : Hid (OwE w7.heap.size w9 y) := owe_keep ((OY.out.base (OB.out)).below (bnew _ _)) (only_row (F := fun j => ∃ a, A8 = some a ∧ a.block = j) g9 (fun a ha => ⟨a, ha, rfl⟩)) (fun a ha => by
       rintro ⟨a8, h8, e8⟩
       have h1 := owe_lt OY.out a ha
       have h2 := (M8.out.base h8).2.1
       omega)
      rw [HL9.out]
      clear m9 g9 q9
      refine hK.out _ _ (fun _ => K9) ?_
      clear hK K
      try simp only [Ap.sc]
      refine Rg.tg 9 (some 82) (v := ?_) rfl (by kernel_rfl) (fun _ _ _ h => h) (by rfl) (K9) ?_ ?_
      rotate_left
      ·intro w hSw; go_simp; first | done | with_reducible rfl
      try simp only [Ap.sc]
      refine wpAnyG_ready (rs := [10]) (by kernel_rfl) (by simp) ?_
      refine AllReadyG.cons (o := ⟨none, _, _, _, _, _⟩) rfl (fun K hK => ?_) AllReadyG.nil
      have HP9 := Lib.hid (HP7.out.below K9)
      obtain ⟨x0, x1, x2, xf0, xf1, xf2⟩ := HP9.out.k.three
      have lg := HP9.out.k.lt
      go_simp
      obtain ⟨va, hva⟩ : ∃ va, va = w9.setCell ⟨C, 2, none⟩ (.slice A9 NL.length c9) := ⟨_, rfl⟩
      have HQA : Hid (Only (fun j => j = C) w9 va) := by show Only _ _ _; rw [hva]; exact only_own (F := fun j => j = C) rfl _
      have HKA : Hid (Blk va C #[.int .i64 b, .int .i64 e, .slice A9 NL.length c9] 32) := by show Blk _ _ _ _; rw [hva]; exact HP9.out.k.set 2 _
      have HRA := Lib.hid (HP9.out.r.only HQA.out (by omega))
      have MA := Lib.hid (M9.out.only HQA.out (fun a ha hf => by have := (M9.out.base ha).1; omega))
      have MD := Lib.hid ((M7.out.below K9 (Nat.le_refl _)).only HQA.out (fun a ha hf => by have := (M7.out.base ha).1; have := HPe.out.z; omega))
      have OA : Hid (OwE w7.heap.size va y) := owe_keep OY9.out HQA.out (fun a ha hf => by have := (owe_lt OY9.out a ha).1; omega)
      have BA : Hid (Below C w va) := HP9.out.b.trans (HQA.out.below (fun j hj => by omega) (by have := HP9.out.z; omega))
      rw [← hva]
      clear hva x0 x1 x2 xf0 xf1 xf2 lg T0 T1 T2 U0 U1 U2 U3 U4 U5
      refine hK.out _ _ (fun h => absurd h (by omega)) ?_
      clear hK K
      try simp only [Ap.sc]
      refine wpAnyG_done (by kernel_rfl) ?_ _
      refine NoPanic.normal ?_
      obtain ⟨x0, x1, x2, _, _, _⟩ := HKA.out.three
      have lg := HKA.out.lt
      have HRZ := HRA.out
      unfold zS at HRZ
      obtain ⟨r0, r1, r2, rf0, rf1, rf2⟩ := HRZ.three
      have lr := HRZ.lt
      clear HRZ
      go_wp2_with fail
      obtain ⟨v9, hv9⟩ : ∃ v9, v9 = put3 va (C + 1 + 1) (.int .i64 b) (.int .i64 e) (.slice A9 NL.length c9) := ⟨_, rfl⟩
      have HP9x : Hid (Only (fun j => j = C + 1 + 1) va v9) := by show Only _ _ _; rw [hv9]; exact put3_only _ _ _ _ _
      have HQ9 : Hid (Blk v9 (C + 1 + 1) #[.int .i64 b, .int .i64 e, .slice A9 NL.length c9] 32) := by show Blk _ _ _ _; rw [hv9]; exact put3_blk (by have := HRA.out; unfold zS at this; exact this) _ _ _
      unfold put3 at hv9
      rw [← hv9]
      clear hv9
      obtain ⟨s0, s1, s2, _⟩ := HQ9.out.three
      refine bodyPost_ret (v := .tuple #[.agg #[.int .i64 b, .int .i64 e, .slice A9 NL.length c9], .slice D7 n d7, .int .i64 0]) (by simp [results, Tryz.results16, go_sem, s0, s1, s2]) rfl ?_
      have hz9 := HP7.out.z
      have hzc := HCC.out
      have hze := HPe.out.z
      refine ⟨A9, c9, D7, d7, y, HYE.out.trans HY0.out.symm, by rw [HNL2.out, List.length_take, Nat.min_eq_left HNL.out], ?_, ?_, ?_, ?_⟩
      ·have h1 := (MA.out.only HP9x.out (fun a ha hf => by have := (MA.out.base ha).1; omega)).mono (B' := w.heap.size) (by omega)
       rw [HNL2.out] at h1
       exact h1
      ·have h1 := (MD.out.only HP9x.out (fun a ha hf => by have := (MD.out.base ha).1; omega)).mono (B' := w.heap.size) (by omega)
       rw [List.length_take, Nat.min_eq_left HNL.out]; exact h1
      ·exact (owe_keep OA.out HP9x.out (fun a ha hf => by have := (owe_lt OA.out a ha).1; omega)).base (by omega)
      ·exact HCB.out _ (BA.out.trans (HP9x.out.below (fun j hj => by omega) (by have := HRA.out.lt; omega)))
    ·rw [cut_q, if_neg hcK] at HUS
     have HUR := HUS
     by_cases hq : b < (uu : Int) + cx
     ·have hlt : K < n := by
       rcases Nat.lt_or_ge K n with h | h
       ·exact h
       ·exfalso; have hKn : K = n := by omega
        subst hKn; exact HST.out (HEQ.out.2 hq)
      have d2 : decide (b < (uu : Int) + cx) = true := by simp; omega
      clear hq
      go_wp2_with fail
      refine wp_region_noPanic ?_
      refine wp_region_held_drew (S := fun v => Below wr.heap.size wr v) (by kernel_rfl) (D1) (fun hHeld => ?_)
      refine Rg.th 0 (some 44) (v := ?_) rfl (by kernel_rfl) (fun _ _ _ h => h) (by rfl) (by assumption) ?_ ?_
      rotate_left
      ·intro w hSw; go_simp; first | done | with_reducible rfl
      try simp only [Ap.sc]
      refine Rg.th 1 (some 45) (v := ?_) rfl (by kernel_rfl) (fun _ _ _ h => h) (by rfl) (by assumption) ?_ ?_
      rotate_left
      ·intro w hSw; go_simp; first | done | with_reducible rfl
      try simp only [Ap.sc]
      refine Rg.th 2 (some 46) (v := ?_) rfl (by kernel_rfl) (fun _ _ _ h => h) (by rfl) (by assumption) ?_ ?_
      rotate_left
      ·intro w hSw; go_simp; first | done | with_reducible rfl
      try simp only [Ap.sc]
      refine Rg.th 3 (some 47) (v := ?_) rfl (by kernel_rfl) (fun _ _ _ h => h) (by rfl) (by assumption) ?_ ?_
      rotate_left
      ·intro w hSw; go_simp; first | done | with_reducible rfl
      try simp only [Ap.sc]
      refine Rg.th 4 (some 48) (v := ?_) rfl (by kernel_rfl) (fun _ _ _ h => h) (by rfl) (by assumption) ?_ ?_
      rotate_left
      ·intro w hSw; go_simp; first | done | with_reducible rfl
      try simp only [Ap.sc]
      refine Rg.th 5 (some 49) (v := ?_) rfl (by kernel_rfl) (fun _ _ _ h => h) (by rfl) (by assumption) ?_ ?_
      rotate_left
      ·intro w hSw; go_simp; first | done | with_reducible rfl
      try simp only [Ap.sc]
      refine Rg.th 6 (some 50) (v := ?_) rfl (by kernel_rfl) (fun _ _ _ h => h) (by rfl) (by assumption) ?_ ?_
      rotate_left
      ·intro w hSw; go_simp; first | done | with_reducible rfl
      try simp only [Ap.sc]
      refine Rg.th 7 (some 51) (v := ?_) rfl (by kernel_rfl) (fun _ _ _ h => h) (by rfl) (by assumption) ?_ ?_
      rotate_left
      ·intro w hSw; go_simp; first | done | with_reducible rfl
      try simp only [Ap.sc]
      refine Rg.th 8 (some 52) (v := ?_) rfl (by kernel_rfl) (fun _ _ _ h => h) (by rfl) (by assumption) ?_ ?_
      rotate_left
      ·intro w hSw; go_simp; first | done | with_reducible rfl
      try simp only [Ap.sc]
      refine Rg.th 9 (some 53) (v := ?_) rfl (by kernel_rfl) (fun _ _ _ h => h) (by rfl) (by assumption) ?_ ?_
      rotate_left
      ·intro w hSw; go_simp; first | done | with_reducible rfl
      try simp only [Ap.sc]
      refine Rg.th 10 (some 54) (v := ?_) rfl (by kernel_rfl) (fun _ _ _ h => h) (by rfl) (by assumption) ?_ ?_
      rotate_left
      ·intro w hSw; go_simp; first | done | with_reducible rfl
      try simp only [Ap.sc]
      refine Rg.th 11 (some 55) (v := ?_) rfl (by kernel_rfl) (fun _ _ _ h => h) (by rfl) (by assumption) ?_ ?_
      rotate_left
      ·intro w hSw; go_simp; first | done | with_reducible rfl
      try simp only [Ap.sc]
      refine Rg.th 12 (some 56) (v := ?_) rfl (by kernel_rfl) (fun _ _ _ h => h) (by rfl) (by assumption) ?_ ?_
      rotate_left
      ·intro w hSw; go_simp; first | done | with_reducible rfl
      try simp only [Ap.sc]
      refine Rg.th 13 (some 57) (v := ?_) rfl (by kernel_rfl) (fun _ _ _ h => h) (by rfl) (by assumption) ?_ ?_
      rotate_left
      ·intro w hSw; go_simp; first | done | with_reducible rfl
      try simp only [Ap.sc]
      refine Rg.th 15 (some 59) (v := ?_) rfl (by kernel_rfl) (fun _ _ _ h => h) (by rfl) (by assumption) ?_ ?_
      rotate_left
      ·intro w hSw; go_simp; first | done | with_reducible rfl
      try simp only [Ap.sc]
      refine Rg.th 18 (some 62) (v := ?_) rfl (by kernel_rfl) (fun _ _ _ h => h) (by rfl) (by assumption) ?_ ?_
      rotate_left
      ·intro w hSw; go_simp; first | done | with_reducible rfl
      try simp only [Ap.sc]
      refine Rg.th 19 (some 63) (v := ?_) rfl (by kernel_rfl) (fun _ _ _ h => h) (by rfl) (by assumption) ?_ ?_
      rotate_left
      ·intro w hSw; go_simp; first | done | with_reducible rfl
      try simp only [Ap.sc]
      refine wpAnyH_ready (rs := [14]) (by kernel_rfl) (by simp) ?_
      refine AllReadyH.cons (o := ⟨some 58, _, _, _, _, _⟩) rfl (fun K hK => ?_) AllReadyH.nil
      go_simp
      with_reducible refine (HUR.out _ hHeld).mono ?_
      rintro d3 u3 ⟨rfl, hb⟩
      have K3 := hb
      clear hb
      go_simp
      refine hK.out _ _ (K3) (fun hHeld => ?_)
      clear hK K
      try simp only [Ap.sc]
      refine wpAnyH_ready (rs := [16]) (by kernel_rfl) (by simp) ?_
      refine AllReadyH.cons (o := ⟨some 60, _, _, _, _, _⟩) rfl (fun K hK => ?_) AllReadyH.nil
      go_simp
      with_reducible refine (HCR.out _ hHeld).mono ?_
      rintro d4 u4 ⟨rfl, hb⟩
      have K4 := hb
      clear hb
      go_simp
      refine hK.out _ _ (K4) (fun hHeld => ?_)
      clear hK K
      try simp only [Ap.sc]
      refine Rg.th 17 (some 61) (v := ?_) rfl (by kernel_rfl) (fun _ _ _ h => h) (by rfl) (by assumption) ?_ ?_
      rotate_left
      ·intro w hSw; go_simp; first | done | with_reducible rfl
      try simp only [Ap.sc]
      refine Rg.th 20 (some 64) (v := ?_) rfl (by kernel_rfl) (fun _ _ _ h => h) (by rfl) (by assumption) ?_ ?_
      rotate_left
      ·intro w hSw; go_simp; first | done | with_reducible rfl
      try simp only [Ap.sc]
      refine Rg.th 21 (some 65) (v := ?_) rfl (by kernel_rfl) (fun _ _ _ h => h) (by rfl) (by assumption) ?_ ?_
      rotate_left
      ·intro w hSw; go_simp; first | done | with_reducible rfl
      try simp only [Ap.sc]
      refine wpAnyH_done (by kernel_rfl) ?_ _
      refine NoPanic.normal ?_
      have HB3 := Lib.hid (HBW.out.trans (hHeld.mono HBW.out.size))
      clear hHeld D1 HCR HUR HUS T0 T1 T2 U0 U1 U2 U3 U4 U5
      go_wp2_with fail
      go_roundw
      case rel => exact ⟨K + 1, by omega, by go_num, HB3.out⟩
      case measure => simp [intOf]; omega
     ·have hKn : n = K := by
       rcases Nat.lt_or_ge K n with h | h
       ·exact absurd (HEQ.out.1 (HGO.out K h)) hq
       ·omega
      have d2 : decide (b < (uu : Int) + cx) = false := by simp; omega
      clear hq HGO HST
      subst hKn
      go_wp2_with fail
      refine wp_region_noPanic ?_
      refine wp_region_held_drew (S := fun v => Below wr.heap.size wr v) (by kernel_rfl) (D1) (fun hHeld => ?_)
      refine Rg.th 0 (some 44) (v := ?_) rfl (by kernel_rfl) (fun _ _ _ h => h) (by rfl) (by assumption) ?_ ?_
      rotate_left
      ·intro w hSw; go_simp; first | done | with_reducible rfl
      try simp only [Ap.sc]
      refine Rg.th 1 (some 45) (v := ?_) rfl (by kernel_rfl) (fun _ _ _ h => h) (by rfl) (by assumption) ?_ ?_
      rotate_left
      ·intro w hSw; go_simp; first | done | with_reducible rfl
      try simp only [Ap.sc]
      refine Rg.th 2 (some 46) (v := ?_) rfl (by kernel_rfl) (fun _ _ _ h => h) (by rfl) (by assumption) ?_ ?_
      rotate_left
      ·intro w hSw; go_simp; first | done | with_reducible rfl
      try simp only [Ap.sc]
      refine Rg.th 3 (some 47) (v := ?_) rfl (by kernel_rfl) (fun _ _ _ h => h) (by rfl) (by assumption) ?_ ?_
      rotate_left
      ·intro w hSw; go_simp; first | done | with_reducible rfl
      try simp only [Ap.sc]
      refine Rg.th 4 (some 48) (v := ?_) rfl (by kernel_rfl) (fun _ _ _ h => h) (by rfl) (by assumption) ?_ ?_
      rotate_left
      ·intro w hSw; go_simp; first | done | with_reducible rfl
      try simp only [Ap.sc]
      refine Rg.th 5 (some 49) (v := ?_) rfl (by kernel_rfl) (fun _ _ _ h => h) (by rfl) (by assumption) ?_ ?_
      rotate_left
      ·intro w hSw; go_simp; first | done | with_reducible rfl
      try simp only [Ap.sc]
      refine Rg.th 6 (some 50) (v := ?_) rfl (by kernel_rfl) (fun _ _ _ h => h) (by rfl) (by assumption) ?_ ?_
      rotate_left
      ·intro w hSw; go_simp; first | done | with_reducible rfl
      try simp only [Ap.sc]
      refine Rg.th 7 (some 51) (v := ?_) rfl (by kernel_rfl) (fun _ _ _ h => h) (by rfl) (by assumption) ?_ ?_
      rotate_left
      ·intro w hSw; go_simp; first | done | with_reducible rfl
      try simp only [Ap.sc]
      refine Rg.th 8 (some 52) (v := ?_) rfl (by kernel_rfl) (fun _ _ _ h => h) (by rfl) (by assumption) ?_ ?_
      rotate_left
      ·intro w hSw; go_simp; first | done | with_reducible rfl
      try simp only [Ap.sc]
      refine Rg.th 9 (some 53) (v := ?_) rfl (by kernel_rfl) (fun _ _ _ h => h) (by rfl) (by assumption) ?_ ?_
      rotate_left
      ·intro w hSw; go_simp; first | done | with_reducible rfl
      try simp only [Ap.sc]
      refine Rg.th 10 (some 54) (v := ?_) rfl (by kernel_rfl) (fun _ _ _ h => h) (by rfl) (by assumption) ?_ ?_
      rotate_left
      ·intro w hSw; go_simp; first | done | with_reducible rfl
      try simp only [Ap.sc]
      refine Rg.th 11 (some 55) (v := ?_) rfl (by kernel_rfl) (fun _ _ _ h => h) (by rfl) (by assumption) ?_ ?_
      rotate_left
      ·intro w hSw; go_simp; first | done | with_reducible rfl
      try simp only [Ap.sc]
      refine Rg.th 12 (some 56) (v := ?_) rfl (by kernel_rfl) (fun _ _ _ h => h) (by rfl) (by assumption) ?_ ?_
      rotate_left
      ·intro w hSw; go_simp; first | done | with_reducible rfl
      try simp only [Ap.sc]
      refine Rg.th 13 (some 57) (v := ?_) rfl (by kernel_rfl) (fun _ _ _ h => h) (by rfl) (by assumption) ?_ ?_
      rotate_left
      ·intro w hSw; go_simp; first | done | with_reducible rfl
      try simp only [Ap.sc]
      refine Rg.th 15 (some 59) (v := ?_) rfl (by kernel_rfl) (fun _ _ _ h => h) (by rfl) (by assumption) ?_ ?_
      rotate_left
      ·intro w hSw; go_simp; first | done | with_reducible rfl
      try simp only [Ap.sc]
      refine Rg.th 18 (some 62) (v := ?_) rfl (by kernel_rfl) (fun _ _ _ h => h) (by rfl) (by assumption) ?_ ?_
      rotate_left
      ·intro w hSw; go_simp; first | done | with_reducible rfl
      try simp only [Ap.sc]
      refine Rg.th 19 (some 63) (v := ?_) rfl (by kernel_rfl) (fun _ _ _ h => h) (by rfl) (by assumption) ?_ ?_
      rotate_left
      ·intro w hSw; go_simp; first | done | with_reducible rfl
      try simp only [Ap.sc]
      refine wpAnyH_ready (rs := [14]) (by kernel_rfl) (by simp) ?_
      refine AllReadyH.cons (o := ⟨some 58, _, _, _, _, _⟩) rfl (fun K hK => ?_) AllReadyH.nil
      go_simp
      with_reducible refine (HUR.out _ hHeld).mono ?_
      rintro d3 u3 ⟨rfl, hb⟩
      have K3 := hb
      clear hb
      go_simp
      refine hK.out _ _ (K3) (fun hHeld => ?_)
      clear hK K
      try simp only [Ap.sc]
      refine wpAnyH_ready (rs := [16]) (by kernel_rfl) (by simp) ?_
      refine AllReadyH.cons (o := ⟨some 60, _, _, _, _, _⟩) rfl (fun K hK => ?_) AllReadyH.nil
      go_simp
      with_reducible refine (HCR.out _ hHeld).mono ?_
      rintro d4 u4 ⟨rfl, hb⟩
      have K4 := hb
      clear hb
      go_simp
      refine hK.out _ _ (K4) (fun hHeld => ?_)
      clear hK K
      try simp only [Ap.sc]
      refine Rg.th 17 (some 61) (v := ?_) rfl (by kernel_rfl) (fun _ _ _ h => h) (by rfl) (by assumption) ?_ ?_
      rotate_left
      ·intro w hSw; go_simp; first | done | with_reducible rfl
      try simp only [Ap.sc]
      refine Rg.th 20 (some 64) (v := ?_) rfl (by kernel_rfl) (fun _ _ _ h => h) (by rfl) (by assumption) ?_ ?_
      rotate_left
      ·intro w hSw; go_simp; first | done | with_reducible rfl
      try simp only [Ap.sc]
      refine Rg.th 21 (some 65) (v := ?_) rfl (by kernel_rfl) (fun _ _ _ h => h) (by rfl) (by assumption) ?_ ?_
      rotate_left
      ·intro w hSw; go_simp; first | done | with_reducible rfl
      try simp only [Ap.sc]
      refine wpAnyH_done (by kernel_rfl) ?_ _
      refine NoPanic.normal ?_
      obtain ⟨we, hwe⟩ : ∃ we, we = u4 := ⟨_, rfl⟩
      rw [← hwe] at hHeld ⊢
      clear hwe
      have HPe := Lib.hid (HPr.out.below hHeld)
      have HRe := Lib.hid (HRr.out.below hHeld (Nat.le_refl _))
      have HBE : Hid (Below vs.heap.size vs we) := HBW.out.trans (hHeld.mono HBW.out.size)
      clear hHeld D1 HCR HUR T0 T1 T2 U0 U1 U2 U3 U4 U5
      have HKK := HPe.out.k
      obtain ⟨x0, x1, x2, xf0, xf1, xf2⟩ := HKK.three
      have lg := HKK.lt
      clear HKK
      have HEE := HPe.out.e
      unfold emA at HEE
      obtain ⟨e0, e1, e2, e3, e4, e5, _⟩ := six HEE
      have le := HEE.lt
      clear HEE
      have HRZ := HPe.out.r
      unfold zS at HRZ
      obtain ⟨r0, r1, r2, rf0, rf1, rf2⟩ := HRZ.three
      have lr := HRZ.lt
      clear HRZ
      have S13 := Lib.hid (pre_src HRe.out.r (k := n) (by have := HNL.out; exact this))
      go_upto_region 13 with fail
      go_upto_region 14 with (at_builtin; (refine wpList_mine rfl _ _ elE _ rfl rfl (Mine.nil we.heap.size 6 we) _ rfl n _ S13.out (by omega) (by omega) (Nat.le_refl _) ?_); intro D7 d7 w7 m7 g7 _)
      try simp only [Nat.zero_add]
      have B7 : Hid (Below we.heap.size we w7) := fresh (by exact g7)
      have M7 : Hid (Mine we.heap.size 6 w7 D7 n d7 (emL (R.take n))) := by show Mine _ _ _ _ _ _ _; rw [Nat.zero_add, List.nil_append] at m7; exact m7
      have HP7 := Lib.hid (HPe.out.below B7.out)
      have HR7 := Lib.hid (HRe.out.below B7.out (Nat.le_refl _))
      have HB7 : Hid (Below vs.heap.size vs w7) := HBE.out.trans (B7.out.mono HBE.out.size)
      clear m7 g7 S13 x0 x1 x2 xf0 xf1 xf2 lg e0 e1 e2 e3 e4 e5 le r0 r1 r2 rf0 rf1 rf2 lr
      have D7B : Below w7.heap.size w7 w7.drew := (Below.refl _ _).drew
      have T0 : ∀ v, Below w7.heap.size w7 v → v.cell? ⟨C, 0, none⟩ = some (.int .i64 b) := fun v hv => by have := (HP7.out.below hv).k.cell 0; exact this
      have T1 : ∀ v, Below w7.heap.size w7 v → v.cell? ⟨C, 1, none⟩ = some (.int .i64 e) := fun v hv => by have := (HP7.out.below hv).k.cell 1; exact this
      have T2 : ∀ v, Below w7.heap.size w7 v → v.cell? ⟨C, 2, none⟩ = some (.slice (some q) R.length d) := fun v hv => by have := (HP7.out.below hv).k.cell 2; exact this
      have U0 : ∀ v, Below w7.heap.size w7 v → v.cell? ⟨C + 1, 0, none⟩ = some (.string x.e.k) := fun v hv => by have := (HP7.out.below hv).e.cell 0; exact this
      have U1 : ∀ v, Below w7.heap.size w7 v → v.cell? ⟨C + 1, 1, none⟩ = some (.slice x.A x.e.v.length x.a) := fun v hv => by have := (HP7.out.below hv).e.cell 1; exact this
      have U2 : ∀ v, Below w7.heap.size w7 v → v.cell? ⟨C + 1, 2, none⟩ = some (.slice x.B x.e.t.length x.b) := fun v hv => by have := (HP7.out.below hv).e.cell 2; exact this
      have U3 : ∀ v, Below w7.heap.size w7 v → v.cell? ⟨C + 1, 3, none⟩ = some (.int .u64 x.e.d) := fun v hv => by have := (HP7.out.below hv).e.cell 3; exact this
      have U4 : ∀ v, Below w7.heap.size w7 v → v.cell? ⟨C + 1, 4, none⟩ = some (.int .u64 x.e.n) := fun v hv => by have := (HP7.out.below hv).e.cell 4; exact this
      have U5 : ∀ v, Below w7.heap.size w7 v → v.cell? ⟨C + 1, 5, none⟩ = some (.int .u64 x.e.s) := fun v hv => by have := (HP7.out.below hv).e.cell 5; exact this
      have S14 : Hid (∀ v, Below w7.heap.size w7 v → Src Tryz.prog 6 30 (.slice (some (q.add (n * 6))) (R.length - n) (d - n)) (R.length - n) (emL (R.drop n)) v) := fun v hv => by
       have := cut_src (HR7.out.below hv (Nat.le_refl _)).r (k := n) (by omega)
       rw [cut_q, if_neg hcK] at this
       exact this
      have HCP : Hid (∀ v, Below w7.heap.size w7 v → Calls Tryz.prog 49 #[.agg #[.string x.e.k, .slice x.A x.e.v.length x.a, .slice x.B x.e.t.length x.b, .int .u64 x.e.d, .int .u64 x.e.n, .int .u64 x.e.s]] v (copyPost v x.e)) := fun v hv => copy_any x v ((HXS.out.below HB7.out (Nat.le_refl _)).below hv (Nat.le_refl _))
      unfold copyPost at HCP
      have hz7 := HP7.out.z
      refine wp_region_noPanic ?_
      refine wp_region_G 10 (fun v => Below w7.heap.size w7 v) (by kernel_rfl) ?_
      refine Rg.tg 0 (some 73) (v := ?_) rfl (by kernel_rfl) (fun _ _ _ h => h) (by rfl) (D7B) ?_ ?_
      rotate_left
      ·intro w hSw; go_simp; first | done | with_reducible rfl
      try simp only [Ap.sc]
      refine Rg.tg 1 (some 74) (v := ?_) rfl (by kernel_rfl) (fun _ _ _ h => h) (by rfl) (D7B) ?_ ?_
      rotate_left
      ·intro w hSw; go_simp; first | done | with_reducible rfl
      try simp only [Ap.sc]
      refine Rg.tg 2 (some 75) (v := ?_) rfl (by kernel_rfl) (fun _ _ _ h => h) (by rfl) (D7B) ?_ ?_
      rotate_left
      ·intro w hSw; go_simp; first | done | with_reducible rfl
      try simp only [Ap.sc]
      refine Rg.tg 3 (some 76) (v := ?_) rfl (by kernel_rfl) (fun _ _ _ h => h) (by rfl) (D7B) ?_ ?_
      rotate_left
      ·intro w hSw; go_simp; first | done | with_reducible rfl
      try simp only [Ap.sc]
      refine Rg.tg 5 (some 78) (v := ?_) rfl (by kernel_rfl) (fun _ _ _ h => h) (by rfl) (D7B) ?_ ?_
      rotate_left
      ·intro w hSw; go_simp; first | done | with_reducible rfl
      try simp only [Ap.sc]
      refine wpAnyG_ready (rs := [4]) (by kernel_rfl) (by simp) ?_
      refine AllReadyG.cons (o := ⟨some 77, _, _, _, _, _⟩) rfl (fun K hK => ?_) AllReadyG.nil
      have hzw : w7.heap.size ≤ w7.drew.heap.size := D7B.size
      refine step_mine (by kernel_rfl) _ _ elE _ rfl rfl (Mine.nil w7.heap.size 6 w7.drew) _ rfl (R.length - n) _ (S14.out _ D7B) (by omega) (by omega) hzw ?_
      intro A8 c8 w8 m8 g8 q8
      have M8 : Hid (Mine w7.heap.size 6 w8 A8 (R.length - n) c8 (emL (R.drop n))) := by show Mine _ _ _ _ _ _ _; rw [Nat.zero_add, List.nil_append] at m8; exact m8
      have K8 : Below w7.heap.size w7 w8 := D7B.trans ((fresh (by exact g8)).mono hzw)
      have Q8 : Hid (∀ a, A8 = some a → w7.drew.heap.size ≤ a.block) := fun a ha => by rcases q8 with q | q; rw [q] at ha; cases ha; exact q a ha
      try simp only [Nat.zero_add]
      clear m8 g8 q8
      refine hK.out _ _ (fun _ => K8) ?_
      clear hK K
      try simp only [Ap.sc]
      refine wpAnyG_ready (rs := [6]) (by kernel_rfl) (by simp) ?_
      refine AllReadyG.cons (o := ⟨some 79, _, _, _, _, _⟩) rfl (fun K hK => ?_) AllReadyG.nil
      go_simp
      with_reducible refine (HCP.out _ K8).mono ?_
      rintro dd u6 ⟨y, hye, rfl, oy, hb⟩
      have HYE := Lib.hid hye
      have OY := Lib.hid oy
      have K6 : Below w7.heap.size w7 u6 := bstep K8 hb
      have M86 := Lib.hid (M8.out.below hb (Nat.le_refl _))
      have OB : Hid (w7.heap.size ≤ w8.heap.size) := K8.size
      unfold emV
      clear hye oy hb
      go_simp
      refine hK.out _ _ (fun _ => K6) ?_
      clear hK K
      try simp only [Ap.sc]
      refine wpAnyG_ready (rs := [7]) (by kernel_rfl) (by simp) ?_
      refine AllReadyG.cons (o := ⟨some 80, _, _, _, _, _⟩) rfl (fun K hK => ?_) AllReadyG.nil
      go_simp
      have KA : Below w7.heap.size w7 (u6.alloc (.cells (emA y) 42)) := K6.trans ((bnew _ _).mono K6.size)
      unfold emA at KA
      refine hK.out _ _ (fun _ => KA) ?_
      clear hK K
      try simp only [Ap.sc]
      refine wpAnyG_ready (rs := [8]) (by kernel_rfl) (by simp) ?_
      refine AllReadyG.cons (o := ⟨some 81, _, _, _, _, _⟩) rfl (fun K hK => ?_) AllReadyG.nil
      have hzw9 : w7.heap.size ≤ (u6.alloc (.cells #[.string y.e.k, .slice y.A y.e.v.length y.a, .slice y.B y.e.t.length y.b, .int .u64 y.e.d, .int .u64 y.e.n, .int .u64 y.e.s] 42)).heap.size := KA.size
      refine step_mine (by kernel_rfl) _ _ elE _ rfl rfl (M86.out.below (bnew u6 (.cells #[.string y.e.k, .slice y.A y.e.v.length y.a, .slice y.B y.e.t.length y.b, .int .u64 y.e.d, .int .u64 y.e.n, .int .u64 y.e.s] 42)) (Nat.le_refl _)) _ rfl 1 _ (src_one u6 y) (by omega) (by omega) hzw9 ?_
      intro A9 c9 w9 m9 g9 q9
      obtain ⟨NL, hNL⟩ : ∃ NL, NL = R.drop n ++ [y] := ⟨_, rfl⟩
      have HNL2 := Lib.hid hNL
      have HL9 : Hid ((R.length - n) + 1 = NL.length) := by show _ = _; rw [hNL]; simp
      clear hNL
      have M9 : Hid (Mine w7.heap.size 6 w9 A9 NL.length c9 (emL NL)) := by show Mine _ _ _ _ _ _ _; rw [← HL9.out, HNL2.out, emL_append, emL_one]; exact m9
      have K9 : Below w7.heap.size w7 w9 := KA.trans ((only_row (F := fun j => w7.heap.size ≤ j) g9 (fun a ha => (M86.out.base ha).1)).below (fun _ h => h) hzw9)
      have OY9 : Hid (OwE w7.heap.size w9 y) := owe_keep ((OY.out.base (OB.out)).below (bnew _ _)) (only_row (F := fun j => ∃ a, A8 = some a ∧ a.block = j) g9 (fun a ha => ⟨a, ha, rfl⟩)) (fun a ha => by
       rintro ⟨a8, h8, e8⟩
       have h1 := owe_lt OY.out a ha
       have h2 := (M8.out.base h8).2.1
       omega)
      rw [HL9.out]
      clear m9 g9 q9
      refine hK.out _ _ (fun _ => K9) ?_
      clear hK K
      try simp only [Ap.sc]
      refine Rg.tg 9 (some 82) (v := ?_) rfl (by kernel_rfl) (fun _ _ _ h => h) (by rfl) (K9) ?_ ?_
      rotate_left
      ·intro w hSw; go_simp; first | done | with_reducible rfl
      try simp only [Ap.sc]
      refine wpAnyG_ready (rs := [10]) (by kernel_rfl) (by simp) ?_
      refine AllReadyG.cons (o := ⟨none, _, _, _, _, _⟩) rfl (fun K hK => ?_) AllReadyG.nil
      have HP9 := Lib.hid (HP7.out.below K9)
      obtain ⟨x0, x1, x2, xf0, xf1, xf2⟩ := HP9.out.k.three
      have lg := HP9.out.k.lt
      go_simp
      obtain ⟨va, hva⟩ : ∃ va, va = w9.setCell ⟨C, 2, none⟩ (.slice A9 NL.length c9) := ⟨_, rfl⟩
      have HQA : Hid (Only (fun j => j = C) w9 va) := by show Only _ _ _; rw [hva]; exact only_own (F := fun j => j = C) rfl _
      have HKA : Hid (Blk va C #[.int .i64 b, .int .i64 e, .slice A9 NL.length c9] 32) := by show Blk _ _ _ _; rw [hva]; exact HP9.out.k.set 2 _
      have HRA := Lib.hid (HP9.out.r.only HQA.out (by omega))
      have MA := Lib.hid (M9.out.only HQA.out (fun a ha hf => by have := (M9.out.base ha).1; omega))
      have MD := Lib.hid ((M7.out.below K9 (Nat.le_refl _)).only HQA.out (fun a ha hf => by have := (M7.out.base ha).1; have := HPe.out.z; omega))
      have OA : Hid (OwE w7.heap.size va y) := owe_keep OY9.out HQA.out (fun a ha hf => by have := (owe_lt OY9.out a ha).1; omega)
      have BA : Hid (Below C w va) := HP9.out.b.trans (HQA.out.below (fun j hj => by omega) (by have := HP9.out.z; omega))
      rw [← hva]
      clear hva x0 x1 x2 xf0 xf1 xf2 lg T0 T1 T2 U0 U1 U2 U3 U4 U5
      refine hK.out _ _ (fun h => absurd h (by omega)) ?_
      clear hK K
      try simp only [Ap.sc]
      refine wpAnyG_done (by kernel_rfl) ?_ _
      refine NoPanic.normal ?_
      obtain ⟨x0, x1, x2, _, _, _⟩ := HKA.out.three
      have lg := HKA.out.lt
      have HRZ := HRA.out
      unfold zS at HRZ
      obtain ⟨r0, r1, r2, rf0, rf1, rf2⟩ := HRZ.three
      have lr := HRZ.lt
      clear HRZ
      go_wp2_with fail
      obtain ⟨v9, hv9⟩ : ∃ v9, v9 = put3 va (C + 1 + 1) (.int .i64 b) (.int .i64 e) (.slice A9 NL.length c9) := ⟨_, rfl⟩
      have HP9x : Hid (Only (fun j => j = C + 1 + 1) va v9) := by show Only _ _ _; rw [hv9]; exact put3_only _ _ _ _ _
      have HQ9 : Hid (Blk v9 (C + 1 + 1) #[.int .i64 b, .int .i64 e, .slice A9 NL.length c9] 32) := by show Blk _ _ _ _; rw [hv9]; exact put3_blk (by have := HRA.out; unfold zS at this; exact this) _ _ _
      unfold put3 at hv9
      rw [← hv9]
      clear hv9
      obtain ⟨s0, s1, s2, _⟩ := HQ9.out.three
      refine bodyPost_ret (v := .tuple #[.agg #[.int .i64 b, .int .i64 e, .slice A9 NL.length c9], .slice D7 n d7, .int .i64 0]) (by simp [results, Tryz.results16, go_sem, s0, s1, s2]) rfl ?_
      have hz9 := HP7.out.z
      have hzc := HCC.out
      have hze := HPe.out.z
      refine ⟨A9, c9, D7, d7, y, HYE.out.trans HY0.out.symm, by rw [HNL2.out, List.length_take, Nat.min_eq_left HNL.out], ?_, ?_, ?_, ?_⟩
      ·have h1 := (MA.out.only HP9x.out (fun a ha hf => by have := (MA.out.base ha).1; omega)).mono (B' := w.heap.size) (by omega)
       rw [HNL2.out] at h1
       exact h1
      ·have h1 := (MD.out.only HP9x.out (fun a ha hf => by have := (MD.out.base ha).1; omega)).mono (B' := w.heap.size) (by omega)
       rw [List.length_take, Nat.min_eq_left HNL.out]; exact h1
      ·exact (owe_keep OA.out HP9x.out (fun a ha hf => by have := (owe_lt OA.out a ha).1; omega)).base (by omega)
      ·exact HCB.out _ (BA.out.trans (HP9x.out.below (fun j hj => by omega) (by have := HRA.out.lt; omega)))
end
end Go.Proofs.YtlmljhnogmfcfaaGreat.Ej
