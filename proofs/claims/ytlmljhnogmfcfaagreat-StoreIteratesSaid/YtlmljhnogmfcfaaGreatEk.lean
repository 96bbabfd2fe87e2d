/- Proves what the specification's Expire returns. Conditions: as each theorem names them. -/
import Derived.Test.YtlmljhnogmfcfaaGreatRg
import Derived.Test.YtlmljhnogmfcfaaGreatEi
import Derived.Deep.RegionHeld3
namespace Go.Proofs.YtlmljhnogmfcfaaGreat.Ek
open Go.RowKit Ap Mi Nw Rg Ea Eb Ec Ed Ef Eg Eh Ei

theorem cut_q (q : Addr) (K c : Nat) : cutM (some q) 6 K c = if c = K then some q else some (q.add (K * 6)) := by
 unfold cutM
 split <;> rfl
section
variable {G : Nat → Prop} {A : Option Addr} {c : Nat} {l : List Em} {w : World}
def expPost (b e now : Int) (w : World) (l : List Em) : Ending → World → Prop := fun q w' => ∃ D d E f, q = .returned (.tuple #[mV b e D (expS Em.e now l).length d, .slice E (expG Em.e now l).length f]) ∧
 Mine w.heap.size 6 w' D (expS Em.e now l).length d (emL (expS Em.e now l)) ∧ Mine w.heap.size 6 w' E (expG Em.e now l).length f (emL (expG Em.e now l)) ∧ Below w.heap.size w w'
structure Rw (B : Nat) (v : World) (D : Option Addr) (d : Nat) (ss : List Em) (E : Option Addr) (f : Nat) (gg : List Em) : Prop where
 s : Mine B 6 v D ss.length d (emL ss)
 g : Mine B 6 v E gg.length f (emL gg)
 a : ∀ a b, D = some a → E = some b → a.block ≠ b.block
theorem Rw.below {B : Nat} {v v' : World} {D : Option Addr} {d : Nat} {ss : List Em} {E : Option Addr} {f : Nat} {gg : List Em} (h : Rw B v D d ss E f gg) (hb : Below v.heap.size v v') : Rw B v' D d ss E f gg :=
 ⟨h.s.below hb (Nat.le_refl _), h.g.below hb (Nat.le_refl _), h.a⟩
theorem Rw.push {B : Nat} {v v' : World} {D D' : Option Addr} {d d' : Nat} {ss : List Em} {E : Option Addr} {f : Nat} {gg : List Em} {x : Em} {o : Obj} (h : Rw B v D d ss E f gg)
  (m : Mine B 6 v' D' (ss.length + 1) d' (emL ss ++ emC x)) (g : (v.alloc o).grownBy v' (D.map (·.block))) (hz : B ≤ v.heap.size) (q : D' = D ∨ ∀ a, D' = some a → v.heap.size + 1 ≤ a.block) : Rw B v' D' d' (ss ++ [x]) E f gg ∧ Below B v v' := by
 have ho : Only (fun j => ∃ a, D = some a ∧ a.block = j) (v.alloc o) v' := only_row g (fun a ha => ⟨a, ha, rfl⟩)
 have hb := bnew v o
 refine ⟨⟨?_, ?_, ?_⟩, ?_⟩
 ·rw [emL_append, emL_one, List.length_append]; exact m
 ·exact (h.g.below hb (Nat.le_refl _)).only ho (fun b hb1 ⟨a, ha, e⟩ => h.a a b ha hb1 e)
 ·intro a b ha hb1 e
  rcases q with q | q
  ·exact h.a a b (by rw [← q]; exact ha) hb1 e
  ·have h1 := q a ha
   have h2 := (h.g.base hb1).2.1
   omega
 ·exact (hb.mono hz).trans (ho.below (fun j ⟨a, ha, e⟩ => by have := (h.s.base ha).1; omega) (by simp; omega))
set_option maxRecDepth 100000 in
set_option maxHeartbeats 4000000 in
theorem exp_any (b e now : Int) (hl : RL G w A c l) (hn : l.length ≤ 1000) :
  Calls Tryz.prog 55 #[mV b e A l.length c, .int .u64 now] w (expPost b e now w l) := by
 obtain ⟨v0, hv0⟩ : ∃ v0, v0 = (w.alloc (.cells (mA b e A l.length c) 32)).alloc (.cells zS 32) := ⟨_, rfl⟩
 have HT0 : Hid (Bi w v0 w.heap.size (mA b e A l.length c)) := by show Bi _ _ _ _; rw [hv0]; exact bi_new _ _
 obtain ⟨C, hC⟩ : ∃ C, C = w.heap.size := ⟨_, rfl⟩
 rw [← hC] at HT0
 have HCB : Hid (∀ v, Below C w v → Below w.heap.size w v) := fun v h => by rw [← hC]; exact h
 have HCC : Hid (w.heap.size ≤ C) := by show _ ≤ _; omega
 have hcm := Rs.max hl.r
 have hcl := Rs.le hl.r
 unfold maxLen at hcm
 have hzC1 := HT0.out.z1; have hzC2 := HT0.out.z2
 have HKK := HT0.out.k
 unfold mA at HKK
 obtain ⟨x0, x1, x2, xf0, xf1, xf2⟩ := HKK.three
 have lg := HKK.lt
 have HL := Lib.hid (hl.below HT0.out.b (by omega))
 have HSS : Hid (∀ K (h : K < l.length), expS Em.e now (l.take (K + 1)) = expS Em.e now (l.take K) ++ (if dueE l[K].e.d now then [] else [l[K]])) := fun K h => by rw [List.take_succ_eq_append_getElem h, expS_snoc]
 have HGG : Hid (∀ K (h : K < l.length), expG Em.e now (l.take (K + 1)) = if dueE l[K].e.d now then insE Em.e l[K] (expG Em.e now (l.take K)) else expG Em.e now (l.take K)) := fun K h => by rw [List.take_succ_eq_append_getElem h, expG_snoc]
 have HLN : Hid (∀ K, K ≤ l.length → (expS Em.e now (l.take K)).length ≤ 1000 ∧ (expG Em.e now (l.take K)).length ≤ 1000) := fun K h => by have h1 := exp_len Em.e now (l.take K); rw [List.length_take] at h1; omega
 have HEN : Hid (expS Em.e now (l.take l.length) = expS Em.e now l ∧ expG Em.e now (l.take l.length) = expG Em.e now l) := by show _ ∧ _; rw [List.take_length]; exact ⟨rfl, rfl⟩
 have HGM : Hid (∀ K, ∀ y ∈ expG Em.e now (l.take K), y ∈ l) := fun K y hy => List.mem_of_mem_take (expG_mem hy)
 unfold mA zS at hv0
 unfold expPost mV
 clear hl HKK
 go_enter Tryz.func55, Tryz.ntmps55
 go_upto_region 1 with fail
 rw [← hv0, ← hC]
 clear hv0 hC
 go_wp2_with fail
 go_loopw [6, 7, 8, 9, 10, 11] (fun st gn i _ _ _ wr => ∃ (K : Nat) (D : Option Addr) (d : Nat) (E : Option Addr) (f : Nat), K ≤ l.length ∧ i = .int .i64 (K : Int) ∧ st = .slice D (expS Em.e now (l.take K)).length d ∧ gn = .slice E (expG Em.e now (l.take K)).length f ∧ Rw (C + 2) wr D d (expS Em.e now (l.take K)) E f (expG Em.e now (l.take K)) ∧ Below (C + 2) v0 wr) (fun _ _ i _ _ _ _ => l.length - (intOf i).toNat)
 case atStart => exact ⟨0, none, 0, none, 0, Nat.zero_le _, rfl, rfl, rfl, ⟨Mine.nil _ _ _, Mine.nil _ _ _, fun a b h => by cases h⟩, Below.refl _ _⟩
 case round =>
  obtain ⟨K, D, d, E, f, hK, rfl, rfl, rfl, hrw, hb⟩ := hrel
  obtain ⟨hs1, hg1⟩ := HLN.out K hK
  have HRW := Lib.hid hrw; have HB := Lib.hid hb
  have hd1 := hrw.s.le; have hd2 := hrw.s.max; have hf1 := hrw.g.le; have hf2 := hrw.g.max
  unfold maxLen at hd2 hf2
  have HK2 := Lib.hid (HT0.out.k.below hb (by omega))
  have HR2 := Lib.hid (HT0.out.r.below hb (by omega))
  have hzw : C + 2 ≤ wr.heap.size := by have := hb.size; omega
  clear hrw hb
  clear x0 x1 x2 xf0 xf1 xf2 lg
  have HKK := HK2.out
  unfold mA at HKK
  obtain ⟨x0, x1, x2, xf0, xf1, xf2⟩ := HKK.three
  have lg := HKK.lt
  clear HKK
  by_cases hlt : K < l.length
  ·have j1 : (K : Int) < (l.length : Int) := by omega
   have HS3 := Lib.hid (HSS.out K hlt)
   have HG3 := Lib.hid (HGG.out K hlt)
   obtain ⟨bb, o, rfl, lb, a0, a1, a2, a3, a4, a5⟩ := (HL.out.below HB.out (by omega)).at_ hlt
   obtain ⟨x, hx⟩ : ∃ x, x = l[K] := ⟨_, rfl⟩
   have HX := Lib.hid hx
   rw [← hx] at a0 a1 a2 a3 a4 a5 HS3 HG3
   obtain ⟨ss, hss⟩ : ∃ ss, ss = expS Em.e now (l.take K) := ⟨_, rfl⟩
   have HGMK : Hid (∀ y ∈ expG Em.e now (l.take K), y ∈ l) := HGM.out K
   obtain ⟨gg, hgg⟩ : ∃ gg, gg = expG Em.e now (l.take K) := ⟨_, rfl⟩
   rw [← hss] at HS3 HRW hs1 hd1 ⊢
   rw [← hgg] at HG3 HRW hg1 hf1 HGMK ⊢
   clear hx hss hgg
   obtain ⟨v2, hv2⟩ : ∃ v2, v2 = wr.alloc (.cells #[.string x.e.k, .slice x.A x.e.v.length x.a, .slice x.B x.e.t.length x.b, .int .u64 x.e.d, .int .u64 x.e.n, .int .u64 x.e.s] 42) := ⟨_, rfl⟩
   obtain ⟨X, hX⟩ : ∃ X, X = wr.heap.size := ⟨_, rfl⟩
   have HB2 : Hid (Below wr.heap.size wr v2) := by show Below _ _ _; rw [hv2]; exact bnew _ _
   have HZ2 : Hid (Blk v2 X #[.string x.e.k, .slice x.A x.e.v.length x.a, .slice x.B x.e.t.length x.b, .int .u64 x.e.d, .int .u64 x.e.n, .int .u64 x.e.s] 42) := by show Blk _ _ _ _; rw [hv2, hX]; exact Blk.new wr _ _
   have hzX : v2.heap.size ≤ X + 1 := by rw [hv2, hX]; simp
   have hzX2 : X + 1 ≤ v2.heap.size := by rw [hv2, hX]; simp
   have hXC : C + 2 ≤ X := by omega
   have HRW2 := Lib.hid (HRW.out.below HB2.out)
   have HBV : Hid (Below (C + 2) v0 v2) := HB.out.trans (HB2.out.mono (by omega))
   have HKV := Lib.hid (HK2.out.below HB2.out (by omega))
   have HDU := Lib.hid (due_any x.e.d now v2)
   go_upto_region 6 with fail
   rw [← hv2, ← hX]
   clear hv2 hX x0 x1 x2 xf0 xf1 xf2 lg a0 a1 a2 a3 a4 a5
   obtain ⟨z0, z1, z2, z3, z4, z5, _⟩ := six HZ2.out
   have lz := HZ2.out.lt
   go_wp2_with fail
   refine HDU.out.mono ?_
   rintro q v3 ⟨rfl, rfl⟩
   by_cases hdue : dueE x.e.d now = true
   ·rw [hdue]
    rw [if_pos hdue] at HS3 HG3
    have HRG : Hid (RL (fun _ => True) v3 E f gg) := ⟨Rs.mine HRW2.out.g, fun _ _ => trivial, fun y hy => ((HL.out.e y (HGMK.out y hy)).below (HBV.out) (by omega)).mono (fun _ _ => trivial)⟩
    clear hdue
    rcases E with _ | q
    ·have hg0 : gg = [] := by
      have h1 := HRG.out.r.non rfl
      have h2 := Rs.le HRG.out.r
      exact List.eq_nil_of_length_eq_zero (by omega)
     have hf0 : f = 0 := HRG.out.r.non rfl
     subst hg0; subst hf0
     have HINN : Hid (insE Em.e x [] = [] ++ x :: []) := rfl
     go_wp2_with fail
     go_loopw [10] (fun s wi => s = .int .i64 0 ∧ ∃ n, wi = v3.drewN n) (fun _ _ => 0)
     case atStart => exact ⟨rfl, 0, rfl⟩
     case round =>
      obtain ⟨rfl, nq0, rfl⟩ := hrel
      have d0 : decide ((0 : Int) < 0) = false := by decide
      have d1 : decide (0 < 0) = false := by decide
      go_wp2_with fail
      go_quiet (fail)
      obtain ⟨vt, hvt⟩ : ∃ vt, vt = (v3.drewN nq0).drewN nq := ⟨_, rfl⟩
      have HBT : Hid (Below v3.heap.size v3 vt) := by show Below _ _ _; rw [hvt]; exact below_drewN (below_drewN (Below.refl _ _) nq0) nq
      rw [← hvt]
      clear hvt
      have HGT := Lib.hid (HRG.out.below HBT.out (Nat.le_refl _))
      have HRWT := Lib.hid (HRW2.out.below HBT.out)
      have HZT := Lib.hid (HZ2.out.below HBT.out lz)
      have hzt := HBT.out.size
      clear z0 z1 z2 z3 z4 z5
      have U0 : ∀ v, Below vt.heap.size vt v → v.cell? ⟨X, 0, none⟩ = some (.string x.e.k) := fun v hv => by have := (HZT.out.below hv (by omega)).cell 0; exact this
      have U1 : ∀ v, Below vt.heap.size vt v → v.cell? ⟨X, 1, none⟩ = some (.slice x.A x.e.v.length x.a) := fun v hv => by have := (HZT.out.below hv (by omega)).cell 1; exact this
      have U2 : ∀ v, Below vt.heap.size vt v → v.cell? ⟨X, 2, none⟩ = some (.slice x.B x.e.t.length x.b) := fun v hv => by have := (HZT.out.below hv (by omega)).cell 2; exact this
      have U3 : ∀ v, Below vt.heap.size vt v → v.cell? ⟨X, 3, none⟩ = some (.int .u64 x.e.d) := fun v hv => by have := (HZT.out.below hv (by omega)).cell 3; exact this
      have U4 : ∀ v, Below vt.heap.size vt v → v.cell? ⟨X, 4, none⟩ = some (.int .u64 x.e.n) := fun v hv => by have := (HZT.out.below hv (by omega)).cell 4; exact this
      have U5 : ∀ v, Below vt.heap.size vt v → v.cell? ⟨X, 5, none⟩ = some (.int .u64 x.e.s) := fun v hv => by have := (HZT.out.below hv (by omega)).cell 5; exact this
      have D1 : Below vt.heap.size vt vt.drew := (Below.refl _ _).drew
      have SC : Hid (∀ v, Below vt.heap.size vt v → Src Tryz.prog 6 30 (.slice none 0 0) 0 (emL ([])) v) := fun v hv => by
       exact Src.ofNil _ Tryz.underlying30 0
      go_wp2_with fail
      refine wp_region_noPanic ?_
      refine wp_region_held_drew (S := fun v => Below vt.heap.size vt v) (by kernel_rfl) (D1) (fun hHeld => ?_)
      refine Rg.th 0 (some 69) (v := ?_) rfl (by kernel_rfl) (fun _ _ _ h => h) (by rfl) (by assumption) ?_ ?_
      rotate_left
      ·intro w hSw; go_simp; first | done | with_reducible rfl
      try simp only [Ap.sc]
      refine Rg.th 2 (some 71) (v := ?_) rfl (by kernel_rfl) (fun _ _ _ h => h) (by rfl) (by assumption) ?_ ?_
      rotate_left
      ·intro w hSw; go_simp; first | done | with_reducible rfl
      try simp only [Ap.sc]
      refine Rg.th 3 (some 72) (v := ?_) rfl (by kernel_rfl) (fun _ _ _ h => h) (by rfl) (by assumption) ?_ ?_
      rotate_left
      ·intro w hSw; go_simp; first | done | with_reducible rfl
      try simp only [Ap.sc]
      refine Rg.th 4 (some 73) (v := ?_) rfl (by kernel_rfl) (fun _ _ _ h => h) (by rfl) (by assumption) ?_ ?_
      rotate_left
      ·intro w hSw; go_simp; first | done | with_reducible rfl
      try simp only [Ap.sc]
      refine wpAnyH_ready (rs := [1]) (by kernel_rfl) (by simp) ?_
      refine AllReadyH.cons (o := ⟨some 70, _, _, _, _, _⟩) rfl (fun K hK => ?_) AllReadyH.nil
      go_simp
      have KA : Below vt.heap.size vt (vt.drew.alloc (.cells #[.string x.e.k, .slice x.A x.e.v.length x.a, .slice x.B x.e.t.length x.b, .int .u64 x.e.d, .int .u64 x.e.n, .int .u64 x.e.s] 42)) := D1.trans ((bnew _ _).mono D1.size)
      refine hK.out _ _ (KA) (fun hHeld => ?_)
      clear hK K
      try simp only [Ap.sc]
      refine wpAnyH_ready (rs := [5]) (by kernel_rfl) (by simp) ?_
      refine AllReadyH.cons (o := ⟨some 74, _, _, _, _, _⟩) rfl (fun K hK => ?_) AllReadyH.nil
      have MA : Mine vt.heap.size 6 (vt.drew.alloc (.cells (emA x) 42)) (some ⟨vt.heap.size, 0, none⟩) 1 1 (emC x) := Mine.lit vt.drew (emA x) 42 1 rfl (by unfold maxLen; omega)
      unfold emA at MA
      refine step_mine (by kernel_rfl) _ _ elE _ rfl rfl MA _ rfl 0 _ (SC.out _ KA) (by omega) (by omega) KA.size ?_
      intro A5 c5 w5 m5 g5 q5
      have K5 : Below vt.heap.size vt w5 := KA.trans ((only_row (F := fun j => vt.heap.size ≤ j) g5 (fun a ha => (MA.base ha).1)).below (fun _ h => h) KA.size)
      have HL5 : Hid (1 + 0 = (x :: ([] : List Em)).length) := by show _ = _; simp
      have M5 : Hid (Mine vt.heap.size 6 w5 A5 (x :: ([] : List Em)).length c5 (emL (x :: ([] : List Em)))) := by show Mine _ _ _ _ _ _ _; rw [← HL5.out, emL_cons]; exact m5
      rw [HL5.out]
      obtain ⟨rl, hrl⟩ : ∃ rl, rl = x :: ([] : List Em) := ⟨_, rfl⟩
      have HRL2 := Lib.hid hrl
      rw [← hrl] at M5
      rw [← hrl]
      clear hrl m5 g5 q5 MA
      refine hK.out _ _ (K5) (fun hHeld => ?_)
      clear hK K
      try simp only [Ap.sc]
      refine Rg.th 6 (some 11) (v := ?_) rfl (by kernel_rfl) (fun _ _ _ h => h) (by rfl) (by assumption) ?_ ?_
      rotate_left
      ·intro w hSw; go_simp; first | done | with_reducible rfl
      try simp only [Ap.sc]
      refine wpAnyH_done (by kernel_rfl) ?_ _
      refine NoPanic.normal ?_
      have HK5 := Lib.hid hHeld
      have HGT5 := Lib.hid (HGT.out.below hHeld (Nat.le_refl _))
      have hz5 := hHeld.size
      clear hHeld D1 U0 U1 U2 U3 U4 U5
      have S13 := Lib.hid (pre_src HGT5.out.r (k := 0) (by simp))
      rw [List.take_nil] at S13
      have hrb : rl.length ≤ 1001 := by rw [HRL2.out]; simp
      go_upto_region 12 with fail
      go_wp2_with (at_builtin; (refine wpList_mine rfl _ _ elE _ rfl rfl (Mine.nil vt.heap.size 6 w5) _ rfl 0 _ S13.out (by omega) (by omega) hz5 ?_))
      intro A6 c6 w6 m6 g6 q6
      have B6 : Hid (Below w5.heap.size w5 w6) := fresh (by exact g6)
      have M6 : Hid (Mine vt.heap.size 6 w6 A6 0 c6 (emL ([]))) := by show Mine _ _ _ _ _ _ _; first | exact m6 | (rw [Nat.zero_add, List.nil_append] at m6; exact m6)
      try simp only [Nat.zero_add]
      have hz6 := B6.out.size
      have S14 := Lib.hid ((Rs.mine (M5.out.below B6.out (Nat.le_refl _))).src (P := Tryz.prog) Tryz.underlying30 (by omega) (emL_one' _))
      clear m6 g6 q6
      go_wp2_with (at_builtin; (refine wpList_mine rfl _ _ elE _ rfl rfl M6.out _ rfl rl.length _ S14.out (by omega) (by omega) (by omega) ?_))
      intro A7 c7 w7 m7 g7 q7
      have B7 : Hid (Below vt.heap.size vt w7) := (HK5.out.trans (B6.out.mono hz5)).trans ((only_row (F := fun j => vt.heap.size ≤ j) g7 (fun a ha => (M6.out.base ha).1)).below (fun _ h => h) (by omega))
      have HINS : Hid ((expG Em.e now (l.take (K + 1))) = ([] : List Em) ++ rl) := by show _ = _; rw [HG3.out, HRL2.out]; exact HINN.out
      have HLI : Hid (rl.length = (expG Em.e now (l.take (K + 1))).length) := by show _ = _; rw [HINS.out]; simp
      have M7 : Hid (Mine vt.heap.size 6 w7 A7 (expG Em.e now (l.take (K + 1))).length c7 (emL (expG Em.e now (l.take (K + 1))))) := by show Mine _ _ _ _ _ _ _; rw [← HLI.out, HINS.out, emL_append]; exact m7
      have HSL : Hid (ss = expS Em.e now (l.take (K + 1))) := by show _ = _; rw [HS3.out, List.append_nil]
      have HRW7 : Hid (Rw (C + 2) w7 D d ss A7 c7 (expG Em.e now (l.take (K + 1)))) := ⟨HRWT.out.s.below B7.out (Nat.le_refl _), M7.out.mono (by omega), fun a a2 ha ha2 e => by have h1 := (HRWT.out.s.base ha).2.1; have h2 := (M7.out.base ha2).1; omega⟩
      have HB7 : Hid (Below (C + 2) v0 w7) := (HBV.out.trans (HBT.out.mono (by omega))).trans (B7.out.mono (by omega))
      rw [HLI.out]
      clear m7 g7 q7
      go_wp2_with fail
      go_roundw
      case rel => exact ⟨K + 1, D, d, A7, c7, by omega, by go_num, by rw [← HSL.out], rfl, by rw [← HSL.out]; exact HRW7.out, HB7.out⟩
      case measure => simp [intOf]; omega
    ·go_wp2_with fail
     go_loopw [10] (fun s wi => ∃ J : Nat, J ≤ gg.length ∧ s = .int .i64 (J : Int) ∧ Hid (∀ i (h : i < gg.length), i < J → ltE gg[i].e x.e = true) ∧ ∃ n, wi = v3.drewN n) (fun s _ => gg.length - (intOf s).toNat)
     case atStart => exact ⟨0, Nat.zero_le _, rfl, (fun i h hi => by omega), 0, rfl⟩
     case round =>
      obtain ⟨J, hJ, rfl, HP, nq0, rfl⟩ := hrel
      have hgl := HRW2.out.g.le
      have hq0 : q.add 0 = q := by unfold Addr.add; simp
      have hq1 : q.add (0 * 6) = q := hq0
      have kf : (J : Int) ≤ (f : Int) := by omega
      have kI : (J : Int) ≤ (gg.length : Int) := by omega
      have k0 : (0 : Int) ≤ (J : Int) := by omega
      by_cases hJl : J < gg.length
      ·have d0 : decide ((J : Int) < (gg.length : Int)) = true := by simp; omega
       have d0n : decide (J < gg.length) = true := by simp; omega
       have hfJ : ¬ f = J := by omega
       obtain ⟨qb, qo, hq, lq, y0, _, _, y3, _, _⟩ := HRG.out.at_ hJl
       injection hq with hq
       subst hq
       obtain ⟨y, hy⟩ : ∃ y, y = gg[J] := ⟨_, rfl⟩
       have HY := Lib.hid hy
       rw [← hy] at y0 y3
       clear hy
       by_cases h1 : y.e.d < x.e.d
       ·have HLT : Hid (ltE y.e x.e = true) := by show _ = _; unfold ltE; simp [h1]
        have HP2 : Hid (∀ i (h : i < gg.length), i < J + 1 → ltE gg[i].e x.e = true) := fun i h hi => by
         by_cases ei : i = J
         ·subst ei; rw [← HY.out]; exact HLT.out
         ·exact HP.out i h (by omega)
        have d1 : decide (y.e.d < x.e.d) = true := by simpa using h1
        clear h1
        go_wp2_with fail
        go_quiet (fail)
        go_wp2_with fail
        go_roundw
        case rel => exact ⟨J + 1, by omega, by go_num, HP2, (by first | exact ⟨_, rfl⟩ | exact ⟨_, by rw [World.drewN_drewN]⟩)⟩
        case measure => simp [intOf]; omega
       have d1 : decide (y.e.d < x.e.d) = false := by simpa using h1
       by_cases h2 : y.e.d = x.e.d
       ·have d2 : (y.e.d == x.e.d) = true := by simpa using h2
        by_cases h3 : Op.bytesLess y.e.k.toList x.e.k.toList = true
        ·have HLT : Hid (ltE y.e x.e = true) := by show _ = _; unfold ltE; simp [h2, h3]
         have HP2 : Hid (∀ i (h : i < gg.length), i < J + 1 → ltE gg[i].e x.e = true) := fun i h hi => by
          by_cases ei : i = J
          ·subst ei; rw [← HY.out]; exact HLT.out
          ·exact HP.out i h (by omega)
         clear h1 h2
         go_wp2_with fail
         go_quiet (fail)
         go_wp2_with fail
         go_roundw
         case rel => exact ⟨J + 1, by omega, by go_num, HP2, (by first | exact ⟨_, rfl⟩ | exact ⟨_, by rw [World.drewN_drewN]⟩)⟩
         case measure => simp [intOf]; omega
        ·have HLT : Hid (ltE y.e x.e = false) := by show _ = _; unfold ltE; simp [h2, h3]
         have d3 : Op.bytesLess y.e.k.toList x.e.k.toList = false := by simpa using h3
         clear h1 h2 h3
         have HINN : Hid (insE Em.e x gg = gg.take J ++ x :: gg.drop J) := insE_at Em.e x hJ HP.out (fun hk => by rw [← HY.out]; exact HLT.out)
         go_wp2_with fail
         go_quiet (fail)
         clear y0 y3
         obtain ⟨vt, hvt⟩ : ∃ vt, vt = (v3.drewN nq0).drewN nq := ⟨_, rfl⟩
         have HBT : Hid (Below v3.heap.size v3 vt) := by show Below _ _ _; rw [hvt]; exact below_drewN (below_drewN (Below.refl _ _) nq0) nq
         rw [← hvt]
         clear hvt
         have HGT := Lib.hid (HRG.out.below HBT.out (Nat.le_refl _))
         have HRWT := Lib.hid (HRW2.out.below HBT.out)
         have HZT := Lib.hid (HZ2.out.below HBT.out lz)
         have hzt := HBT.out.size
         clear z0 z1 z2 z3 z4 z5
         have U0 : ∀ v, Below vt.heap.size vt v → v.cell? ⟨X, 0, none⟩ = some (.string x.e.k) := fun v hv => by have := (HZT.out.below hv (by omega)).cell 0; exact this
         have U1 : ∀ v, Below vt.heap.size vt v → v.cell? ⟨X, 1, none⟩ = some (.slice x.A x.e.v.length x.a) := fun v hv => by have := (HZT.out.below hv (by omega)).cell 1; exact this
         have U2 : ∀ v, Below vt.heap.size vt v → v.cell? ⟨X, 2, none⟩ = some (.slice x.B x.e.t.length x.b) := fun v hv => by have := (HZT.out.below hv (by omega)).cell 2; exact this
         have U3 : ∀ v, Below vt.heap.size vt v → v.cell? ⟨X, 3, none⟩ = some (.int .u64 x.e.d) := fun v hv => by have := (HZT.out.below hv (by omega)).cell 3; exact this
         have U4 : ∀ v, Below vt.heap.size vt v → v.cell? ⟨X, 4, none⟩ = some (.int .u64 x.e.n) := fun v hv => by have := (HZT.out.below hv (by omega)).cell 4; exact this
         have U5 : ∀ v, Below vt.heap.size vt v → v.cell? ⟨X, 5, none⟩ = some (.int .u64 x.e.s) := fun v hv => by have := (HZT.out.below hv (by omega)).cell 5; exact this
         have D1 : Below vt.heap.size vt vt.drew := (Below.refl _ _).drew
         have SC : Hid (∀ v, Below vt.heap.size vt v → Src Tryz.prog 6 30 (.slice (some ⟨qb, qo + J * 6, none⟩) (gg.length - J) (f - J)) (gg.length - J) (emL (gg.drop J)) v) := fun v hv => by
          have := cut_src (HGT.out.below hv (Nat.le_refl _)).r (k := J) (by omega)
          rw [cut_lit, if_neg hfJ] at this
          exact this
         go_wp2_with fail
         refine wp_region_noPanic ?_
         refine wp_region_held_drew (S := fun v => Below vt.heap.size vt v) (by kernel_rfl) (D1) (fun hHeld => ?_)
         refine Rg.th 0 (some 69) (v := ?_) rfl (by kernel_rfl) (fun _ _ _ h => h) (by rfl) (by assumption) ?_ ?_
         rotate_left
         ·intro w hSw; go_simp; first | done | with_reducible rfl
         try simp only [Ap.sc]
         refine Rg.th 2 (some 71) (v := ?_) rfl (by kernel_rfl) (fun _ _ _ h => h) (by rfl) (by assumption) ?_ ?_
         rotate_left
         ·intro w hSw; go_simp; first | done | with_reducible rfl
         try simp only [Ap.sc]
         refine Rg.th 3 (some 72) (v := ?_) rfl (by kernel_rfl) (fun _ _ _ h => h) (by rfl) (by assumption) ?_ ?_
         rotate_left
         ·intro w hSw; go_simp; first | done | with_reducible rfl
         try simp only [Ap.sc]
         refine Rg.th 4 (some 73) (v := ?_) rfl (by kernel_rfl) (fun _ _ _ h => h) (by rfl) (by assumption) ?_ ?_
         rotate_left
         ·intro w hSw; go_simp; first | done | with_reducible rfl
         try simp only [Ap.sc]
         refine wpAnyH_ready (rs := [1]) (by kernel_rfl) (by simp) ?_
         refine AllReadyH.cons (o := ⟨some 70, _, _, _, _, _⟩) rfl (fun K hK => ?_) AllReadyH.nil
         go_simp
         have KA : Below vt.heap.size vt (vt.drew.alloc (.cells #[.string x.e.k, .slice x.A x.e.v.length x.a, .slice x.B x.e.t.length x.b, .int .u64 x.e.d, .int .u64 x.e.n, .int .u64 x.e.s] 42)) := D1.trans ((bnew _ _).mono D1.size)
         refine hK.out _ _ (KA) (fun hHeld => ?_)
         clear hK K
         try simp only [Ap.sc]
         refine wpAnyH_ready (rs := [5]) (by kernel_rfl) (by simp) ?_
         refine AllReadyH.cons (o := ⟨some 74, _, _, _, _, _⟩) rfl (fun K hK => ?_) AllReadyH.nil
         have MA : Mine vt.heap.size 6 (vt.drew.alloc (.cells (emA x) 42)) (some ⟨vt.heap.size, 0, none⟩) 1 1 (emC x) := Mine.lit vt.drew (emA x) 42 1 rfl (by unfold maxLen; omega)
         unfold emA at MA
         refine step_mine (by kernel_rfl) _ _ elE _ rfl rfl MA _ rfl (gg.length - J) _ (SC.out _ KA) (by omega) (by omega) KA.size ?_
         intro A5 c5 w5 m5 g5 q5
         have K5 : Below vt.heap.size vt w5 := KA.trans ((only_row (F := fun j => vt.heap.size ≤ j) g5 (fun a ha => (MA.base ha).1)).below (fun _ h => h) KA.size)
         have HL5 : Hid (1 + (gg.length - J) = (x :: gg.drop J).length) := by show _ = _; simp <;> omega
         have M5 : Hid (Mine vt.heap.size 6 w5 A5 (x :: gg.drop J).length c5 (emL (x :: gg.drop J))) := by show Mine _ _ _ _ _ _ _; rw [← HL5.out, emL_cons]; exact m5
         rw [HL5.out]
         obtain ⟨rl, hrl⟩ : ∃ rl, rl = x :: gg.drop J := ⟨_, rfl⟩
         have HRL2 := Lib.hid hrl
         rw [← hrl] at M5
         rw [← hrl]
         clear hrl m5 g5 q5 MA
         refine hK.out _ _ (K5) (fun hHeld => ?_)
         clear hK K
         try simp only [Ap.sc]
         refine Rg.th 6 (some 11) (v := ?_) rfl (by kernel_rfl) (fun _ _ _ h => h) (by rfl) (by assumption) ?_ ?_
         rotate_left
         ·intro w hSw; go_simp; first | done | with_reducible rfl
         try simp only [Ap.sc]
         refine wpAnyH_done (by kernel_rfl) ?_ _
         refine NoPanic.normal ?_
         have HK5 := Lib.hid hHeld
         have HGT5 := Lib.hid (HGT.out.below hHeld (Nat.le_refl _))
         have hz5 := hHeld.size
         clear hHeld D1 U0 U1 U2 U3 U4 U5
         have S13 := Lib.hid (pre_src HGT5.out.r (k := J) (by omega))
         have hrb : rl.length ≤ 1001 := by rw [HRL2.out]; rw [List.length_cons, List.length_drop]; omega
         go_upto_region 12 with fail
         go_wp2_with (at_builtin; (refine wpList_mine rfl _ _ elE _ rfl rfl (Mine.nil vt.heap.size 6 w5) _ rfl J _ S13.out (by omega) (by omega) hz5 ?_))
         intro A6 c6 w6 m6 g6 q6
         have B6 : Hid (Below w5.heap.size w5 w6) := fresh (by exact g6)
         have M6 : Hid (Mine vt.heap.size 6 w6 A6 J c6 (emL (gg.take J))) := by show Mine _ _ _ _ _ _ _; first | exact m6 | (rw [Nat.zero_add, List.nil_append] at m6; exact m6)
         try simp only [Nat.zero_add]
         have hz6 := B6.out.size
         have S14 := Lib.hid ((Rs.mine (M5.out.below B6.out (Nat.le_refl _))).src (P := Tryz.prog) Tryz.underlying30 (by omega) (emL_one' _))
         clear m6 g6 q6
         go_wp2_with (at_builtin; (refine wpList_mine rfl _ _ elE _ rfl rfl M6.out _ rfl rl.length _ S14.out (by omega) (by omega) (by omega) ?_))
         intro A7 c7 w7 m7 g7 q7
         have B7 : Hid (Below vt.heap.size vt w7) := (HK5.out.trans (B6.out.mono hz5)).trans ((only_row (F := fun j => vt.heap.size ≤ j) g7 (fun a ha => (M6.out.base ha).1)).below (fun _ h => h) (by omega))
         have HINS : Hid ((expG Em.e now (l.take (K + 1))) = gg.take J ++ rl) := by show _ = _; rw [HG3.out, HRL2.out]; exact HINN.out
         have HLI : Hid (J + rl.length = (expG Em.e now (l.take (K + 1))).length) := by show _ = _; rw [HINS.out]; simp <;> omega
         have M7 : Hid (Mine vt.heap.size 6 w7 A7 (expG Em.e now (l.take (K + 1))).length c7 (emL (expG Em.e now (l.take (K + 1))))) := by show Mine _ _ _ _ _ _ _; rw [← HLI.out, HINS.out, emL_append]; exact m7
         have HSL : Hid (ss = expS Em.e now (l.take (K + 1))) := by show _ = _; rw [HS3.out, List.append_nil]
         have HRW7 : Hid (Rw (C + 2) w7 D d ss A7 c7 (expG Em.e now (l.take (K + 1)))) := ⟨HRWT.out.s.below B7.out (Nat.le_refl _), M7.out.mono (by omega), fun a a2 ha ha2 e => by have h1 := (HRWT.out.s.base ha).2.1; have h2 := (M7.out.base ha2).1; omega⟩
         have HB7 : Hid (Below (C + 2) v0 w7) := (HBV.out.trans (HBT.out.mono (by omega))).trans (B7.out.mono (by omega))
         rw [HLI.out]
         clear m7 g7 q7
         go_wp2_with fail
         go_roundw
         case rel => exact ⟨K + 1, D, d, A7, c7, by omega, by go_num, by rw [← HSL.out], rfl, by rw [← HSL.out]; exact HRW7.out, HB7.out⟩
         case measure => simp [intOf]; omega
       ·have HLT : Hid (ltE y.e x.e = false) := by show _ = _; unfold ltE; simp [h1, h2]
        have d2 : (y.e.d == x.e.d) = false := by simpa using h2
        clear h1 h2
        have HINN : Hid (insE Em.e x gg = gg.take J ++ x :: gg.drop J) := insE_at Em.e x hJ HP.out (fun hk => by rw [← HY.out]; exact HLT.out)
        go_wp2_with fail
        go_quiet (fail)
        clear y0 y3
        obtain ⟨vt, hvt⟩ : ∃ vt, vt = (v3.drewN nq0).drewN nq := ⟨_, rfl⟩
        have HBT : Hid (Below v3.heap.size v3 vt) := by show Below _ _ _; rw [hvt]; exact below_drewN (below_drewN (Below.refl _ _) nq0) nq
        rw [← hvt]
        clear hvt
        have HGT := Lib.hid (HRG.out.below HBT.out (Nat.le_refl _))
        have HRWT := Lib.hid (HRW2.out.below HBT.out)
        have HZT := Lib.hid (HZ2.out.below HBT.out lz)
        have hzt := HBT.out.size
        clear z0 z1 z2 z3 z4 z5
        have U0 : ∀ v, Below vt.heap.size vt v → v.cell? ⟨X, 0, none⟩ = some (.string x.e.k) := fun v hv => by have := (HZT.out.below hv (by omega)).cell 0; exact this
        have U1 : ∀ v, Below vt.heap.size vt v → v.cell? ⟨X, 1, none⟩ = some (.slice x.A x.e.v.length x.a) := fun v hv => by have := (HZT.out.below hv (by omega)).cell 1; exact this
        have U2 : ∀ v, Below vt.heap.size vt v → v.cell? ⟨X, 2, none⟩ = some (.slice x.B x.e.t.length x.b) := fun v hv => by have := (HZT.out.below hv (by omega)).cell 2; exact this
        have U3 : ∀ v, Below vt.heap.size vt v → v.cell? ⟨X, 3, none⟩ = some (.int .u64 x.e.d) := fun v hv => by have := (HZT.out.below hv (by omega)).cell 3; exact this
        have U4 : ∀ v, Below vt.heap.size vt v → v.cell? ⟨X, 4, none⟩ = some (.int .u64 x.e.n) := fun v hv => by have := (HZT.out.below hv (by omega)).cell 4; exact this
        have U5 : ∀ v, Below vt.heap.size vt v → v.cell? ⟨X, 5, none⟩ = some (.int .u64 x.e.s) := fun v hv => by have := (HZT.out.below hv (by omega)).cell 5; exact this
        have D1 : Below vt.heap.size vt vt.drew := (Below.refl _ _).drew
        have SC : Hid (∀ v, Below vt.heap.size vt v → Src Tryz.prog 6 30 (.slice (some ⟨qb, qo + J * 6, none⟩) (gg.length - J) (f - J)) (gg.length - J) (emL (gg.drop J)) v) := fun v hv => by
         have := cut_src (HGT.out.below hv (Nat.le_refl _)).r (k := J) (by omega)
         rw [cut_lit, if_neg hfJ] at this
         exact this
        go_wp2_with fail
        refine wp_region_noPanic ?_
        refine wp_region_held_drew (S := fun v => Below vt.heap.size vt v) (by kernel_rfl) (D1) (fun hHeld => ?_)
        refine Rg.th 0 (some 69) (v := ?_) rfl (by kernel_rfl) (fun _ _ _ h => h) (by rfl) (by assumption) ?_ ?_
        rotate_left
        ·intro w hSw; go_simp; first | done | with_reducible rfl
        try simp only [Ap.sc]
        refine Rg.th 2 (some 71) (v := ?_) rfl (by kernel_rfl) (fun _ _ _ h => h) (by rfl) (by assumption) ?_ ?_
        rotate_left
        ·intro w hSw; go_simp; first | done | with_reducible rfl
        try simp only [Ap.sc]
        refine Rg.th 3 (some 72) (v := ?_) rfl (by kernel_rfl) (fun _ _ _ h => h) (by rfl) (by assumption) ?_ ?_
        rotate_left
        ·intro w hSw; go_simp; first | done | with_reducible rfl
        try simp only [Ap.sc]
        refine Rg.th 4 (some 73) (v := ?_) rfl (by kernel_rfl) (fun _ _ _ h => h) (by rfl) (by assumption) ?_ ?_
        rotate_left
        ·intro w hSw; go_simp; first | done | with_reducible rfl
        try simp only [Ap.sc]
        refine wpAnyH_ready (rs := [1]) (by kernel_rfl) (by simp) ?_
        refine AllReadyH.cons (o := ⟨some 70, _, _, _, _, _⟩) rfl (fun K hK => ?_) AllReadyH.nil
        go_simp
        have KA : Below vt.heap.size vt (vt.drew.alloc (.cells #[.string x.e.k, .slice x.A x.e.v.length x.a, .slice x.B x.e.t.length x.b, .int .u64 x.e.d, .int .u64 x.e.n, .int .u64 x.e.s] 42)) := D1.trans ((bnew _ _).mono D1.size)
        refine hK.out _ _ (KA) (fun hHeld => ?_)
        clear hK K
        try simp only [Ap.sc]
        refine wpAnyH_ready (rs := [5]) (by kernel_rfl) (by simp) ?_
        refine AllReadyH.cons (o := ⟨some 74, _, _, _, _, _⟩) rfl (fun K hK => ?_) AllReadyH.nil
        have MA : Mine vt.heap.size 6 (vt.drew.alloc (.cells (emA x) 42)) (some ⟨vt.heap.size, 0, none⟩) 1 1 (emC x) := Mine.lit vt.drew (emA x) 42 1 rfl (by unfold maxLen; omega)
        unfold emA at MA
        refine step_mine (by kernel_rfl) _ _ elE _ rfl rfl MA _ rfl (gg.length - J) _ (SC.out _ KA) (by omega) (by omega) KA.size ?_
        intro A5 c5 w5 m5 g5 q5
        have K5 : Below vt.heap.size vt w5 := KA.trans ((only_row (F := fun j => vt.heap.size ≤ j) g5 (fun a ha => (MA.base ha).1)).below (fun _ h => h) KA.size)
        have HL5 : Hid (1 + (gg.length - J) = (x :: gg.drop J).length) := by show _ = _; simp <;> omega
        have M5 : Hid (Mine vt.heap.size 6 w5 A5 (x :: gg.drop J).length c5 (emL (x :: gg.drop J))) := by show Mine _ _ _ _ _ _ _; rw [← HL5.out, emL_cons]; exact m5
        rw [HL5.out]
        obtain ⟨rl, hrl⟩ : ∃ rl, rl = x :: gg.drop J := ⟨_, rfl⟩
        have HRL2 := Lib.hid hrl
        rw [← hrl] at M5
        rw [← hrl]
        clear hrl m5 g5 q5 MA
        refine hK.out _ _ (K5) (fun hHeld => ?_)
        clear hK K
        try simp only [Ap.sc]
        refine Rg.th 6 (some 11) (v := ?_) rfl (by kernel_rfl) (fun _ _ _ h => h) (by rfl) (by assumption) ?_ ?_
        rotate_left
        ·intro w hSw; go_simp; first | done | with_reducible rfl
        try simp only [Ap.sc]
        refine wpAnyH_done (by kernel_rfl) ?_ _
        refine NoPanic.normal ?_
        have HK5 := Lib.hid hHeld
        have HGT5 := Lib.hid (HGT.out.below hHeld (Nat.le_refl _))
        have hz5 := hHeld.size
        clear hHeld D1 U0 U1 U2 U3 U4 U5
        have S13 := Lib.hid (pre_src HGT5.out.r (k := J) (by omega))
        have hrb : rl.length ≤ 1001 := by rw [HRL2.out]; rw [List.length_cons, List.length_drop]; omega
        go_upto_region 12 with fail
        go_wp2_with (at_builtin; (refine wpList_mine rfl _ _ elE _ rfl rfl (Mine.nil vt.heap.size 6 w5) _ rfl J _ S13.out (by omega) (by omega) hz5 ?_))
        intro A6 c6 w6 m6 g6 q6
        have B6 : Hid (Below w5.heap.size w5 w6) := fresh (by exact g6)
        have M6 : Hid (Mine vt.heap.size 6 w6 A6 J c6 (emL (gg.take J))) := by show Mine _ _ _ _ _ _ _; first | exact m6 | (rw [Nat.zero_add, List.nil_append] at m6; exact m6)
        try simp only [Nat.zero_add]
        have hz6 := B6.out.size
        have S14 := Lib.hid ((Rs.mine (M5.out.below B6.out (Nat.le_refl _))).src (P := Tryz.prog) Tryz.underlying30 (by omega) (emL_one' _))
        clear m6 g6 q6
        go_wp2_with (at_builtin; (refine wpList_mine rfl _ _ elE _ rfl rfl M6.out _ rfl rl.length _ S14.out (by omega) (by omega) (by omega) ?_))
        intro A7 c7 w7 m7 g7 q7
        have B7 : Hid (Below vt.heap.size vt w7) := (HK5.out.trans (B6.out.mono hz5)).trans ((only_row (F := fun j => vt.heap.size ≤ j) g7 (fun a ha => (M6.out.base ha).1)).below (fun _ h => h) (by omega))
        have HINS : Hid ((expG Em.e now (l.take (K + 1))) = gg.take J ++ rl) := by show _ = _; rw [HG3.out, HRL2.out]; exact HINN.out
        have HLI : Hid (J + rl.length = (expG Em.e now (l.take (K + 1))).length) := by show _ = _; rw [HINS.out]; simp <;> omega
        have M7 : Hid (Mine vt.heap.size 6 w7 A7 (expG Em.e now (l.take (K + 1))).length c7 (emL (expG Em.e now (l.take (K + 1))))) := by show Mine _ _ _ _ _ _ _; rw [← HLI.out, HINS.out, emL_append]; exact m7
        have HSL : Hid (ss = expS Em.e now (l.take (K + 1))) := by show _ = _; rw [HS3.out, List.append_nil]
        have HRW7 : Hid (Rw (C + 2) w7 D d ss A7 c7 (expG Em.e now (l.take (K + 1)))) := ⟨HRWT.out.s.below B7.out (Nat.le_refl _), M7.out.mono (by omega), fun a a2 ha ha2 e => by have h1 := (HRWT.out.s.base ha).2.1; have h2 := (M7.out.base ha2).1; omega⟩
        have HB7 : Hid (Below (C + 2) v0 w7) := (HBV.out.trans (HBT.out.mono (by omega))).trans (B7.out.mono (by omega))
        rw [HLI.out]
        clear m7 g7 q7
        go_wp2_with fail
        go_roundw
        case rel => exact ⟨K + 1, D, d, A7, c7, by omega, by go_num, by rw [← HSL.out], rfl, by rw [← HSL.out]; exact HRW7.out, HB7.out⟩
        case measure => simp [intOf]; omega
      ·obtain rfl : J = gg.length := by omega
       have d0 : decide ((gg.length : Int) < (gg.length : Int)) = false := by simp
       have d0n : decide (gg.length < gg.length) = false := by simp
       have HINN : Hid (insE Em.e x gg = gg ++ x :: []) := by
        have h1 := insE_at Em.e x (Nat.le_refl gg.length) (fun i h hi => HP.out i h h) (fun hk => absurd hk (by omega))
        rw [List.take_length, List.drop_length] at h1
        exact h1
       clear hJl
       by_cases hfJ : f = gg.length
       ·subst hfJ
        go_wp2_with fail
        go_quiet (fail)
        obtain ⟨vt, hvt⟩ : ∃ vt, vt = (v3.drewN nq0).drewN nq := ⟨_, rfl⟩
        have HBT : Hid (Below v3.heap.size v3 vt) := by show Below _ _ _; rw [hvt]; exact below_drewN (below_drewN (Below.refl _ _) nq0) nq
        rw [← hvt]
        clear hvt
        have HGT := Lib.hid (HRG.out.below HBT.out (Nat.le_refl _))
        have HRWT := Lib.hid (HRW2.out.below HBT.out)
        have HZT := Lib.hid (HZ2.out.below HBT.out lz)
        have hzt := HBT.out.size
        clear z0 z1 z2 z3 z4 z5
        have U0 : ∀ v, Below vt.heap.size vt v → v.cell? ⟨X, 0, none⟩ = some (.string x.e.k) := fun v hv => by have := (HZT.out.below hv (by omega)).cell 0; exact this
        have U1 : ∀ v, Below vt.heap.size vt v → v.cell? ⟨X, 1, none⟩ = some (.slice x.A x.e.v.length x.a) := fun v hv => by have := (HZT.out.below hv (by omega)).cell 1; exact this
        have U2 : ∀ v, Below vt.heap.size vt v → v.cell? ⟨X, 2, none⟩ = some (.slice x.B x.e.t.length x.b) := fun v hv => by have := (HZT.out.below hv (by omega)).cell 2; exact this
        have U3 : ∀ v, Below vt.heap.size vt v → v.cell? ⟨X, 3, none⟩ = some (.int .u64 x.e.d) := fun v hv => by have := (HZT.out.below hv (by omega)).cell 3; exact this
        have U4 : ∀ v, Below vt.heap.size vt v → v.cell? ⟨X, 4, none⟩ = some (.int .u64 x.e.n) := fun v hv => by have := (HZT.out.below hv (by omega)).cell 4; exact this
        have U5 : ∀ v, Below vt.heap.size vt v → v.cell? ⟨X, 5, none⟩ = some (.int .u64 x.e.s) := fun v hv => by have := (HZT.out.below hv (by omega)).cell 5; exact this
        have D1 : Below vt.heap.size vt vt.drew := (Below.refl _ _).drew
        have SC : Hid (∀ v, Below vt.heap.size vt v → Src Tryz.prog 6 30 (.slice (some q) 0 0) 0 (emL (([] : List Em))) v) := fun v hv => by
         have := cut_src (HGT.out.below hv (Nat.le_refl _)).r (k := gg.length) (by omega)
         rw [cut_q, if_pos rfl, Nat.sub_self, List.drop_length] at this
         exact this
        go_wp2_with fail
        refine wp_region_noPanic ?_
        refine wp_region_held_drew (S := fun v => Below vt.heap.size vt v) (by kernel_rfl) (D1) (fun hHeld => ?_)
        refine Rg.th 0 (some 69) (v := ?_) rfl (by kernel_rfl) (fun _ _ _ h => h) (by rfl) (by assumption) ?_ ?_
        rotate_left
        ·intro w hSw; go_simp; first | done | with_reducible rfl
        try simp only [Ap.sc]
        refine Rg.th 2 (some 71) (v := ?_) rfl (by kernel_rfl) (fun _ _ _ h => h) (by rfl) (by assumption) ?_ ?_
        rotate_left
        ·intro w hSw; go_simp; first | done | with_reducible rfl
        try simp only [Ap.sc]
        refine Rg.th 3 (some 72) (v := ?_) rfl (by kernel_rfl) (fun _ _ _ h => h) (by rfl) (by assumption) ?_ ?_
        rotate_left
        ·intro w hSw; go_simp; first | done | with_reducible rfl
        try simp only [Ap.sc]
        refine Rg.th 4 (some 73) (v := ?_) rfl (by kernel_rfl) (fun _ _ _ h => h) (by rfl) (by assumption) ?_ ?_
        rotate_left
        ·intro w hSw; go_simp; first | done | with_reducible rfl
        try simp only [Ap.sc]
        refine wpAnyH_ready (rs := [1]) (by kernel_rfl) (by simp) ?_
        refine AllReadyH.cons (o := ⟨some 70, _, _, _, _, _⟩) rfl (fun K hK => ?_) AllReadyH.nil
        go_simp
        have KA : Below vt.heap.size vt (vt.drew.alloc (.cells #[.string x.e.k, .slice x.A x.e.v.length x.a, .slice x.B x.e.t.length x.b, .int .u64 x.e.d, .int .u64 x.e.n, .int .u64 x.e.s] 42)) := D1.trans ((bnew _ _).mono D1.size)
        refine hK.out _ _ (KA) (fun hHeld => ?_)
        clear hK K
        try simp only [Ap.sc]
        refine wpAnyH_ready (rs := [5]) (by kernel_rfl) (by simp) ?_
        refine AllReadyH.cons (o := ⟨some 74, _, _, _, _, _⟩) rfl (fun K hK => ?_) AllReadyH.nil
        have MA : Mine vt.heap.size 6 (vt.drew.alloc (.cells (emA x) 42)) (some ⟨vt.heap.size, 0, none⟩) 1 1 (emC x) := Mine.lit vt.drew (emA x) 42 1 rfl (by unfold maxLen; omega)
        unfold emA at MA
        refine step_mine (by kernel_rfl) _ _ elE _ rfl rfl MA _ rfl 0 _ (SC.out _ KA) (by omega) (by omega) KA.size ?_
        intro A5 c5 w5 m5 g5 q5
        have K5 : Below vt.heap.size vt w5 := KA.trans ((only_row (F := fun j => vt.heap.size ≤ j) g5 (fun a ha => (MA.base ha).1)).below (fun _ h => h) KA.size)
        have HL5 : Hid (1 + 0 = (x :: ([] : List Em)).length) := by show _ = _; simp <;> omega
        have M5 : Hid (Mine vt.heap.size 6 w5 A5 (x :: ([] : List Em)).length c5 (emL (x :: ([] : List Em)))) := by show Mine _ _ _ _ _ _ _; rw [← HL5.out, emL_cons]; exact m5
        rw [HL5.out]
        obtain ⟨rl, hrl⟩ : ∃ rl, rl = x :: ([] : List Em) := ⟨_, rfl⟩
        have HRL2 := Lib.hid hrl
        rw [← hrl] at M5
        rw [← hrl]
        clear hrl m5 g5 q5 MA
        refine hK.out _ _ (K5) (fun hHeld => ?_)
        clear hK K
        try simp only [Ap.sc]
        refine Rg.th 6 (some 11) (v := ?_) rfl (by kernel_rfl) (fun _ _ _ h => h) (by rfl) (by assumption) ?_ ?_
        rotate_left
        ·intro w hSw; go_simp; first | done | with_reducible rfl
        try simp only [Ap.sc]
        refine wpAnyH_done (by kernel_rfl) ?_ _
        refine NoPanic.normal ?_
        have HK5 := Lib.hid hHeld
        have HGT5 := Lib.hid (HGT.out.below hHeld (Nat.le_refl _))
        have hz5 := hHeld.size
        clear hHeld D1 U0 U1 U2 U3 U4 U5
        have S13 := Lib.hid (pre_src HGT5.out.r (k := gg.length) (by omega))
        rw [List.take_length] at S13
        have hrb : rl.length ≤ 1001 := by rw [HRL2.out]; simp
        go_upto_region 12 with fail
        go_wp2_with (at_builtin; (refine wpList_mine rfl _ _ elE _ rfl rfl (Mine.nil vt.heap.size 6 w5) _ rfl gg.length _ S13.out (by omega) (by omega) hz5 ?_))
        intro A6 c6 w6 m6 g6 q6
        have B6 : Hid (Below w5.heap.size w5 w6) := fresh (by exact g6)
        have M6 : Hid (Mine vt.heap.size 6 w6 A6 gg.length c6 (emL (gg))) := by show Mine _ _ _ _ _ _ _; first | exact m6 | (rw [Nat.zero_add, List.nil_append] at m6; exact m6)
        try simp only [Nat.zero_add]
        have hz6 := B6.out.size
        have S14 := Lib.hid ((Rs.mine (M5.out.below B6.out (Nat.le_refl _))).src (P := Tryz.prog) Tryz.underlying30 (by omega) (emL_one' _))
        clear m6 g6 q6
        go_wp2_with (at_builtin; (refine wpList_mine rfl _ _ elE _ rfl rfl M6.out _ rfl rl.length _ S14.out (by omega) (by omega) (by omega) ?_))
        intro A7 c7 w7 m7 g7 q7
        have B7 : Hid (Below vt.heap.size vt w7) := (HK5.out.trans (B6.out.mono hz5)).trans ((only_row (F := fun j => vt.heap.size ≤ j) g7 (fun a ha => (M6.out.base ha).1)).below (fun _ h => h) (by omega))
        have HINS : Hid ((expG Em.e now (l.take (K + 1))) = gg ++ rl) := by show _ = _; rw [HG3.out, HRL2.out]; exact HINN.out
        have HLI : Hid (gg.length + rl.length = (expG Em.e now (l.take (K + 1))).length) := by show _ = _; rw [HINS.out]; simp <;> omega
        have M7 : Hid (Mine vt.heap.size 6 w7 A7 (expG Em.e now (l.take (K + 1))).length c7 (emL (expG Em.e now (l.take (K + 1))))) := by show Mine _ _ _ _ _ _ _; rw [← HLI.out, HINS.out, emL_append]; exact m7
        have HSL : Hid (ss = expS Em.e now (l.take (K + 1))) := by show _ = _; rw [HS3.out, List.append_nil]
        have HRW7 : Hid (Rw (C + 2) w7 D d ss A7 c7 (expG Em.e now (l.take (K + 1)))) := ⟨HRWT.out.s.below B7.out (Nat.le_refl _), M7.out.mono (by omega), fun a a2 ha ha2 e => by have h1 := (HRWT.out.s.base ha).2.1; have h2 := (M7.out.base ha2).1; omega⟩
        have HB7 : Hid (Below (C + 2) v0 w7) := (HBV.out.trans (HBT.out.mono (by omega))).trans (B7.out.mono (by omega))
        rw [HLI.out]
        clear m7 g7 q7
        go_wp2_with fail
        go_roundw
        case rel => exact ⟨K + 1, D, d, A7, c7, by omega, by go_num, by rw [← HSL.out], rfl, by rw [← HSL.out]; exact HRW7.out, HB7.out⟩
        case measure => simp [intOf]; omega
       ·go_wp2_with fail
        go_quiet (fail)
        obtain ⟨vt, hvt⟩ : ∃ vt, vt = (v3.drewN nq0).drewN nq := ⟨_, rfl⟩
        have HBT : Hid (Below v3.heap.size v3 vt) := by show Below _ _ _; rw [hvt]; exact below_drewN (below_drewN (Below.refl _ _) nq0) nq
        rw [← hvt]
        clear hvt
        have HGT := Lib.hid (HRG.out.below HBT.out (Nat.le_refl _))
        have HRWT := Lib.hid (HRW2.out.below HBT.out)
        have HZT := Lib.hid (HZ2.out.below HBT.out lz)
        have hzt := HBT.out.size
        clear z0 z1 z2 z3 z4 z5
        have U0 : ∀ v, Below vt.heap.size vt v → v.cell? ⟨X, 0, none⟩ = some (.string x.e.k) := fun v hv => by have := (HZT.out.below hv (by omega)).cell 0; exact this
        have U1 : ∀ v, Below vt.heap.size vt v → v.cell? ⟨X, 1, none⟩ = some (.slice x.A x.e.v.length x.a) := fun v hv => by have := (HZT.out.below hv (by omega)).cell 1; exact this
        have U2 : ∀ v, Below vt.heap.size vt v → v.cell? ⟨X, 2, none⟩ = some (.slice x.B x.e.t.length x.b) := fun v hv => by have := (HZT.out.below hv (by omega)).cell 2; exact this
        have U3 : ∀ v, Below vt.heap.size vt v → v.cell? ⟨X, 3, none⟩ = some (.int .u64 x.e.d) := fun v hv => by have := (HZT.out.below hv (by omega)).cell 3; exact this
        have U4 : ∀ v, Below vt.heap.size vt v → v.cell? ⟨X, 4, none⟩ = some (.int .u64 x.e.n) := fun v hv => by have := (HZT.out.below hv (by omega)).cell 4; exact this
        have U5 : ∀ v, Below vt.heap.size vt v → v.cell? ⟨X, 5, none⟩ = some (.int .u64 x.e.s) := fun v hv => by have := (HZT.out.below hv (by omega)).cell 5; exact this
        have D1 : Below vt.heap.size vt vt.drew := (Below.refl _ _).drew
        have SC : Hid (∀ v, Below vt.heap.size vt v → Src Tryz.prog 6 30 (.slice (some (q.add (gg.length * 6))) 0 (f - gg.length)) 0 (emL (([] : List Em))) v) := fun v hv => by
         have := cut_src (HGT.out.below hv (Nat.le_refl _)).r (k := gg.length) (by omega)
         rw [cut_q, if_neg hfJ, Nat.sub_self, List.drop_length] at this
         exact this
        go_wp2_with fail
        refine wp_region_noPanic ?_
        refine wp_region_held_drew (S := fun v => Below vt.heap.size vt v) (by kernel_rfl) (D1) (fun hHeld => ?_)
        refine Rg.th 0 (some 69) (v := ?_) rfl (by kernel_rfl) (fun _ _ _ h => h) (by rfl) (by assumption) ?_ ?_
        rotate_left
        ·intro w hSw; go_simp; first | done | with_reducible rfl
        try simp only [Ap.sc]
        refine Rg.th 2 (some 71) (v := ?_) rfl (by kernel_rfl) (fun _ _ _ h => h) (by rfl) (by assumption) ?_ ?_
        rotate_left
        ·intro w hSw; go_simp; first | done | with_reducible rfl
        try simp only [Ap.sc]
        refine Rg.th 3 (some 72) (v := ?_) rfl (by kernel_rfl) (fun _ _ _ h => h) (by rfl) (by assumption) ?_ ?_
        rotate_left
        ·intro w hSw; go_simp; first | done | with_reducible rfl
        try simp only [Ap.sc]
        refine Rg.th 4 (some 73) (v := ?_) rfl (by kernel_rfl) (fun _ _ _ h => h) (by rfl) (by assumption) ?_ ?_
        rotate_left
        ·intro w hSw; go_simp; first | done | with_reducible rfl
        try simp only [Ap.sc]
        refine wpAnyH_ready (rs := [1]) (by kernel_rfl) (by simp) ?_
        refine AllReadyH.cons (o := ⟨some 70, _, _, _, _, _⟩) rfl (fun K hK => ?_) AllReadyH.nil
        go_simp
        have KA : Below vt.heap.size vt (vt.drew.alloc (.cells #[.string x.e.k, .slice x.A x.e.v.length x.a, .slice x.B x.e.t.length x.b, .int .u64 x.e.d, .int .u64 x.e.n, .int .u64 x.e.s] 42)) := D1.trans ((bnew _ _).mono D1.size)
        refine hK.out _ _ (KA) (fun hHeld => ?_)
        clear hK K
        try simp only [Ap.sc]
        refine wpAnyH_ready (rs := [5]) (by kernel_rfl) (by simp) ?_
        refine AllReadyH.cons (o := ⟨some 74, _, _, _, _, _⟩) rfl (fun K hK => ?_) AllReadyH.nil
        have MA : Mine vt.heap.size 6 (vt.drew.alloc (.cells (emA x) 42)) (some ⟨vt.heap.size, 0, none⟩) 1 1 (emC x) := Mine.lit vt.drew (emA x) 42 1 rfl (by unfold maxLen; omega)
        unfold emA at MA
        refine step_mine (by kernel_rfl) _ _ elE _ rfl rfl MA _ rfl 0 _ (SC.out _ KA) (by omega) (by omega) KA.size ?_
        intro A5 c5 w5 m5 g5 q5
        have K5 : Below vt.heap.size vt w5 := KA.trans ((only_row (F := fun j => vt.heap.size ≤ j) g5 (fun a ha => (MA.base ha).1)).below (fun _ h => h) KA.size)
        have HL5 : Hid (1 + 0 = (x :: ([] : List Em)).length) := by show _ = _; simp <;> omega
        have M5 : Hid (Mine vt.heap.size 6 w5 A5 (x :: ([] : List Em)).length c5 (emL (x :: ([] : List Em)))) := by show Mine _ _ _ _ _ _ _; rw [← HL5.out, emL_cons]; exact m5
        rw [HL5.out]
        obtain ⟨rl, hrl⟩ : ∃ rl, rl = x :: ([] : List Em) := ⟨_, rfl⟩
        have HRL2 := Lib.hid hrl
        rw [← hrl] at M5
        rw [← hrl]
        clear hrl m5 g5 q5 MA
        refine hK.out _ _ (K5) (fun hHeld => ?_)
        clear hK K
        try simp only [Ap.sc]
        refine Rg.th 6 (some 11) (v := ?_) rfl (by kernel_rfl) (fun _ _ _ h => h) (by rfl) (by assumption) ?_ ?_
        rotate_left
        ·intro w hSw; go_simp; first | done | with_reducible rfl
        try simp only [Ap.sc]
        refine wpAnyH_done (by kernel_rfl) ?_ _
        refine NoPanic.normal ?_
        have HK5 := Lib.hid hHeld
        have HGT5 := Lib.hid (HGT.out.below hHeld (Nat.le_refl _))
        have hz5 := hHeld.size
        clear hHeld D1 U0 U1 U2 U3 U4 U5
        have S13 := Lib.hid (pre_src HGT5.out.r (k := gg.length) (by omega))
        rw [List.take_length] at S13
        have hrb : rl.length ≤ 1001 := by rw [HRL2.out]; simp
        go_upto_region 12 with fail
        go_wp2_with (at_builtin; (refine wpList_mine rfl _ _ elE _ rfl rfl (Mine.nil vt.heap.size 6 w5) _ rfl gg.length _ S13.out (by omega) (by omega) hz5 ?_))
        intro A6 c6 w6 m6 g6 q6
        have B6 : Hid (Below w5.heap.size w5 w6) := fresh (by exact g6)
        have M6 : Hid (Mine vt.heap.size 6 w6 A6 gg.length c6 (emL (gg))) := by show Mine _ _ _ _ _ _ _; first | exact m6 | (rw [Nat.zero_add, List.nil_append] at m6; exact m6)
        try simp only [Nat.zero_add]
        have hz6 := B6.out.size
        have S14 := Lib.hid ((Rs.mine (M5.out.below B6.out (Nat.le_refl _))).src (P := Tryz.prog) Tryz.underlying30 (by omega) (emL_one' _))
        clear m6 g6 q6
        go_wp2_with (at_builtin; (refine wpList_mine rfl _ _ elE _ rfl rfl M6.out _ rfl rl.length _ S14.out (by omega) (by omega) (by omega) ?_))
        intro A7 c7 w7 m7 g7 q7
        have B7 : Hid (Below vt.heap.size vt w7) := (HK5.out.trans (B6.out.mono hz5)).trans ((only_row (F := fun j => vt.heap.size ≤ j) g7 (fun a ha => (M6.out.base ha).1)).below (fun _ h => h) (by omega))
        have HINS : Hid ((expG Em.e now (l.take (K + 1))) = gg ++ rl) := by show _ = _; rw [HG3.out, HRL2.out]; exact HINN.out
        have HLI : Hid (gg.length + rl.length = (expG Em.e now (l.take (K + 1))).length) := by show _ = _; rw [HINS.out]; simp <;> omega
        have M7 : Hid (Mine vt.heap.size 6 w7 A7 (expG Em.e now (l.take (K + 1))).length c7 (emL (expG Em.e now (l.take (K + 1))))) := by show Mine _ _ _ _ _ _ _; rw [← HLI.out, HINS.out, emL_append]; exact m7
        have HSL : Hid (ss = expS Em.e now (l.take (K + 1))) := by show _ = _; rw [HS3.out, List.append_nil]
        have HRW7 : Hid (Rw (C + 2) w7 D d ss A7 c7 (expG Em.e now (l.take (K + 1)))) := ⟨HRWT.out.s.below B7.out (Nat.le_refl _), M7.out.mono (by omega), fun a a2 ha ha2 e => by have h1 := (HRWT.out.s.base ha).2.1; have h2 := (M7.out.base ha2).1; omega⟩
        have HB7 : Hid (Below (C + 2) v0 w7) := (HBV.out.trans (HBT.out.mono (by omega))).trans (B7.out.mono (by omega))
        rw [HLI.out]
        clear m7 g7 q7
        go_wp2_with fail
        go_roundw
        case rel => exact ⟨K + 1, D, d, A7, c7, by omega, by go_num, by rw [← HSL.out], rfl, by rw [← HSL.out]; exact HRW7.out, HB7.out⟩
        case measure => simp [intOf]; omega
   ·have hdf : dueE x.e.d now = false := by simpa using hdue
    rw [hdf]
    rw [if_neg hdue] at HS3 HG3
    go_wp2_with (at_builtin; (refine wpList_mine rfl _ _ elE _ rfl rfl (HRW2.out.s.below (bnew v3 (.cells #[.string x.e.k, .slice x.A x.e.v.length x.a, .slice x.B x.e.t.length x.b, .int .u64 x.e.d, .int .u64 x.e.n, .int .u64 x.e.s] 42)) (Nat.le_refl _)) _ rfl 1 _ (src_one v3 x) (by omega) (by omega) (by simp; omega) ?_))
    intro D4 d4 v4 m4 g4 e4
    obtain ⟨hp1, hp2⟩ := HRW2.out.push m4 g4 (by omega) e4
    have HP1 := Lib.hid hp1
    have HP2 := Lib.hid (HBV.out.trans hp2)
    have HLS : Hid (ss.length + 1 = (expS Em.e now (l.take (K + 1))).length) := by show _ = _; rw [HS3.out]; simp
    have HLG : Hid (gg.length = (expG Em.e now (l.take (K + 1))).length) := by show _ = _; rw [HG3.out]
    clear m4 g4 e4 hp1 hp2 hdue hdf
    go_wp2_with fail
    go_roundw
    case rel => exact ⟨K + 1, D4, d4, E, f, by omega, by go_num, by rw [HLS.out], by rw [HLG.out], by rw [HS3.out, HG3.out]; exact HP1.out, HP2.out⟩
    case measure => simp [intOf]; omega
  ·obtain rfl : K = l.length := by omega
   have hnn : ¬ (l.length : Int) < l.length := by omega
   rw [HEN.out.1, HEN.out.2] at HRW
   rw [HEN.out.1] at hs1
   rw [HEN.out.1, HEN.out.2]
   obtain ⟨ss, hss⟩ : ∃ ss, ss = expS Em.e now l := ⟨_, rfl⟩
   obtain ⟨gg, hgg⟩ : ∃ gg, gg = expG Em.e now l := ⟨_, rfl⟩
   have HSE := Lib.hid hss; have HGE := Lib.hid hgg
   rw [← hss, ← hgg] at HRW
   rw [← hss, ← hgg]
   clear hlt hss hgg hs1 hd1 hg1 hf1
   go_upto_region 14 with fail
   obtain ⟨v5, hv5⟩ : ∃ v5, v5 = wr.setCell ⟨C, 2, none⟩ (.slice D ss.length d) := ⟨_, rfl⟩
   have HP5 : Hid (Only (fun j => j = C) wr v5) := by show Only _ _ _; rw [hv5]; exact only_own (F := fun j => j = C) rfl _
   have HK5 : Hid (Blk v5 C #[.int .i64 b, .int .i64 e, .slice D ss.length d] 32) := by show Blk _ _ _ _; rw [hv5]; exact HK2.out.set 2 _
   have HR5 := Lib.hid (HR2.out.only HP5.out (by omega))
   have HB5 : Hid (Below C w v5) := (HT0.out.b.trans (HB.out.mono (by omega))).trans (HP5.out.below (fun j hj => by omega) (by omega))
   have hz5 := HP5.out.size
   rw [← hv5]
   clear hv5 x0 x1 x2 xf0 xf1 xf2 lg
   obtain ⟨x0, x1, x2, xf0, xf1, xf2⟩ := HK5.out.three
   have lg := HK5.out.lt
   have HRZ := HR5.out
   unfold zS at HRZ
   obtain ⟨r0, r1, r2, rf0, rf1, rf2⟩ := HRZ.three
   have lr := HRZ.lt
   clear HRZ
   go_wp2_with fail
   obtain ⟨v9, hv9⟩ : ∃ v9, v9 = put3 v5 (C + 1) (.int .i64 b) (.int .i64 e) (.slice D ss.length d) := ⟨_, rfl⟩
   have HP9 : Hid (Only (fun j => j = C + 1) v5 v9) := by show Only _ _ _; rw [hv9]; exact put3_only _ _ _ _ _
   have HQ9 : Hid (Blk v9 (C + 1) #[.int .i64 b, .int .i64 e, .slice D ss.length d] 32) := by show Blk _ _ _ _; rw [hv9]; exact put3_blk (by have := HR5.out; unfold zS at this; exact this) _ _ _
   unfold put3 at hv9
   rw [← hv9]
   clear hv9
   obtain ⟨s0, s1, s2, _⟩ := HQ9.out.three
   refine bodyPost_ret (v := .tuple #[.agg #[.int .i64 b, .int .i64 e, .slice D ss.length d], .slice E gg.length f]) (by simp [results, Tryz.results55, go_sem, s0, s1, s2]) rfl ⟨D, d, E, f, by rw [HSE.out, HGE.out], ?_, ?_, HCB.out _ (HB5.out.trans (HP9.out.below (fun j hj => by omega) (by omega)))⟩
   ·have h1 := ((HRW.out.s.only HP5.out (fun a ha hf => by have := (HRW.out.s.base ha).1; omega)).only HP9.out (fun a ha hf => by have := (HRW.out.s.base ha).1; omega)).mono (B' := w.heap.size) (by have := HCC.out; omega)
    rw [HSE.out] at h1
    exact h1
   ·have h1 := ((HRW.out.g.only HP5.out (fun a ha hf => by have := (HRW.out.g.base ha).1; omega)).only HP9.out (fun a ha hf => by have := (HRW.out.g.base ha).1; omega)).mono (B' := w.heap.size) (by have := HCC.out; omega)
    rw [HGE.out] at h1
    exact h1
end
end Go.Proofs.YtlmljhnogmfcfaaGreat.Ek
