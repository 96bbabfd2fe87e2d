/- Proves that the law's evicts returns true at what Put evicts. Conditions: as each theorem names them. -/
import Derived.Test.YtlmljhnogmfcfaaGreatRg
import Derived.Test.YtlmljhnogmfcfaaGreatEt
import Derived.BigQuiet
import Derived.Deep.RegionHeld3
namespace Go.Proofs.YtlmljhnogmfcfaaGreat.Ez
open Go.RowKit Ap Mi Nw Rg Ea Eb Ec Ed Ee El Er
open Ef (rs_pre rs_cut only_row)

def oth (k : ByteArray) (l : List Em) : List Em := l.filter fun y => decide (y.e.k ≠ k)
theorem oth_snoc (k : ByteArray) (l : List Em) (y : Em) : oth k (l ++ [y]) = oth k l ++ (if y.e.k = k then [] else [y]) := by
 unfold oth
 rw [List.filter_append]
 congr 1
 by_cases h : y.e.k = k
 ·rw [if_pos h, List.filter_cons, if_neg (by simp [h]), List.filter_nil]
 ·rw [if_neg h, List.filter_cons, if_pos (by simpa using h), List.filter_nil]
theorem oth_all {k : ByteArray} {l : List Em} (h : ∀ y ∈ l, y.e.k ≠ k) : oth k l = l := by
 unfold oth
 rw [List.filter_eq_self]
 intro y hy
 simpa using h y hy
theorem oth_rest (k : ByteArray) : ∀ (l : List Em), (l.map fun y => y.e.k).Nodup → oth k l = rest Em.e l k
 | [], _ => rfl
 | y :: r, h => by
  rw [List.map_cons, List.nodup_cons] at h
  by_cases hy : y.e.k = k
  ·have h1 : oth k (y :: r) = oth k r := by unfold oth; rw [List.filter_cons, if_neg (by simp [hy])]
   have h2 : rest Em.e (y :: r) k = r := by unfold rest fnd; rw [if_pos hy]; simp [wo]
   rw [h1, h2]
   exact oth_all (fun z hz e => h.1 (by rw [hy, ← e]; exact List.mem_map.2 ⟨z, hz, rfl⟩))
  ·have h1 : oth k (y :: r) = y :: oth k r := by unfold oth; rw [List.filter_cons, if_pos (by simpa using hy)]
   rw [h1, oth_rest k r h.2]
   unfold rest
   rw [show fnd Em.e (y :: r) k = (fnd Em.e r k).map (· + 1) from by rw [fnd, if_neg hy]]
   cases fnd Em.e r k with
   | none => rfl
   | some i => simp [wo]
section
variable {G G' G2 : Nat → Prop} {w : World} {A B : Option Addr} {c d : Nat} {l m : List Em}
set_option maxRecDepth 100000 in
set_option maxHeartbeats 2000000 in
theorem evicts_true (hl : RL G w A c l) (hn : l.length ≤ 1000) {x : Em} (hx : RE G' w x) (hg : RL G2 w B d m) (b e : Int) (hb1 : 1 ≤ b) (hb2 : b ≤ 1099511627776) (hnd : (l.map fun y => y.e.k).Nodup) (hc : (cost x.e : Int) ≤ b)
  (hm : m.map Em.e = (rest id (l.map Em.e) x.e.k).take (evN b e (cost x.e) (rest id (l.map Em.e) x.e.k))) :
  Calls Tryz.prog 37 #[.slice A l.length c, emV x, .slice B m.length d, .int .i64 b, .int .i64 e] w (boolTo true w) := by
 obtain ⟨C, hC⟩ : ∃ C, C = w.heap.size := ⟨_, rfl⟩
 obtain ⟨v0, hv0⟩ : ∃ v0, v0 = w.alloc (.cells (emA x) 42) := ⟨_, rfl⟩
 have HB0 : Hid (Below w.heap.size w v0) := by show Below _ _ _; rw [hv0]; exact bnew _ _
 have HK0 : Hid (Blk v0 C (emA x) 42) := by show Blk _ _ _ _; rw [hv0, hC]; exact Blk.new w _ _
 have HL := Lib.hid (hl.below HB0.out (Nat.le_refl _)); have HX := Lib.hid (hx.below HB0.out (Nat.le_refl _)); have HG := Lib.hid (hg.below HB0.out (Nat.le_refl _))
 have hcm := Rs.max hl.r
 have hcl := Rs.le hl.r
 have hgm := Rs.max hg.r
 have hgl := Rs.le hg.r
 unfold maxLen at hcm hgm
 have HR : Hid ((oth x.e.k l).map Em.e = rest id (l.map Em.e) x.e.k) := by show _ = _; rw [oth_rest _ _ hnd, rest_map]
 have HT : Hid (∀ K (h : K < l.length), oth x.e.k (l.take (K + 1)) = oth x.e.k (l.take K) ++ (if l[K].e.k = x.e.k then [] else [l[K]])) := fun K h => by rw [List.take_succ_eq_append_getElem h, oth_snoc]
 have HOM : Hid (∀ K, ∀ y ∈ oth x.e.k (l.take K), y ∈ l) := fun K y hy => List.mem_of_mem_take (List.mem_filter.1 hy).1
 have HOL : Hid (∀ K, K ≤ l.length → (oth x.e.k (l.take K)).length ≤ K) := fun K h => by unfold oth; exact Nat.le_trans (List.length_filter_le _ _) (by rw [List.length_take]; omega)
 have HM := Lib.hid hm
 have HCB := Lib.hid hc
 have lx := HK0.out.lt
 have K0 := HK0.out
 unfold emA at hv0 K0
 obtain ⟨x0, x1, x2, x3, x4, x5, _⟩ := six K0
 unfold emV boolTo
 clear hl hx hg hnd hm hc K0
 go_enter Tryz.func37, Tryz.ntmps37
 go_upto_region 1 with fail
 rw [← hv0, ← hC]
 clear hv0
 have HCC := Lib.hid hC
 clear hC
 go_wp2_with fail
 go_loopw [11, 12] (fun o i wr => ∃ (K : Nat) (D : Option Addr) (f : Nat), K ≤ l.length ∧ i = .int .i64 (K : Int) ∧ o = .slice D (oth x.e.k (l.take K)).length f ∧ Mine v0.heap.size 6 wr D (oth x.e.k (l.take K)).length f (emL (oth x.e.k (l.take K))) ∧ Below v0.heap.size v0 wr) (fun _ i _ => l.length - (intOf i).toNat)
 case atStart => exact ⟨0, none, 0, Nat.zero_le _, rfl, rfl, Mine.nil _ _ _, Below.refl _ _⟩
 case round =>
  obtain ⟨K, D, f, hK, rfl, rfl, hmi, hb⟩ := hrel
  have HMI := Lib.hid hmi; have HB := Lib.hid hb
  have hmx := hmi.max
  have hml := hmi.le
  unfold maxLen at hmx
  clear hmi
  have lgr : C < wr.heap.size := by have := hb.size; omega
  have hol := HOL.out K hK
  have K1 := HK0.out.below hb lx
  unfold emA at K1
  clear x0 x1 x2 x3 x4 x5 hb
  obtain ⟨x0, x1, x2, x3, x4, x5, _⟩ := six K1
  clear K1
  by_cases hlt : K < l.length
  ·have j1 : (K : Int) < (l.length : Int) := by omega
   have HS3 := Lib.hid (HT.out K hlt)
   obtain ⟨bb, o, rfl, lb, a0, a1, a2, a3, a4, a5⟩ := (HL.out.below HB.out (Nat.le_refl _)).at_ hlt
   obtain ⟨y, hy⟩ : ∃ y, y = l[K] := ⟨_, rfl⟩
   rw [← hy] at a0 a1 a2 a3 a4 a5 HS3
   obtain ⟨ss, hss⟩ : ∃ ss, ss = oth x.e.k (l.take K) := ⟨_, rfl⟩
   rw [← hss] at HS3 HMI hol hml ⊢
   have HAT : Hid (∀ v, Below v0.heap.size v0 v → v.cell? ⟨bb, o + K * 6, none⟩ = some (.string y.e.k) ∧ v.cell? ⟨bb, o + K * 6 + 1, none⟩ = some (.slice y.A y.e.v.length y.a) ∧ v.cell? ⟨bb, o + K * 6 + 2, none⟩ = some (.slice y.B y.e.t.length y.b) ∧ v.cell? ⟨bb, o + K * 6 + 3, none⟩ = some (.int .u64 y.e.d) ∧ v.cell? ⟨bb, o + K * 6 + 4, none⟩ = some (.int .u64 y.e.n) ∧ v.cell? ⟨bb, o + K * 6 + 5, none⟩ = some (.int .u64 y.e.s)) := fun v hv => by
    obtain ⟨b9, o9, e9, _, c9⟩ := (HL.out.below hv (Nat.le_refl _)).at_ hlt
    injection e9 with e9; injection e9 with e91 e92; subst e91; subst e92
    rw [← hy] at c9
    exact c9
   clear hy hss
   by_cases hk : y.e.k = x.e.k
   ·rw [if_pos hk, List.append_nil] at HS3
    have het := str_yes hk
    have het2 : (!(y.e.k.toList == x.e.k.toList)) = false := by rw [het]; rfl
    clear hk
    go_wp2_with fail
    go_quiet (fail)
    have HBQ : Hid (Below v0.heap.size v0 (wr.drewN nq)) := HB.out.trans (below_drewN (Below.refl _ _) nq)
    have HMQ := Lib.hid (HMI.out.drewN nq)
    go_wp2_with fail
    go_roundw
    case rel => exact ⟨K + 1, D, f, by omega, by go_num, by rw [HS3.out], by rw [HS3.out]; exact HMQ.out, HBQ.out⟩
    case measure => simp [intOf]; omega
   ·rw [if_neg hk] at HS3
    have het := str_no hk
    have het2 : (!(y.e.k.toList == x.e.k.toList)) = true := by rw [het]; rfl
    clear hk
    go_wp2_with fail
    go_quiet (fail)
    obtain ⟨wq, hwq⟩ : ∃ wq, wq = wr.drewN nq := ⟨_, rfl⟩
    have HBQ : Hid (Below v0.heap.size v0 wq) := by show Below _ _ _; rw [hwq]; exact HB.out.trans (below_drewN (Below.refl _ _) nq)
    have HMQ : Hid (Mine v0.heap.size 6 wq D ss.length f (emL ss)) := by show Mine _ _ _ _ _ _ _; rw [hwq]; exact HMI.out.drewN nq
    have HLQ := Lib.hid (HL.out.below HBQ.out (Nat.le_refl _))
    rw [← hwq]
    have lb2 : bb < wq.heap.size := by rw [hwq]; exact lb
    clear a0 a1 a2 a3 a4 a5 x0 x1 x2 x3 x4 x5 hwq
    have HSY : Hid (Src Tryz.prog 6 30 (.slice (some ⟨wq.heap.size, 0, none⟩) 1 1) 1 (emC y) (wq.alloc (.cells (emA y) 42))) := Eh.src_one wq y
    obtain ⟨a0, a1, a2, a3, a4, a5⟩ := HAT.out wq HBQ.out
    unfold emA at HSY
    go_wp2_with (at_builtin; (refine wpList_mine rfl _ _ elE _ rfl rfl (HMQ.out.below (bnew wq (.cells #[.string y.e.k, .slice y.A y.e.v.length y.a, .slice y.B y.e.t.length y.b, .int .u64 y.e.d, .int .u64 y.e.n, .int .u64 y.e.s] 42)) (Nat.le_refl _)) _ rfl 1 _ HSY.out (by omega) (by omega) (by have := HBQ.out.size; simp; omega) ?_))
    intro D2 d2 w2 m2 g2 e2
    have HM2 : Hid (Mine v0.heap.size 6 w2 D2 (ss ++ [y]).length d2 (emL (ss ++ [y]))) := by show Mine _ _ _ _ _ _ _; rw [emL_append, emL_one, List.length_append]; exact m2
    have HB2 : Hid (Below v0.heap.size v0 w2) := HBQ.out.trans (((bnew wq (.cells #[.string y.e.k, .slice y.A y.e.v.length y.a, .slice y.B y.e.t.length y.b, .int .u64 y.e.d, .int .u64 y.e.n, .int .u64 y.e.s] 42)).mono HBQ.out.size).trans ((only_row (F := fun j => v0.heap.size ≤ j) g2 (fun b hb => (HMQ.out.base hb).1)).below (fun _ h => h) (by have := HBQ.out.size; simp; omega)))
    clear m2 g2 e2
    obtain ⟨N, hN⟩ : ∃ N, N = (ss ++ [y]).length := ⟨_, rfl⟩
    have hN1 : ss.length + 1 = N := by rw [hN]; simp
    rw [← hN] at HM2
    have HNN := Lib.hid hN
    clear hN
    try rw [hN1]
    go_wp2_with fail
    go_roundw
    case rel => exact ⟨K + 1, D2, d2, by omega, by go_num, by rw [HS3.out, ← HNN.out], by rw [HS3.out, ← HNN.out]; exact HM2.out, HB2.out⟩
    case measure => simp [intOf]; omega
  ·obtain rfl : K = l.length := by omega
   have hnn : ¬ (l.length : Int) < l.length := by omega
   clear hlt
   have HTL : Hid (oth x.e.k (l.take l.length) = oth x.e.k l) := by show _ = _; rw [List.take_length]
   have HRM : Hid (∀ z ∈ oth x.e.k l, z ∈ l) := fun z hz => (List.mem_filter.1 hz).1
   rw [HTL.out] at HMI hol hml ⊢
   obtain ⟨Q, hQ⟩ : ∃ Q, Q = oth x.e.k l := ⟨_, rfl⟩
   rw [← hQ] at HMI hol hml HRM HR ⊢
   have HM3 : Hid (m.map Em.e = (Q.map Em.e).take (evN b e (cost x.e) (Q.map Em.e))) := by show _ = _; rw [HR.out]; exact HM.out
   clear hQ
   have hen := evN_le b e (cost x.e) (Q.map Em.e)
   rw [List.length_map] at hen
   obtain ⟨n, hn2⟩ : ∃ n, n = evN b e (cost x.e) (Q.map Em.e) := ⟨_, rfl⟩
   have HEV : Hid (∀ i, i < n → evQ b e (cost x.e) (Q.map Em.e) i) := fun i hi => evN_go (by rw [← hn2]; exact hi)
   rw [← hn2] at HM3 hen
   clear hn2
   have hmn : m.length = n := by have := congrArg List.length HM3.out; rw [List.length_map, List.length_take, List.length_map] at this; omega
   have HMN := Lib.hid hmn
   have HRQ : Hid (RL (fun _ => True) wr D f Q) := ⟨Rs.mine HMI.out, fun _ _ => trivial, fun z hz => ((HL.out.e z (HRM.out z hz)).below HB.out (Nat.le_refl _)).mono (fun _ _ => trivial)⟩
   have HGW := Lib.hid (HG.out.below HB.out (Nat.le_refl _))
   have HAL : Hid (Calls Tryz.prog 36 #[.slice B n d, .slice D n f] wr (boolTo true wr)) := by
    refine all_true hmn (l' := Q.take n) (by rw [List.length_take]; omega) (by rw [List.map_take]; exact HM3.out.symm) HGW.out (⟨?_, HRQ.out.g, fun z hz => HRQ.out.e z (List.mem_of_mem_take hz)⟩ : RL (fun _ => True) wr D f (Q.take n))
    have k := rs_pre HRQ.out.r hen
    rw [emL_take] at k
    rw [show (Q.take n).length = n from by rw [List.length_take]; omega]
    exact k
   unfold boolTo at HAL
   have p1 : ¬ (n : Int) > (Q.length : Int) := by omega
   have p2 : (n : Int) ≤ (Q.length : Int) := by omega
   have p4 : n ≤ f := by omega
   have p5 : decide (Q.length < n) = false := by simp; omega
   have p6 : decide ((Q.length : Int) < (n : Int)) = false := by simp; omega
   go_wp2_with fail
   with_reducible refine HAL.out.mono ?_
   rintro q w3 ⟨rfl, hb3⟩
   have HB3 := Lib.hid (HB.out.trans (hb3.mono HB.out.size))
   have HMI3 := Lib.hid (HMI.out.below hb3 (Nat.le_refl _))
   have HRQ3 := Lib.hid (HRQ.out.below hb3 (Nat.le_refl _))
   clear hb3 HAL x0 x1 x2 x3 x4 x5
   by_cases h0 : n = 0
   ·have h00 : ((n : Int) == 0) = true := by rw [h0]; rfl
    have h01 : (n : Int) = 0 := by omega
    go_wp2_with fail
    go_ret
    exact ⟨rfl, HB0.out.trans (HB3.out.mono HB0.out.size)⟩
   ·have h00 : ((n : Int) == 0) = false := by simpa using h0
    have h01 : ¬ (n : Int) = 0 := by omega
    obtain ⟨k, hk⟩ : ∃ k : Nat, n = k + 1 := ⟨n - 1, by omega⟩
    have hk2 : (n : Int) - 1 = (k : Int) := by omega
    have hk3 : k < Q.length := by omega
    have hk4 : (k : Int) ≤ (Q.length : Int) := by omega
    have hk5 : ¬ f = k := by omega
    have HLE := Lib.hid (Ej.rl_cut HRQ3.out (Nat.le_of_lt hk3))
    have hev := HEV.out k (by omega)
    unfold evQ at hev
    rw [List.length_map] at hev
    obtain ⟨gq, oq, rfl, _, _⟩ := mine_place HMI3.out (by rw [emL_len]; omega)
    obtain ⟨M, hM⟩ : ∃ M, M = Q.length - k := ⟨_, rfl⟩
    have hM2 : Q.length - k = M := hM.symm
    have hM3 : (Q.length : Int) - (k : Int) = (M : Int) := by omega
    have HUS : Hid (∀ v, Below w3.heap.size w3 v → Calls Tryz.prog 39 #[.slice (some ⟨gq, oq + k * 6, none⟩) M (f - k)] v (vPost v (.int .i64 (used ((Q.map Em.e).drop k) : Int)))) := fun v hv => by
     have h1 := Ec.used_any _ _ _ v (HLE.out.below hv (Nat.le_refl _)) (by rw [List.length_drop]; omega)
     rw [List.length_drop, hM2, List.map_drop] at h1
     rw [Ef.cut_lit, if_neg hk5] at h1
     exact h1
    have HCS : Hid (∀ v, Below w3.heap.size w3 v → Calls Tryz.prog 24 #[.agg #[.string x.e.k, .slice x.A x.e.v.length x.a, .slice x.B x.e.t.length x.b, .int .u64 x.e.d, .int .u64 x.e.n, .int .u64 x.e.s]] v (vPost v (.int .i64 (cost x.e : Int)))) := fun v hv => cost_any x v ((HX.out.below HB3.out (Nat.le_refl _)).below hv (Nat.le_refl _))
    obtain ⟨U, hU⟩ : ∃ U : Int, U = (used ((Q.map Em.e).drop k) : Int) := ⟨_, rfl⟩
    rw [← hU] at HUS hev
    obtain ⟨Z, hZ⟩ : ∃ Z : Int, Z = (cost x.e : Int) := ⟨_, rfl⟩
    have hub : 0 ≤ U ∧ U ≤ 2000000000000 := by
     have h1 := used_le (l := (Q.map Em.e).drop k) (fun z hz => by
      obtain ⟨y, hy, rfl⟩ := List.mem_map.1 (List.mem_of_mem_drop hz)
      exact (HRQ3.out.e y hy).f)
     have h2 : ((Q.map Em.e).drop k).length ≤ 1000 := by rw [List.length_drop, List.length_map]; omega
     have h3 := Nat.mul_le_mul_right 2000000000 h2
     omega
    have hzb : 0 ≤ Z ∧ Z ≤ b := by have := HCB.out; omega
    rw [← hZ] at HCS hev
    obtain ⟨hu1, hu2⟩ := hub
    obtain ⟨hz1, hz2⟩ := hzb
    have KX : ∀ v, Below w3.heap.size w3 v → Blk v C (emA x) 42 := fun v hv => (HK0.out.below HB3.out lx).below hv (by have := HB3.out.size; omega)
    unfold emA at KX
    have T0 : ∀ v, Below w3.heap.size w3 v → v.cell? ⟨C, 0, none⟩ = some (.string x.e.k) := fun v hv => by have := (KX v hv).cell 0; exact this
    have T1 : ∀ v, Below w3.heap.size w3 v → v.cell? ⟨C, 1, none⟩ = some (.slice x.A x.e.v.length x.a) := fun v hv => by have := (KX v hv).cell 1; exact this
    have T2 : ∀ v, Below w3.heap.size w3 v → v.cell? ⟨C, 2, none⟩ = some (.slice x.B x.e.t.length x.b) := fun v hv => by have := (KX v hv).cell 2; exact this
    have T3 : ∀ v, Below w3.heap.size w3 v → v.cell? ⟨C, 3, none⟩ = some (.int .u64 x.e.d) := fun v hv => by have := (KX v hv).cell 3; exact this
    have T4 : ∀ v, Below w3.heap.size w3 v → v.cell? ⟨C, 4, none⟩ = some (.int .u64 x.e.n) := fun v hv => by have := (KX v hv).cell 4; exact this
    have T5 : ∀ v, Below w3.heap.size w3 v → v.cell? ⟨C, 5, none⟩ = some (.int .u64 x.e.s) := fun v hv => by have := (KX v hv).cell 5; exact this
    clear KX
    have lC : C < w3.heap.size := by have := HB3.out.size; omega
    have D3 : Below w3.heap.size w3 w3.drew := (Below.refl _ _).drew
    clear hU hZ hM
    unfold vPost at HUS HCS
    have hMs : M ≤ 1000 := by omega
    have w1 : IntKind.i64.wrap ((M : Int) + 1) = (M : Int) + 1 := by rw [IntKind.wrap_i64]; omega
    have w2 : IntKind.i64.wrap (U + Z) = U + Z := by rw [IntKind.wrap_i64]; omega
    by_cases hq : (M : Int) + 1 > e
    ·have g1 : decide ((M : Int) + 1 > e) = true := by simp; omega
     have g2 : decide (e < (M : Int) + 1) = true := by simp; omega
     go_wp2_with fail
     refine wp_region_noPanic ?_
     refine wp_region_held_drew (S := fun v => Below w3.heap.size w3 v) (by kernel_rfl) (D3) (fun hHeld => ?_)
     refine Rg.th 0 (some 57) (v := ?_) rfl (by kernel_rfl) (fun _ _ _ h => h) (by rfl) (by assumption) ?_ ?_
     rotate_left
     ·intro w hSw; go_simp; first | done | with_reducible rfl
     try simp only [Ap.sc]
     refine Rg.th 1 (some 58) (v := ?_) rfl (by kernel_rfl) (fun _ _ _ h => h) (by rfl) (by assumption) ?_ ?_
     rotate_left
     ·intro w hSw; go_simp; first | done | with_reducible rfl
     try simp only [Ap.sc]
     refine Rg.th 2 (some 59) (v := ?_) rfl (by kernel_rfl) (fun _ _ _ h => h) (by rfl) (by assumption) ?_ ?_
     rotate_left
     ·intro w hSw; go_simp; first | done | with_reducible rfl
     try simp only [Ap.sc]
     refine Rg.th 3 (some 60) (v := ?_) rfl (by kernel_rfl) (fun _ _ _ h => h) (by rfl) (by assumption) ?_ ?_
     rotate_left
     ·intro w hSw; go_simp; first | done | with_reducible rfl
     try simp only [Ap.sc]
     refine Rg.th 4 (some 61) (v := ?_) rfl (by kernel_rfl) (fun _ _ _ h => h) (by rfl) (by assumption) ?_ ?_
     rotate_left
     ·intro w hSw; go_simp; first | done | with_reducible rfl
     try simp only [Ap.sc]
     refine Rg.th 5 (some 62) (v := ?_) rfl (by kernel_rfl) (fun _ _ _ h => h) (by rfl) (by assumption) ?_ ?_
     rotate_left
     ·intro w hSw; go_simp; first | done | with_reducible rfl
     try simp only [Ap.sc]
     refine wpAnyH_take (i := 6) (oi := ⟨some 63, _, _, _, _, _⟩) (v := _) rfl (by kernel_rfl) (by kernel_rfl) (by kernel_rfl) (fun _ _ _ h => h) (Or.inr ⟨by rfl, rfl⟩) (by assumption) ?_
     try simp only [Ap.sc]
     refine wpAnyH_take (i := 7) (oi := ⟨some 64, _, _, _, _, _⟩) (v := _) rfl (by kernel_rfl) (by kernel_rfl) (by kernel_rfl) (fun _ _ _ h => h) (Or.inr ⟨by rfl, rfl⟩) (by assumption) ?_
     try simp only [Ap.sc]
     refine wpAnyH_take (i := 8) (oi := ⟨some 65, _, _, _, _, _⟩) (v := _) rfl (by kernel_rfl) (by kernel_rfl) (by kernel_rfl) (fun _ _ _ h => h) (Or.inr ⟨by rfl, rfl⟩) (by assumption) ?_
     try simp only [Ap.sc]
     refine wpAnyH_take (i := 9) (oi := ⟨some 66, _, _, _, _, _⟩) (v := _) rfl (by kernel_rfl) (by kernel_rfl) (by kernel_rfl) (fun _ _ _ h => h) (Or.inr ⟨by rfl, rfl⟩) (by assumption) ?_
     try simp only [Ap.sc]
     refine wpAnyH_take (i := 10) (oi := ⟨some 67, _, _, _, _, _⟩) (v := _) rfl (by kernel_rfl) (by kernel_rfl) (by kernel_rfl) (fun _ _ _ h => h) (Or.inr ⟨by rfl, rfl⟩) (by assumption) ?_
     try simp only [Ap.sc]
     refine wpAnyH_take (i := 11) (oi := ⟨some 68, _, _, _, _, _⟩) (v := _) rfl (by kernel_rfl) (by kernel_rfl) (by kernel_rfl) (fun _ _ _ h => h) (Or.inr ⟨by rfl, rfl⟩) (by assumption) ?_
     try simp only [Ap.sc]
     refine wpAnyH_take (i := 12) (oi := ⟨some 69, _, _, _, _, _⟩) (v := _) rfl (by kernel_rfl) (by kernel_rfl) (by kernel_rfl) (fun _ _ _ h => h) (Or.inr ⟨by rfl, rfl⟩) (by assumption) ?_
     try simp only [Ap.sc]
     refine Rg.th 13 (some 70) (v := ?_) rfl (by kernel_rfl) (fun _ _ _ h => h) (by rfl) (by assumption) ?_ ?_
     rotate_left
     ·intro w hSw; go_simp; first | done | with_reducible rfl
     try simp only [Ap.sc]
     refine Rg.th 14 (some 10) (v := ?_) rfl (by kernel_rfl) (fun _ _ _ h => h) (by rfl) (by assumption) ?_ ?_
     rotate_left
     ·intro w hSw; go_simp; first | done | with_reducible rfl
     try simp only [Ap.sc]
     refine wpAnyH_done (by kernel_rfl) ?_ _
     refine NoPanic.normal ?_
     go_wp2_with fail
     go_ret
     exact ⟨rfl, HB0.out.trans ((HB3.out.trans (hHeld.mono HB3.out.size)).mono HB0.out.size)⟩
    ·have g1 : decide ((M : Int) + 1 > e) = false := by simp; omega
     have g2 : decide (e < (M : Int) + 1) = false := by simp; omega
     have g3 : decide (U + Z > b) = true := by simp; omega
     have g4 : decide (b < U + Z) = true := by simp; omega
     go_wp2_with fail
     refine wp_region_noPanic ?_
     refine wp_region_held_drew (S := fun v => Below w3.heap.size w3 v) (by kernel_rfl) (D3) (fun hHeld => ?_)
     refine Rg.th 0 (some 57) (v := ?_) rfl (by kernel_rfl) (fun _ _ _ h => h) (by rfl) (by assumption) ?_ ?_
     rotate_left
     ·intro w hSw; go_simp; first | done | with_reducible rfl
     try simp only [Ap.sc]
     refine Rg.th 1 (some 58) (v := ?_) rfl (by kernel_rfl) (fun _ _ _ h => h) (by rfl) (by assumption) ?_ ?_
     rotate_left
     ·intro w hSw; go_simp; first | done | with_reducible rfl
     try simp only [Ap.sc]
     refine Rg.th 2 (some 59) (v := ?_) rfl (by kernel_rfl) (fun _ _ _ h => h) (by rfl) (by assumption) ?_ ?_
     rotate_left
     ·intro w hSw; go_simp; first | done | with_reducible rfl
     try simp only [Ap.sc]
     refine Rg.th 3 (some 60) (v := ?_) rfl (by kernel_rfl) (fun _ _ _ h => h) (by rfl) (by assumption) ?_ ?_
     rotate_left
     ·intro w hSw; go_simp; first | done | with_reducible rfl
     try simp only [Ap.sc]
     refine Rg.th 4 (some 61) (v := ?_) rfl (by kernel_rfl) (fun _ _ _ h => h) (by rfl) (by assumption) ?_ ?_
     rotate_left
     ·intro w hSw; go_simp; first | done | with_reducible rfl
     try simp only [Ap.sc]
     refine Rg.th 5 (some 62) (v := ?_) rfl (by kernel_rfl) (fun _ _ _ h => h) (by rfl) (by assumption) ?_ ?_
     rotate_left
     ·intro w hSw; go_simp; first | done | with_reducible rfl
     try simp only [Ap.sc]
     refine Rg.th 6 (some 63) (v := ?_) rfl (by kernel_rfl) (fun _ _ _ h => h) (by rfl) (by assumption) ?_ ?_
     rotate_left
     ·intro w hSw; go_simp; first | done | with_reducible rfl
     try simp only [Ap.sc]
     refine Rg.th 8 (some 65) (v := ?_) rfl (by kernel_rfl) (fun _ _ _ h => h) (by rfl) (by assumption) ?_ ?_
     rotate_left
     ·intro w hSw; go_simp; first | done | with_reducible rfl
     try simp only [Ap.sc]
     refine Rg.th 11 (some 68) (v := ?_) rfl (by kernel_rfl) (fun _ _ _ h => h) (by rfl) (by assumption) ?_ ?_
     rotate_left
     ·intro w hSw; go_simp; first | done | with_reducible rfl
     try simp only [Ap.sc]
     refine wpAnyH_ready (rs := [7]) (by kernel_rfl) (by simp) ?_
     refine AllReadyH.cons (o := ⟨some 64, _, _, _, _, _⟩) rfl (fun K hK => ?_) AllReadyH.nil
     go_simp
     with_reducible refine (HUS.out _ hHeld).mono ?_
     rintro d u7 ⟨rfl, hb⟩
     have K7 := bstep hHeld hb
     clear hb
     go_simp
     refine hK.out _ _ (K7) (fun hHeld => ?_)
     clear hK K
     try simp only [Ap.sc]
     refine wpAnyH_ready (rs := [9]) (by kernel_rfl) (by simp) ?_
     refine AllReadyH.cons (o := ⟨some 66, _, _, _, _, _⟩) rfl (fun K hK => ?_) AllReadyH.nil
     go_simp
     with_reducible refine (HCS.out _ hHeld).mono ?_
     rintro d u9 ⟨rfl, hb⟩
     have K9 := bstep hHeld hb
     clear hb
     go_simp
     refine hK.out _ _ (K9) (fun hHeld => ?_)
     clear hK K
     try simp only [Ap.sc]
     refine Rg.th 10 (some 67) (v := ?_) rfl (by kernel_rfl) (fun _ _ _ h => h) (by rfl) (by assumption) ?_ ?_
     rotate_left
     ·intro w hSw; go_simp; first | done | with_reducible rfl
     try simp only [Ap.sc]
     refine Rg.th 12 (some 69) (v := ?_) rfl (by kernel_rfl) (fun _ _ _ h => h) (by rfl) (by assumption) ?_ ?_
     rotate_left
     ·intro w hSw; go_simp; first | done | with_reducible rfl
     try simp only [Ap.sc]
     refine Rg.th 13 (some 70) (v := ?_) rfl (by kernel_rfl) (fun _ _ _ h => h) (by rfl) (by assumption) ?_ ?_
     rotate_left
     ·intro w hSw; go_simp; first | done | with_reducible rfl
     try simp only [Ap.sc]
     refine Rg.th 14 (some 10) (v := ?_) rfl (by kernel_rfl) (fun _ _ _ h => h) (by rfl) (by assumption) ?_ ?_
     rotate_left
     ·intro w hSw; go_simp; first | done | with_reducible rfl
     try simp only [Ap.sc]
     refine wpAnyH_done (by kernel_rfl) ?_ _
     refine NoPanic.normal ?_
     go_wp2_with fail
     go_ret
     exact ⟨rfl, HB0.out.trans ((HB3.out.trans (hHeld.mono HB3.out.size)).mono HB0.out.size)⟩
end
end Go.Proofs.YtlmljhnogmfcfaaGreat.Ez
