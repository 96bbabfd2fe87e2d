/- Proves that StoreHolds returns true at every argument. Conditions: as each theorem names them. -/
import Derived.Test.YtlmljhnogmfcfaaGreatRg
import Derived.Test.YtlmljhnogmfcfaaGreatEz
import Derived.Test.YtlmljhnogmfcfaaGreatEw
namespace Go.Proofs.YtlmljhnogmfcfaaGreat.Eza
open Go.RowKit Ap Mi Nw Rg Ea Eb Ec Ed Ee El Ep Er Et Ez
open Es (actA actV eight)

section
variable {F G F1 G1 P1 P2 R : Nat → Prop} {N g t : Nat} {W w w1 w2 : World} {s s' : Sx} {A : Option Addr} {c : Nat} {l : List Em}
structure Tw (N : Nat) (W w : World) (F G : Nat → Prop) (g t : Nat) (s : Sx) : Prop where
 sf : St F w g s
 sg : St G w t s
 d : ∀ j, F j → ¬ G j
 f : ∀ j, F j → N ≤ j ∧ j < w.heap.size
 q : ∀ j, G j → N ≤ j ∧ j < w.heap.size
 bl : Below N W w
 n : N ≤ w.heap.size
theorem Tw.below (h : Tw N W w F G g t s) (hb : Below w.heap.size w w1) : Tw N W w1 F G g t s :=
 ⟨h.sf.below hb, h.sg.below hb, h.d, fun j hj => ⟨(h.f j hj).1, Nat.lt_of_lt_of_le (h.f j hj).2 hb.size⟩, fun j hj => ⟨(h.q j hj).1, Nat.lt_of_lt_of_le (h.q j hj).2 hb.size⟩, h.bl.trans (hb.mono h.n), Nat.le_trans h.n hb.size⟩
theorem Tw.sg1 (h : Tw N W w F G g t s) (ho : Only F w w1) : St G w1 t s := h.sg.only ho (fun j hg hf => h.d j hf hg)
theorem two (h : Tw N W w F G g t s) (ga : Gave F w w1 g s' F1 P1) (gb : Gave G w1 w2 t s' G1 P2) : ∃ F9 G9, Tw N W w2 F9 G9 g t s' := by
 have hn := h.n
 have hz1 := ga.o.size
 have hz2 := gb.o.size
 have hFG : ∀ j, (F1 j ∧ j < w1.heap.size) → ¬ G j := fun j hj hg => by
  rcases ga.f j hj.1 with k | k
  ·exact h.d j k hg
  ·have := (h.q j hg).2; omega
 refine ⟨_, _, ⟨ga.s.tight.only gb.o (fun j hj hg => hFG j hj hg), gb.s.tight, fun j hj hg => ?_, fun j hj => ⟨?_, by have := hj.2; omega⟩, fun j hj => ⟨?_, hj.2⟩, ?_, by omega⟩⟩
 ·rcases gb.f j hg.1 with k | k
  ·exact hFG j hj k
  ·have := hj.2; omega
 ·rcases ga.f j hj.1 with k | k
  ·exact (h.f j k).1
  ·omega
 ·rcases gb.f j hj.1 with k | k
  ·exact (h.q j k).1
  ·omega
 ·exact (h.bl.trans (ga.o.below (fun j hj => (h.f j hj).1) hn)).trans (gb.o.below (fun j hj => (h.q j hj).1) (by omega))
theorem two_l (h : Tw N W w F G g t s) (ga : Gave F w w1 g s' F1 P1) (ho : Only G w1 w2) (hr : RL P1 w1 A c l) : RL P1 w2 A c l := hr.only ho (fun j hg hp => by
 rcases ga.p j hp with k | k
 ·exact h.d j k hg
 ·have := (h.q j hg).2; omega)
open Classical in
set_option maxRecDepth 100000 in
set_option maxHeartbeats 40000000 in
theorem holds_any {b e sd ot : Int} {L : List Cl} (hsd : 0 ≤ sd ∧ sd < 18446744073709551616) (hot : 0 ≤ ot ∧ ot < 18446744073709551616) (hR : ∀ j, R j → j < w.heap.size) (hA : RA R w A c L) :
  Calls Tryz.prog 8 #[.int .i64 b, .int .i64 e, .slice A L.length c, .int .u64 sd, .int .u64 ot] w (boolTo true w) := by
 have HA := Lib.hid hA; have HR := Lib.hid hR; have HKN := Lib.hid Ew.known_any
 have hcm := Rs.max hA.r
 have hcl := Rs.le hA.r
 unfold maxLen at hcm
 have HFW := Lib.hid (few_any hA)
 have HBG := Lib.hid (budget_any b e w)
 unfold vPost at HFW
 unfold boolTo at HKN ⊢
 clear hA hR
 by_cases hbu : bud b e
 case neg =>
  rw [decide_eq_false hbu] at HBG
  clear hbu HFW
  go_enter Tryz.func8, Tryz.ntmps8
  go_wp2_with fail
  refine HBG.out.mono ?_
  rintro q w1 ⟨rfl, rfl⟩
  go_wp2_with fail
  refine (HKN.out _).mono ?_
  rintro q w9 ⟨rfl, hb⟩
  have HB9 := Lib.hid (hb)
  clear hb
  go_wp2_with fail
  go_ret
  exact ⟨rfl, HB9.out⟩
 rw [decide_eq_true hbu] at HBG
 by_cases hfw : fewP L
 case neg =>
  rw [decide_eq_false hfw] at HFW
  clear hfw hbu
  go_enter Tryz.func8, Tryz.ntmps8
  go_wp2_with fail
  refine HBG.out.mono ?_
  rintro q w1 ⟨rfl, rfl⟩
  go_wp2_with fail
  refine HFW.out.mono ?_
  rintro q w2 ⟨rfl, hb2⟩
  have HB2 := Lib.hid hb2
  clear hb2
  go_wp2_with fail
  refine (HKN.out _).mono ?_
  rintro q w9 ⟨rfl, hb⟩
  have HB9 := Lib.hid (bstep HB2.out hb)
  clear hb
  go_wp2_with fail
  go_ret
  exact ⟨rfl, HB9.out⟩
 rw [decide_eq_true hfw] at HFW
 have HLT := Lib.hid hfw.2
 have hl40 := hfw.1
 clear hfw
 go_enter Tryz.func8, Tryz.ntmps8
 go_wp2_with fail
 refine HBG.out.mono ?_
 rintro q w1 ⟨rfl, rfl⟩
 go_wp2_with fail
 refine HFW.out.mono ?_
 rintro q w2 ⟨rfl, hb2⟩
 have HB2 := Lib.hid hb2
 have HNW := Lib.hid (new_yes hbu sd hsd w2)
 unfold newPost at HNW
 clear hb2 HFW HBG
 go_wp2_with fail
 refine HNW.out.mono ?_
 rintro q w3 ⟨g, F0, rfl, hst, hf0, hb3⟩
 have HNX := Lib.hid (new_yes hbu ot hot w3)
 unfold newPost at HNX
 go_wp2_with fail
 refine HNX.out.mono ?_
 rintro q w4 ⟨t, G0, rfl, hsu, hg0, hb4⟩
 have HTW : Hid (Tw w1.heap.size w1 w4 (fun j => F0 j ∧ j < w3.heap.size) (fun j => G0 j ∧ j < w4.heap.size) g t ⟨b, e, []⟩) := by
  have z2 := HB2.out.size; have z3 := hb3.size; have z4 := hb4.size
  exact ⟨hst.tight.below hb4, hsu.tight, fun j h1 h2 => by have := hg0 j h2.1; have := h1.2; omega, fun j hj => ⟨by have := hf0 j hj.1; omega, by have := hj.2; omega⟩, fun j hj => ⟨by have := hg0 j hj.1; omega, hj.2⟩, bstep (bstep HB2.out hb3) hb4, by omega⟩
 have HBU := Lib.hid hbu
 clear hst hf0 hb3 hsu hg0 hb4 HNW HNX hbu
 go_wp2_with fail
 go_loopw [15] (fun i wr => ∃ (K : Nat) (s : Sx) (F G : Nat → Prop), K ≤ L.length ∧ i = .int .i64 (K : Int) ∧ Tw w1.heap.size w1 wr F G g t s ∧ s.b = b ∧ s.e = e ∧ s.l.length ≤ K) (fun i _ => L.length - (intOf i).toNat)
 case atStart => exact ⟨0, ⟨b, e, []⟩, _, _, Nat.zero_le _, rfl, HTW.out, rfl, rfl, Nat.le_refl _⟩
 case round =>
  obtain ⟨K, s, F, G, hK, rfl, htw, hsb, hse, hll⟩ := hrel
  have TW := Lib.hid htw; have SB := Lib.hid hsb; have SE := Lib.hid hse; have HLL := Lib.hid hll
  clear htw hsb hse hll HTW
  by_cases hlt : K < L.length
  ·have j1 : (K : Int) < (L.length : Int) := by omega
   obtain ⟨y, hy⟩ : ∃ y, y = L[K] := ⟨_, rfl⟩
   have hat := (HA.out.below TW.out.bl).at_ hlt
   rw [← hy] at hat
   obtain ⟨tb, to_, eA, ltb, a0, a1, a2, a3, a4, a5, a6, a7⟩ := hat
   have HYL : Hid (lgt y.x.e) := by show lgt _; rw [hy]; exact HLT.out _ (List.getElem_mem hlt)
   have HYX : Hid (RX R w1 y.x) := by show RX _ _ _; rw [hy]; exact HA.out.e _ (List.getElem_mem hlt)
   have HYT : Hid (0 ≤ y.t ∧ y.t < 18446744073709551616) := by show _ ∧ _; rw [hy]; exact HA.out.t _ (List.getElem_mem hlt)
   have HKS : Hid (y.x.e.k.size ≤ 1000000) := by show _ ≤ _; have := HYL.out.2.2.1; omega
   have HXB : Hid (∀ v, Below w1.heap.size w1 v → RE (fun _ => True) v y.x) := fun v hv => (HYX.out.only (Only.of_below hv (Nat.le_refl _) (fun _ => False)) (fun _ h => h.elim)).re HYL.out
   subst eA
   clear hy
   obtain ⟨v1, hv1⟩ : ∃ v1, v1 = wr.alloc (.cells (actA y.n y.x y.t) 44) := ⟨_, rfl⟩
   obtain ⟨C, hC⟩ : ∃ C, C = wr.heap.size := ⟨_, rfl⟩
   have HV1 : Hid (Below wr.heap.size wr v1) := by show Below _ _ _; rw [hv1]; exact bnew _ _
   have HC1 : Hid (Blk v1 C (actA y.n y.x y.t) 44) := by show Blk _ _ _ _; rw [hv1, hC]; exact Blk.new _ _ _
   have HCC := Lib.hid hC
   have TW1 := Lib.hid (TW.out.below HV1.out)
   have HCB := Lib.hid (collect_any TW1.out.sf (by have := HLL.out; omega))
   unfold Ep.allPost at HCB
   unfold actA at hv1
   go_upto_region 11 with fail
   rw [← hv1, ← hC]
   clear hv1 hC a0 a1 a2 a3 a4 a5 a6 a7
   go_wp2_with fail
   refine HCB.out.mono ?_
   rintro q w2 ⟨A1, c1, lb, rfl, hlb, hhd, hb⟩
   have TW2 := Lib.hid (TW1.out.below hb)
   have HC2 := Lib.hid (HC1.out.below hb HC1.out.lt)
   have HLB := Lib.hid hlb; have HHD := Lib.hid hhd.r
   have hcl1 := Rs.le hhd.r.r
   have hcm1 := Rs.max hhd.r.r
   unfold maxLen at hcm1
   clear hlb hhd hb HCB
   have HCW := HC2.out.lt
   have hFC : ∀ j, F j → j ≠ C := fun j hj => by have := (TW.out.f j hj).2; have := HCC.out; omega
   have hGC : ∀ j, G j → j ≠ C := fun j hj => by have := (TW.out.q j hj).2; have := HCC.out; omega
   have HFC := Lib.hid hFC; have HGC := Lib.hid hGC
   clear hFC hGC
   by_cases hw0 : y.n = 0
   ·have hw := hw0
    have b0 : (y.n == 0) = true := by rw [hw]; decide
    have hk8 := HC2.out
    unfold actA at hk8
    obtain ⟨a0, a1, a2, a3, a4, a5, a6, a7⟩ := eight hk8
    have la := hk8.lt
    clear hk8
    have HX2 : Hid (RX R w2 y.x) := HYX.out.only (Only.of_below TW2.out.bl (Nat.le_refl _) (fun _ => False)) (fun _ h => h.elim)
    have HFR : Hid (∀ j, F j → ¬ R j) := fun j hf hr => by have := (TW2.out.f j hf).1; have := HR.out j hr; omega
    have HGR : Hid (∀ j, G j → ¬ R j) := fun j hf hr => by have := (TW2.out.q j hf).1; have := HR.out j hr; omega
    have H1 := Lib.hid (Ep.put_any TW2.out.sf (G := fun _ => True) (x := y.x) (fun v hv => (HX2.out.only hv HFR.out).re HYL.out))
    obtain ⟨p, hp⟩ : ∃ p, p = putN s y.x.e := ⟨_, rfl⟩
    rw [← hp] at H1
    have HP := Lib.hid hp
    clear hp
    unfold Ep.putPost emV at H1
    go_wp2_with fail
    with_reducible refine H1.out.mono ?_
    rintro q w3 ⟨F1, P1, A3, c3, l3, rfl, hl3, hh3, ga⟩
    have GA := Lib.hid ga; have HL3 := Lib.hid hl3; have HH3 := Lib.hid hh3.r
    have hc3l := Rs.le hh3.r.r
    have hc3m := Rs.max hh3.r.r
    unfold maxLen at hc3m
    have HC3 := Lib.hid (HC2.out.only ga.o (fun hf => HFC.out _ hf rfl))
    have HX3 := Lib.hid (HX2.out.only ga.o HFR.out)
    have HB3 := Lib.hid (HHD.out.only ga.o (fun j hf hj => by have := (TW1.out.f j hf).2; omega))
    have H2 := Lib.hid (Ep.put_any (TW2.out.sg1 ga.o) (G := fun _ => True) (x := y.x) (fun v hv => (HX3.out.only hv HGR.out).re HYL.out))
    rw [← HP.out] at H2
    unfold Ep.putPost emV at H2
    clear ga hl3 hh3 H1
    clear a0 a1 a2 a3 a4 a5 a6 a7 la
    have hk8 := HC3.out
    unfold actA at hk8
    obtain ⟨a0, a1, a2, a3, a4, a5, a6, a7⟩ := eight hk8
    have la := hk8.lt
    clear hk8
    go_wp2_with fail
    with_reducible refine H2.out.mono ?_
    rintro q w4 ⟨G1, P2, A4, c4, l4, rfl, hl4, hh4, gb⟩
    obtain ⟨F9, G9, tw9⟩ := two TW2.out GA.out gb
    have hr4 := two_l TW2.out GA.out gb.o HH3.out
    have HR4 := Lib.hid hr4
    have HC4 := Lib.hid (HC3.out.only gb.o (fun hf => HGC.out _ hf rfl))
    have HX4 := Lib.hid (HX3.out.only gb.o HGR.out)
    have HB4 := Lib.hid (HB3.out.only gb.o (fun j hf hj => by have := (TW1.out.q j hf).2; omega))
    have HAL := Lib.hid (all_true rfl rfl (hl4.trans HL3.out.symm) hr4 hh4.r)
    unfold boolTo at HAL
    have hc4l := Rs.le hh4.r.r
    have hc4m := Rs.max hh4.r.r
    unfold maxLen at hc4m
    have T9 := Lib.hid tw9
    clear gb hl4 hh4 hr4 tw9 H2
    clear a0 a1 a2 a3 a4 a5 a6 a7 la
    have q1 : (p == p) = true := by simp
    have q2 : (p != p) = false := by simp
    go_wp2_with fail
    with_reducible refine HAL.out.mono ?_
    rintro q w5 ⟨rfl, hb⟩
    have T5 := Lib.hid (T9.out.below hb)
    have HC5 := Lib.hid (HC4.out.below hb HC4.out.lt)
    have HX5 := Lib.hid ((HX4.out.only (Only.of_below hb (Nat.le_refl _) (fun _ => False)) (fun _ h => h.elim)).re HYL.out)
    have HB5 := Lib.hid (HB4.out.below hb (Nat.le_refl _))
    have HR5 := Lib.hid (HR4.out.below hb (Nat.le_refl _))
    clear hb HAL
    by_cases hp0 : p = 0
    ·subst hp0
     have e0 : ((0 : Int) == 0) = true := by decide
     have HOS := Lib.hid (St.ok TW2.out.sf)
     have hpe : putE s.b y.x.e = 0 := HP.out.symm
     have HEV : Hid (Calls Tryz.prog 37 #[.slice A1 lb.length c1, emV y.x, .slice A3 l3.length c3, .int .i64 b, .int .i64 e] w5 (boolTo true w5)) := by
      have hk : (lb.map fun z => z.e.k) = s.l.map (·.k) := by rw [← HLB.out, List.map_map]; rfl
      have hb := HOS.out.bb
      rw [SB.out] at hb
      refine evicts_true HB5.out (by have h1 := congrArg List.length HLB.out; rw [List.length_map] at h1; have := HLL.out; omega) HX5.out HR5.out b e hb.1 hb.2.1 (by rw [hk]; exact HOS.out.nd) ?_ ?_
      ·rcases putE_cases s.b y.x.e with ⟨h, _⟩ | ⟨h, _⟩ | ⟨h, _⟩ | ⟨h, _⟩ | ⟨_, _, _, _, h⟩
       ·omega
       ·omega
       ·omega
       ·omega
       ·rw [SB.out] at h; exact h
      ·rw [HL3.out, HLB.out]
       unfold putG
       rw [if_pos HP.out.symm, SB.out, SE.out]
     unfold emV boolTo at HEV
     clear hpe
     have hk8 := HC5.out
     unfold actA at hk8
     obtain ⟨a0, a1, a2, a3, a4, a5, a6, a7⟩ := eight hk8
     have la := hk8.lt
     clear hk8
     go_wp2_with fail
     with_reducible refine HEV.out.mono ?_
     rintro q w6 ⟨rfl, hb⟩
     have T6 := Lib.hid (T5.out.below hb)
     clear hb HEV
     clear a0 a1 a2 a3 a4 a5 a6 a7 la
     have HBE : (putT s y.x.e).b = b ∧ (putT s y.x.e).e = e := ⟨((bs_p s y.x.e).1).trans SB.out, ((bs_p s y.x.e).2).trans SE.out⟩
     have HLE : (putT s y.x.e).l.length ≤ K + 1 := by have := actT_len 0 y.x.e y.t s; unfold actT at this; simp at this; have := HLL.out; omega
     have TWT := Lib.hid T6.out
     have HOK := Lib.hid (St.ok TWT.out.sf)
     have HSB : Hid ((putT s y.x.e).b = b ∧ (putT s y.x.e).e = e) := HBE
     have HLN : Hid ((putT s y.x.e).l.length ≤ K + 1) := HLE
     obtain ⟨u, hu⟩ : ∃ u, u = putT s y.x.e := ⟨_, rfl⟩
     rw [← hu] at TWT HOK HSB HLN
     clear hu
     have HUS := Lib.hid (used_any TWT.out.sf)
     unfold vPost at HUS
     go_wp2_with fail
     with_reducible refine HUS.out.mono ?_
     rintro q z1 ⟨rfl, hb⟩
     have TWA := Lib.hid (TWT.out.below hb)
     clear hb HUS
     have k1 : ¬ (used u.l : Int) > b := by have := HOK.out.us; have := HSB.out.1; omega
     have k2 : ¬ (u.l.length : Int) > e := by have := HOK.out.le; have := HSB.out.2; omega
     have HCA := Lib.hid (collect_any TWA.out.sf (by have := HLN.out; omega))
     unfold Ep.allPost at HCA
     go_wp2_with fail
     with_reducible refine HCA.out.mono ?_
     rintro q z2 ⟨A5, c5, m5, rfl, hm5, hh5, hb⟩
     have TWB := Lib.hid (TWA.out.below hb)
     clear hb HCA
     have hm5l : m5.length = u.l.length := by rw [← hm5]; simp
     have HU5 := Lib.hid (Ec.used_any A5 c5 m5 z2 hh5.r (by have := HLN.out; omega))
     rw [hm5, hm5l] at HU5
     unfold vPost at HU5
     clear hm5 hh5
     go_wp2_with fail
     with_reducible refine HU5.out.mono ?_
     rintro q z3 ⟨rfl, hb⟩
     have TWC := Lib.hid (TWB.out.below hb)
     clear hb HU5 hm5l
     have HCD := Lib.hid (collect_any TWC.out.sf (by have := HLN.out; omega))
     unfold Ep.allPost at HCD
     have k3 : ((used u.l : Int) != (used u.l : Int)) = false := by simp
     have k4 : ((used u.l : Int) == (used u.l : Int)) = true := by simp
     go_wp2_with fail
     with_reducible refine HCD.out.mono ?_
     rintro q z4 ⟨A6, c6, m6, rfl, hm6, _, hb⟩
     have TWD := Lib.hid (TWC.out.below hb)
     clear hb HCD
     have hm6l : m6.length = u.l.length := by rw [← hm6]; simp
     clear hm6
     have HCE := Lib.hid (collect_any TWD.out.sf (by have := HLN.out; omega))
     unfold Ep.allPost at HCE
     have k5 : ((u.l.length : Int) == (m6.length : Int)) = true := by rw [hm6l]; simp
     have k6 : ((u.l.length : Int) != (m6.length : Int)) = false := by rw [hm6l]; simp
     clear hm6l
     go_wp2_with fail
     with_reducible refine HCE.out.mono ?_
     rintro q z5 ⟨A7, c7, m7, rfl, hm7, hh7, hb⟩
     have TWE := Lib.hid (TWD.out.below hb)
     have HM7 := Lib.hid hm7; have HH7 := Lib.hid hh7.r
     clear hb hm7 hh7 HCE
     have HCF := Lib.hid (collect_any TWE.out.sg (by have := HLN.out; omega))
     unfold Ep.allPost at HCF
     go_wp2_with fail
     with_reducible refine HCF.out.mono ?_
     rintro q z6 ⟨A8, c8, m8, rfl, hm8, hh8, hb⟩
     have TWF := Lib.hid (TWE.out.below hb)
     have HAL := Lib.hid (all_true rfl rfl (hm8.trans HM7.out.symm) (HH7.out.below hb (Nat.le_refl _)) hh8.r)
     unfold boolTo at HAL
     clear hb hm8 hh8 HCF
     go_wp2_with fail
     with_reducible refine HAL.out.mono ?_
     rintro q z7 ⟨rfl, hb⟩
     have TWG := Lib.hid (TWF.out.below hb)
     clear hb HAL
     go_wp2_with fail
     go_roundw
     case rel => exact ⟨K + 1, u, _, _, by omega, by go_num, TWG.out, HSB.out.1, HSB.out.2, HLN.out⟩
     case measure => simp [intOf]; omega
    ·have e0 : (p == 0) = false := by simpa using hp0
     have HBE : (putT s y.x.e).b = b ∧ (putT s y.x.e).e = e := ⟨((bs_p s y.x.e).1).trans SB.out, ((bs_p s y.x.e).2).trans SE.out⟩
     have HLE : (putT s y.x.e).l.length ≤ K + 1 := by have := actT_len 0 y.x.e y.t s; unfold actT at this; simp at this; have := HLL.out; omega
     have TWT := Lib.hid T5.out
     have HOK := Lib.hid (St.ok TWT.out.sf)
     have HSB : Hid ((putT s y.x.e).b = b ∧ (putT s y.x.e).e = e) := HBE
     have HLN : Hid ((putT s y.x.e).l.length ≤ K + 1) := HLE
     obtain ⟨u, hu⟩ : ∃ u, u = putT s y.x.e := ⟨_, rfl⟩
     rw [← hu] at TWT HOK HSB HLN
     clear hu
     have HUS := Lib.hid (used_any TWT.out.sf)
     unfold vPost at HUS
     go_wp2_with fail
     with_reducible refine HUS.out.mono ?_
     rintro q z1 ⟨rfl, hb⟩
     have TWA := Lib.hid (TWT.out.below hb)
     clear hb HUS
     have k1 : ¬ (used u.l : Int) > b := by have := HOK.out.us; have := HSB.out.1; omega
     have k2 : ¬ (u.l.length : Int) > e := by have := HOK.out.le; have := HSB.out.2; omega
     have HCA := Lib.hid (collect_any TWA.out.sf (by have := HLN.out; omega))
     unfold Ep.allPost at HCA
     go_wp2_with fail
     with_reducible refine HCA.out.mono ?_
     rintro q z2 ⟨A5, c5, m5, rfl, hm5, hh5, hb⟩
     have TWB := Lib.hid (TWA.out.below hb)
     clear hb HCA
     have hm5l : m5.length = u.l.length := by rw [← hm5]; simp
     have HU5 := Lib.hid (Ec.used_any A5 c5 m5 z2 hh5.r (by have := HLN.out; omega))
     rw [hm5, hm5l] at HU5
     unfold vPost at HU5
     clear hm5 hh5
     go_wp2_with fail
     with_reducible refine HU5.out.mono ?_
     rintro q z3 ⟨rfl, hb⟩
     have TWC := Lib.hid (TWB.out.below hb)
     clear hb HU5 hm5l
     have HCD := Lib.hid (collect_any TWC.out.sf (by have := HLN.out; omega))
     unfold Ep.allPost at HCD
     have k3 : ((used u.l : Int) != (used u.l : Int)) = false := by simp
     have k4 : ((used u.l : Int) == (used u.l : Int)) = true := by simp
     go_wp2_with fail
     with_reducible refine HCD.out.mono ?_
     rintro q z4 ⟨A6, c6, m6, rfl, hm6, _, hb⟩
     have TWD := Lib.hid (TWC.out.below hb)
     clear hb HCD
     have hm6l : m6.length = u.l.length := by rw [← hm6]; simp
     clear hm6
     have HCE := Lib.hid (collect_any TWD.out.sf (by have := HLN.out; omega))
     unfold Ep.allPost at HCE
     have k5 : ((u.l.length : Int) == (m6.length : Int)) = true := by rw [hm6l]; simp
     have k6 : ((u.l.length : Int) != (m6.length : Int)) = false := by rw [hm6l]; simp
     clear hm6l
     go_wp2_with fail
     with_reducible refine HCE.out.mono ?_
     rintro q z5 ⟨A7, c7, m7, rfl, hm7, hh7, hb⟩
     have TWE := Lib.hid (TWD.out.below hb)
     have HM7 := Lib.hid hm7; have HH7 := Lib.hid hh7.r
     clear hb hm7 hh7 HCE
     have HCF := Lib.hid (collect_any TWE.out.sg (by have := HLN.out; omega))
     unfold Ep.allPost at HCF
     go_wp2_with fail
     with_reducible refine HCF.out.mono ?_
     rintro q z6 ⟨A8, c8, m8, rfl, hm8, hh8, hb⟩
     have TWF := Lib.hid (TWE.out.below hb)
     have HAL := Lib.hid (all_true rfl rfl (hm8.trans HM7.out.symm) (HH7.out.below hb (Nat.le_refl _)) hh8.r)
     unfold boolTo at HAL
     clear hb hm8 hh8 HCF
     go_wp2_with fail
     with_reducible refine HAL.out.mono ?_
     rintro q z7 ⟨rfl, hb⟩
     have TWG := Lib.hid (TWF.out.below hb)
     clear hb HAL
     go_wp2_with fail
     go_roundw
     case rel => exact ⟨K + 1, u, _, _, by omega, by go_num, TWG.out, HSB.out.1, HSB.out.2, HLN.out⟩
     case measure => simp [intOf]; omega
   by_cases hw2 : y.n = 2
   ·have hw := hw2
    have b0 : (y.n == 0) = false := by simpa using hw0
    have b2 : (y.n == 2) = true := by rw [hw]; decide
    have hk8 := HC2.out
    unfold actA at hk8
    obtain ⟨a0, a1, a2, a3, a4, a5, a6, a7⟩ := eight hk8
    have la := hk8.lt
    clear hk8
    have H1 := Lib.hid (Ep.use_any TW2.out.sf y.x.e.k HKS.out)
    unfold Ep.gotPost at H1
    go_wp2_with fail
    with_reducible refine H1.out.mono ?_
    rintro q w3 ⟨F1, P1, y1, rfl, _, _, _, ga⟩
    have GA := Lib.hid ga
    have HC3 := Lib.hid (HC2.out.only ga.o (fun hf => HFC.out _ hf rfl))
    have H2 := Lib.hid (Ep.use_any (TW2.out.sg1 ga.o) y.x.e.k HKS.out)
    unfold Ep.gotPost at H2
    clear ga H1
    clear a0 a1 a2 a3 a4 a5 a6 a7 la
    have hk8 := HC3.out
    unfold actA at hk8
    obtain ⟨a0, a1, a2, a3, a4, a5, a6, a7⟩ := eight hk8
    have la := hk8.lt
    clear hk8
    go_wp2_with fail
    with_reducible refine H2.out.mono ?_
    rintro q w4 ⟨G1, P2, y1, rfl, _, _, _, gb⟩
    obtain ⟨F9, G9, tw9⟩ := two TW2.out GA.out gb
    clear gb H2
    clear a0 a1 a2 a3 a4 a5 a6 a7 la
    have HBE : (useT s y.x.e.k).b = b ∧ (useT s y.x.e.k).e = e := ⟨((bs_s s y.x.e.k y.t).2.2.1).trans SB.out, ((bs_s s y.x.e.k y.t).2.2.2.1).trans SE.out⟩
    have HLE : (useT s y.x.e.k).l.length ≤ K + 1 := by have := actT_len 2 y.x.e y.t s; unfold actT at this; simp at this; have := HLL.out; omega
    have TWT := Lib.hid tw9
    have HOK := Lib.hid (St.ok TWT.out.sf)
    have HSB : Hid ((useT s y.x.e.k).b = b ∧ (useT s y.x.e.k).e = e) := HBE
    have HLN : Hid ((useT s y.x.e.k).l.length ≤ K + 1) := HLE
    obtain ⟨u, hu⟩ : ∃ u, u = useT s y.x.e.k := ⟨_, rfl⟩
    rw [← hu] at TWT HOK HSB HLN
    clear hu
    have HUS := Lib.hid (used_any TWT.out.sf)
    unfold vPost at HUS
    go_wp2_with fail
    with_reducible refine HUS.out.mono ?_
    rintro q z1 ⟨rfl, hb⟩
    have TWA := Lib.hid (TWT.out.below hb)
    clear hb HUS
    have k1 : ¬ (used u.l : Int) > b := by have := HOK.out.us; have := HSB.out.1; omega
    have k2 : ¬ (u.l.length : Int) > e := by have := HOK.out.le; have := HSB.out.2; omega
    have HCA := Lib.hid (collect_any TWA.out.sf (by have := HLN.out; omega))
    unfold Ep.allPost at HCA
    go_wp2_with fail
    with_reducible refine HCA.out.mono ?_
    rintro q z2 ⟨A5, c5, m5, rfl, hm5, hh5, hb⟩
    have TWB := Lib.hid (TWA.out.below hb)
    clear hb HCA
    have hm5l : m5.length = u.l.length := by rw [← hm5]; simp
    have HU5 := Lib.hid (Ec.used_any A5 c5 m5 z2 hh5.r (by have := HLN.out; omega))
    rw [hm5, hm5l] at HU5
    unfold vPost at HU5
    clear hm5 hh5
    go_wp2_with fail
    with_reducible refine HU5.out.mono ?_
    rintro q z3 ⟨rfl, hb⟩
    have TWC := Lib.hid (TWB.out.below hb)
    clear hb HU5 hm5l
    have HCD := Lib.hid (collect_any TWC.out.sf (by have := HLN.out; omega))
    unfold Ep.allPost at HCD
    have k3 : ((used u.l : Int) != (used u.l : Int)) = false := by simp
    have k4 : ((used u.l : Int) == (used u.l : Int)) = true := by simp
    go_wp2_with fail
    with_reducible refine HCD.out.mono ?_
    rintro q z4 ⟨A6, c6, m6, rfl, hm6, _, hb⟩
    have TWD := Lib.hid (TWC.out.below hb)
    clear hb HCD
    have hm6l : m6.length = u.l.length := by rw [← hm6]; simp
    clear hm6
    have HCE := Lib.hid (collect_any TWD.out.sf (by have := HLN.out; omega))
    unfold Ep.allPost at HCE
    have k5 : ((u.l.length : Int) == (m6.length : Int)) = true := by rw [hm6l]; simp
    have k6 : ((u.l.length : Int) != (m6.length : Int)) = false := by rw [hm6l]; simp
    clear hm6l
    go_wp2_with fail
    with_reducible refine HCE.out.mono ?_
    rintro q z5 ⟨A7, c7, m7, rfl, hm7, hh7, hb⟩
    have TWE := Lib.hid (TWD.out.below hb)
    have HM7 := Lib.hid hm7; have HH7 := Lib.hid hh7.r
    clear hb hm7 hh7 HCE
    have HCF := Lib.hid (collect_any TWE.out.sg (by have := HLN.out; omega))
    unfold Ep.allPost at HCF
    go_wp2_with fail
    with_reducible refine HCF.out.mono ?_
    rintro q z6 ⟨A8, c8, m8, rfl, hm8, hh8, hb⟩
    have TWF := Lib.hid (TWE.out.below hb)
    have HAL := Lib.hid (all_true rfl rfl (hm8.trans HM7.out.symm) (HH7.out.below hb (Nat.le_refl _)) hh8.r)
    unfold boolTo at HAL
    clear hb hm8 hh8 HCF
    go_wp2_with fail
    with_reducible refine HAL.out.mono ?_
    rintro q z7 ⟨rfl, hb⟩
    have TWG := Lib.hid (TWF.out.below hb)
    clear hb HAL
    go_wp2_with fail
    go_roundw
    case rel => exact ⟨K + 1, u, _, _, by omega, by go_num, TWG.out, HSB.out.1, HSB.out.2, HLN.out⟩
    case measure => simp [intOf]; omega
   by_cases hw3 : y.n = 3
   ·have hw := hw3
    have b0 : (y.n == 0) = false := by simpa using hw0
    have b2 : (y.n == 2) = false := by simpa using hw2
    have b3 : (y.n == 3) = true := by rw [hw]; decide
    have hk8 := HC2.out
    unfold actA at hk8
    obtain ⟨a0, a1, a2, a3, a4, a5, a6, a7⟩ := eight hk8
    have la := hk8.lt
    clear hk8
    have H1 := Lib.hid (Ep.tou_any TW2.out.sf y.x.e.k HKS.out y.t HYT.out)
    unfold Ep.touPost at H1
    go_wp2_with fail
    with_reducible refine H1.out.mono ?_
    rintro q w3 ⟨F1, rfl, ga⟩
    have GA := Lib.hid ga
    have HC3 := Lib.hid (HC2.out.only ga.o (fun hf => HFC.out _ hf rfl))
    have H2 := Lib.hid (Ep.tou_any (TW2.out.sg1 ga.o) y.x.e.k HKS.out y.t HYT.out)
    unfold Ep.touPost at H2
    clear ga H1
    clear a0 a1 a2 a3 a4 a5 a6 a7 la
    have hk8 := HC3.out
    unfold actA at hk8
    obtain ⟨a0, a1, a2, a3, a4, a5, a6, a7⟩ := eight hk8
    have la := hk8.lt
    clear hk8
    go_wp2_with fail
    with_reducible refine H2.out.mono ?_
    rintro q w4 ⟨G1, rfl, gb⟩
    obtain ⟨F9, G9, tw9⟩ := two TW2.out GA.out gb
    clear gb H2
    clear a0 a1 a2 a3 a4 a5 a6 a7 la
    have HBE : (touT s y.x.e.k y.t).b = b ∧ (touT s y.x.e.k y.t).e = e := ⟨((bs_s s y.x.e.k y.t).2.2.2.2.1).trans SB.out, ((bs_s s y.x.e.k y.t).2.2.2.2.2).trans SE.out⟩
    have HLE : (touT s y.x.e.k y.t).l.length ≤ K + 1 := by have := actT_len 3 y.x.e y.t s; unfold actT at this; simp at this; have := HLL.out; omega
    have TWT := Lib.hid tw9
    have HOK := Lib.hid (St.ok TWT.out.sf)
    have HSB : Hid ((touT s y.x.e.k y.t).b = b ∧ (touT s y.x.e.k y.t).e = e) := HBE
    have HLN : Hid ((touT s y.x.e.k y.t).l.length ≤ K + 1) := HLE
    obtain ⟨u, hu⟩ : ∃ u, u = touT s y.x.e.k y.t := ⟨_, rfl⟩
    rw [← hu] at TWT HOK HSB HLN
    clear hu
    have HUS := Lib.hid (used_any TWT.out.sf)
    unfold vPost at HUS
    go_wp2_with fail
    with_reducible refine HUS.out.mono ?_
    rintro q z1 ⟨rfl, hb⟩
    have TWA := Lib.hid (TWT.out.below hb)
    clear hb HUS
    have k1 : ¬ (used u.l : Int) > b := by have := HOK.out.us; have := HSB.out.1; omega
    have k2 : ¬ (u.l.length : Int) > e := by have := HOK.out.le; have := HSB.out.2; omega
    have HCA := Lib.hid (collect_any TWA.out.sf (by have := HLN.out; omega))
    unfold Ep.allPost at HCA
    go_wp2_with fail
    with_reducible refine HCA.out.mono ?_
    rintro q z2 ⟨A5, c5, m5, rfl, hm5, hh5, hb⟩
    have TWB := Lib.hid (TWA.out.below hb)
    clear hb HCA
    have hm5l : m5.length = u.l.length := by rw [← hm5]; simp
    have HU5 := Lib.hid (Ec.used_any A5 c5 m5 z2 hh5.r (by have := HLN.out; omega))
    rw [hm5, hm5l] at HU5
    unfold vPost at HU5
    clear hm5 hh5
    go_wp2_with fail
    with_reducible refine HU5.out.mono ?_
    rintro q z3 ⟨rfl, hb⟩
    have TWC := Lib.hid (TWB.out.below hb)
    clear hb HU5 hm5l
    have HCD := Lib.hid (collect_any TWC.out.sf (by have := HLN.out; omega))
    unfold Ep.allPost at HCD
    have k3 : ((used u.l : Int) != (used u.l : Int)) = false := by simp
    have k4 : ((used u.l : Int) == (used u.l : Int)) = true := by simp
    go_wp2_with fail
    with_reducible refine HCD.out.mono ?_
    rintro q z4 ⟨A6, c6, m6, rfl, hm6, _, hb⟩
    have TWD := Lib.hid (TWC.out.below hb)
    clear hb HCD
    have hm6l : m6.length = u.l.length := by rw [← hm6]; simp
    clear hm6
    have HCE := Lib.hid (collect_any TWD.out.sf (by have := HLN.out; omega))
    unfold Ep.allPost at HCE
    have k5 : ((u.l.length : Int) == (m6.length : Int)) = true := by rw [hm6l]; simp
    have k6 : ((u.l.length : Int) != (m6.length : Int)) = false := by rw [hm6l]; simp
    clear hm6l
    go_wp2_with fail
    with_reducible refine HCE.out.mono ?_
    rintro q z5 ⟨A7, c7, m7, rfl, hm7, hh7, hb⟩
    have TWE := Lib.hid (TWD.out.below hb)
    have HM7 := Lib.hid hm7; have HH7 := Lib.hid hh7.r
    clear hb hm7 hh7 HCE
    have HCF := Lib.hid (collect_any TWE.out.sg (by have := HLN.out; omega))
    unfold Ep.allPost at HCF
    go_wp2_with fail
    with_reducible refine HCF.out.mono ?_
    rintro q z6 ⟨A8, c8, m8, rfl, hm8, hh8, hb⟩
    have TWF := Lib.hid (TWE.out.below hb)
    have HAL := Lib.hid (all_true rfl rfl (hm8.trans HM7.out.symm) (HH7.out.below hb (Nat.le_refl _)) hh8.r)
    unfold boolTo at HAL
    clear hb hm8 hh8 HCF
    go_wp2_with fail
    with_reducible refine HAL.out.mono ?_
    rintro q z7 ⟨rfl, hb⟩
    have TWG := Lib.hid (TWF.out.below hb)
    clear hb HAL
    go_wp2_with fail
    go_roundw
    case rel => exact ⟨K + 1, u, _, _, by omega, by go_num, TWG.out, HSB.out.1, HSB.out.2, HLN.out⟩
    case measure => simp [intOf]; omega
   by_cases hw4 : y.n = 4
   ·have hw := hw4
    have b0 : (y.n == 0) = false := by simpa using hw0
    have b2 : (y.n == 2) = false := by simpa using hw2
    have b3 : (y.n == 3) = false := by simpa using hw3
    have b4 : (y.n == 4) = true := by rw [hw]; decide
    have hk8 := HC2.out
    unfold actA at hk8
    obtain ⟨a0, a1, a2, a3, a4, a5, a6, a7⟩ := eight hk8
    have la := hk8.lt
    clear hk8
    have H1 := Lib.hid (Ep.rem_any TW2.out.sf y.x.e.k HKS.out)
    unfold Ep.gotPost at H1
    go_wp2_with fail
    with_reducible refine H1.out.mono ?_
    rintro q w3 ⟨F1, P1, y1, rfl, _, _, _, ga⟩
    have GA := Lib.hid ga
    have HC3 := Lib.hid (HC2.out.only ga.o (fun hf => HFC.out _ hf rfl))
    have H2 := Lib.hid (Ep.rem_any (TW2.out.sg1 ga.o) y.x.e.k HKS.out)
    unfold Ep.gotPost at H2
    clear ga H1
    clear a0 a1 a2 a3 a4 a5 a6 a7 la
    have hk8 := HC3.out
    unfold actA at hk8
    obtain ⟨a0, a1, a2, a3, a4, a5, a6, a7⟩ := eight hk8
    have la := hk8.lt
    clear hk8
    go_wp2_with fail
    with_reducible refine H2.out.mono ?_
    rintro q w4 ⟨G1, P2, y1, rfl, _, _, _, gb⟩
    obtain ⟨F9, G9, tw9⟩ := two TW2.out GA.out gb
    clear gb H2
    clear a0 a1 a2 a3 a4 a5 a6 a7 la
    have HBE : (remT s y.x.e.k).b = b ∧ (remT s y.x.e.k).e = e := ⟨((bs_s s y.x.e.k y.t).1).trans SB.out, ((bs_s s y.x.e.k y.t).2.1).trans SE.out⟩
    have HLE : (remT s y.x.e.k).l.length ≤ K + 1 := by have := actT_len 4 y.x.e y.t s; unfold actT at this; simp at this; have := HLL.out; omega
    have TWT := Lib.hid tw9
    have HOK := Lib.hid (St.ok TWT.out.sf)
    have HSB : Hid ((remT s y.x.e.k).b = b ∧ (remT s y.x.e.k).e = e) := HBE
    have HLN : Hid ((remT s y.x.e.k).l.length ≤ K + 1) := HLE
    obtain ⟨u, hu⟩ : ∃ u, u = remT s y.x.e.k := ⟨_, rfl⟩
    rw [← hu] at TWT HOK HSB HLN
    clear hu
    have HUS := Lib.hid (used_any TWT.out.sf)
    unfold vPost at HUS
    go_wp2_with fail
    with_reducible refine HUS.out.mono ?_
    rintro q z1 ⟨rfl, hb⟩
    have TWA := Lib.hid (TWT.out.below hb)
    clear hb HUS
    have k1 : ¬ (used u.l : Int) > b := by have := HOK.out.us; have := HSB.out.1; omega
    have k2 : ¬ (u.l.length : Int) > e := by have := HOK.out.le; have := HSB.out.2; omega
    have HCA := Lib.hid (collect_any TWA.out.sf (by have := HLN.out; omega))
    unfold Ep.allPost at HCA
    go_wp2_with fail
    with_reducible refine HCA.out.mono ?_
    rintro q z2 ⟨A5, c5, m5, rfl, hm5, hh5, hb⟩
    have TWB := Lib.hid (TWA.out.below hb)
    clear hb HCA
    have hm5l : m5.length = u.l.length := by rw [← hm5]; simp
    have HU5 := Lib.hid (Ec.used_any A5 c5 m5 z2 hh5.r (by have := HLN.out; omega))
    rw [hm5, hm5l] at HU5
    unfold vPost at HU5
    clear hm5 hh5
    go_wp2_with fail
    with_reducible refine HU5.out.mono ?_
    rintro q z3 ⟨rfl, hb⟩
    have TWC := Lib.hid (TWB.out.below hb)
    clear hb HU5 hm5l
    have HCD := Lib.hid (collect_any TWC.out.sf (by have := HLN.out; omega))
    unfold Ep.allPost at HCD
    have k3 : ((used u.l : Int) != (used u.l : Int)) = false := by simp
    have k4 : ((used u.l : Int) == (used u.l : Int)) = true := by simp
    go_wp2_with fail
    with_reducible refine HCD.out.mono ?_
    rintro q z4 ⟨A6, c6, m6, rfl, hm6, _, hb⟩
    have TWD := Lib.hid (TWC.out.below hb)
    clear hb HCD
    have hm6l : m6.length = u.l.length := by rw [← hm6]; simp
    clear hm6
    have HCE := Lib.hid (collect_any TWD.out.sf (by have := HLN.out; omega))
    unfold Ep.allPost at HCE
    have k5 : ((u.l.length : Int) == (m6.length : Int)) = true := by rw [hm6l]; simp
    have k6 : ((u.l.length : Int) != (m6.length : Int)) = false := by rw [hm6l]; simp
    clear hm6l
    go_wp2_with fail
    with_reducible refine HCE.out.mono ?_
    rintro q z5 ⟨A7, c7, m7, rfl, hm7, hh7, hb⟩
    have TWE := Lib.hid (TWD.out.below hb)
    have HM7 := Lib.hid hm7; have HH7 := Lib.hid hh7.r
    clear hb hm7 hh7 HCE
    have HCF := Lib.hid (collect_any TWE.out.sg (by have := HLN.out; omega))
    unfold Ep.allPost at HCF
    go_wp2_with fail
    with_reducible refine HCF.out.mono ?_
    rintro q z6 ⟨A8, c8, m8, rfl, hm8, hh8, hb⟩
    have TWF := Lib.hid (TWE.out.below hb)
    have HAL := Lib.hid (all_true rfl rfl (hm8.trans HM7.out.symm) (HH7.out.below hb (Nat.le_refl _)) hh8.r)
    unfold boolTo at HAL
    clear hb hm8 hh8 HCF
    go_wp2_with fail
    with_reducible refine HAL.out.mono ?_
    rintro q z7 ⟨rfl, hb⟩
    have TWG := Lib.hid (TWF.out.below hb)
    clear hb HAL
    go_wp2_with fail
    go_roundw
    case rel => exact ⟨K + 1, u, _, _, by omega, by go_num, TWG.out, HSB.out.1, HSB.out.2, HLN.out⟩
    case measure => simp [intOf]; omega
   by_cases hw5 : y.n = 5
   ·have hw := hw5
    have b0 : (y.n == 0) = false := by simpa using hw0
    have b2 : (y.n == 2) = false := by simpa using hw2
    have b3 : (y.n == 3) = false := by simpa using hw3
    have b4 : (y.n == 4) = false := by simpa using hw4
    have b5 : (y.n == 5) = true := by rw [hw]; decide
    have hk8 := HC2.out
    unfold actA at hk8
    obtain ⟨a0, a1, a2, a3, a4, a5, a6, a7⟩ := eight hk8
    have la := hk8.lt
    clear hk8
    go_upto_region 30 with fail
    obtain ⟨v5, hv5⟩ : ∃ v5, v5 = w2.drew := ⟨_, rfl⟩
    have B5 : Below w2.heap.size w2 v5 := by rw [hv5]; exact (Below.refl _ _).drew
    have TW5 := Lib.hid (TW2.out.below B5)
    have D5 : Only (fun j => F j ∨ G j) w2 v5 := Only.of_below B5 (Nat.le_refl _) _
    have KC : ∀ v, Only (fun j => F j ∨ G j) w2 v → v.cell? ⟨C, 7, none⟩ = some (.int .u64 y.t) := fun v hv => by
     have := (HC2.out.only hv (fun hj => by rcases hj with hj | hj; exact HFC.out _ hj rfl; exact HGC.out _ hj rfl)).cell 7
     exact this
    have lw : C < w2.heap.size := HCW
    have HX1 := Lib.hid (Ep.exp_any TW5.out.sf y.t HYT.out)
    unfold Ep.expPost at HX1
    have HB5 := Lib.hid B5
    clear B5
    clear a0 a1 a2 a3 a4 a5 a6 a7 la
    refine wp_region_noPanic ?_
    refine wp_region_held_drew (S := fun v => Only (fun j => F j ∨ G j) w2 v) (by kernel_rfl) (by rw [← hv5]; exact D5) (fun hHeld => ?_)
    rw [← hv5] at hHeld ⊢
    clear hv5
    refine Rg.th 0 (some 155) (v := ?_) rfl (by kernel_rfl) (fun _ _ _ h => h) (by rfl) (by assumption) ?_ ?_
    rotate_left
    ·intro w hSw; go_simp; first | done | with_reducible rfl
    try simp only [Ap.sc]
    refine Rg.th 1 (some 156) (v := ?_) rfl (by kernel_rfl) (fun _ _ _ h => h) (by rfl) (by assumption) ?_ ?_
    rotate_left
    ·intro w hSw; go_simp; first | done | with_reducible rfl
    try simp only [Ap.sc]
    refine Rg.th 2 (some 157) (v := ?_) rfl (by kernel_rfl) (fun _ _ _ h => h) (by rfl) (by assumption) ?_ ?_
    rotate_left
    ·intro w hSw; go_simp; first | done | with_reducible rfl
    try simp only [Ap.sc]
    refine Rg.th 4 (some 159) (v := ?_) rfl (by kernel_rfl) (fun _ _ _ h => h) (by rfl) (by assumption) ?_ ?_
    rotate_left
    ·intro w hSw; go_simp; first | done | with_reducible rfl
    try simp only [Ap.sc]
    refine Rg.th 5 (some 160) (v := ?_) rfl (by kernel_rfl) (fun _ _ _ h => h) (by rfl) (by assumption) ?_ ?_
    rotate_left
    ·intro w hSw; go_simp; first | done | with_reducible rfl
    try simp only [Ap.sc]
    refine Rg.th 6 (some 161) (v := ?_) rfl (by kernel_rfl) (fun _ _ _ h => h) (by rfl) (by assumption) ?_ ?_
    rotate_left
    ·intro w hSw; go_simp; first | done | with_reducible rfl
    try simp only [Ap.sc]
    refine wpAnyH_ready (rs := [3]) (by kernel_rfl) (by simp) ?_
    refine AllReadyH.cons (o := ⟨some 158, _, _, _, _, _⟩) rfl (fun K hK => ?_) AllReadyH.nil
    go_simp
    with_reducible refine HX1.out.mono ?_
    rintro d u3 ⟨F1, P1, A3, c3, l3, rfl, hl3, hh3, ga⟩
    have GA := Lib.hid ga; have HL3 := Lib.hid hl3; have HH3 := Lib.hid hh3.r
    have hc3l := Rs.le hh3.r.r
    have hc3m := Rs.max hh3.r.r
    unfold maxLen at hc3m
    have K3 : Only (fun j => F j ∨ G j) w2 u3 := D5.trans (ga.o.mono (fun j _ h => Or.inl (Or.inl h)))
    have HX2 := Lib.hid (Ep.exp_any (TW5.out.sg1 ga.o) y.t HYT.out)
    unfold Ep.expPost at HX2
    clear ga hl3 hh3 HX1
    go_simp
    refine hK.out _ _ (K3) (fun hHeld => ?_)
    clear hK K
    try simp only [Ap.sc]
    refine wpAnyH_ready (rs := [7]) (by kernel_rfl) (by simp) ?_
    refine AllReadyH.cons (o := ⟨some 162, _, _, _, _, _⟩) rfl (fun K hK => ?_) AllReadyH.nil
    go_simp
    with_reducible refine HX2.out.mono ?_
    rintro d u7 ⟨G1, P2, A4, c4, l4, rfl, hl4, hh4, gb⟩
    have K7 : Only (fun j => F j ∨ G j) w2 u7 := K3.trans (gb.o.mono (fun j _ h => Or.inl (Or.inr h)))
    have hc4l := Rs.le hh4.r.r
    have hc4m := Rs.max hh4.r.r
    unfold maxLen at hc4m
    obtain ⟨F9, G9, tw9⟩ := two TW5.out GA.out gb
    have T9 := Lib.hid tw9
    have HX3 := Lib.hid (all_true rfl rfl (hl4.trans HL3.out.symm) (two_l TW5.out GA.out gb.o HH3.out) hh4.r)
    unfold boolTo at HX3
    clear gb hl4 hh4 tw9 HX2
    go_simp
    refine hK.out _ _ (K7) (fun hHeld => ?_)
    clear hK K
    try simp only [Ap.sc]
    refine wpAnyH_ready (rs := [8]) (by kernel_rfl) (by simp) ?_
    refine AllReadyH.cons (o := ⟨some 163, _, _, _, _, _⟩) rfl (fun K hK => ?_) AllReadyH.nil
    go_simp
    with_reducible refine HX3.out.mono ?_
    rintro d u8 ⟨rfl, hb⟩
    have T8 := Lib.hid (T9.out.below hb)
    have K8 : Only (fun j => F j ∨ G j) w2 u8 := K7.trans (Only.of_below hb (Nat.le_refl _) _)
    clear hb HX3
    go_simp
    refine hK.out _ _ (K8) (fun hHeld => ?_)
    clear hK K
    try simp only [Ap.sc]
    refine Rg.th 9 (some 164) (v := ?_) rfl (by kernel_rfl) (fun _ _ _ h => h) (by rfl) (by assumption) ?_ ?_
    rotate_left
    ·intro w hSw; go_simp; first | done | with_reducible rfl
    try simp only [Ap.sc]
    refine wpAnyH_done (by kernel_rfl) ?_ _
    refine NoPanic.normal ?_
    clear KC hHeld
    have HBE : (expT s y.t).b = b ∧ (expT s y.t).e = e := ⟨SB.out, SE.out⟩
    have HLE : (expT s y.t).l.length ≤ K + 1 := by have := actT_len 5 y.x.e y.t s; unfold actT at this; simp at this; have := HLL.out; omega
    have TWT := Lib.hid T8.out
    have HOK := Lib.hid (St.ok TWT.out.sf)
    have HSB : Hid ((expT s y.t).b = b ∧ (expT s y.t).e = e) := HBE
    have HLN : Hid ((expT s y.t).l.length ≤ K + 1) := HLE
    obtain ⟨u, hu⟩ : ∃ u, u = expT s y.t := ⟨_, rfl⟩
    rw [← hu] at TWT HOK HSB HLN
    clear hu
    have HUS := Lib.hid (used_any TWT.out.sf)
    unfold vPost at HUS
    go_wp2_with fail
    with_reducible refine HUS.out.mono ?_
    rintro q z1 ⟨rfl, hb⟩
    have TWA := Lib.hid (TWT.out.below hb)
    clear hb HUS
    have k1 : ¬ (used u.l : Int) > b := by have := HOK.out.us; have := HSB.out.1; omega
    have k2 : ¬ (u.l.length : Int) > e := by have := HOK.out.le; have := HSB.out.2; omega
    have HCA := Lib.hid (collect_any TWA.out.sf (by have := HLN.out; omega))
    unfold Ep.allPost at HCA
    go_wp2_with fail
    with_reducible refine HCA.out.mono ?_
    rintro q z2 ⟨A5, c5, m5, rfl, hm5, hh5, hb⟩
    have TWB := Lib.hid (TWA.out.below hb)
    clear hb HCA
    have hm5l : m5.length = u.l.length := by rw [← hm5]; simp
    have HU5 := Lib.hid (Ec.used_any A5 c5 m5 z2 hh5.r (by have := HLN.out; omega))
    rw [hm5, hm5l] at HU5
    unfold vPost at HU5
    clear hm5 hh5
    go_wp2_with fail
    with_reducible refine HU5.out.mono ?_
    rintro q z3 ⟨rfl, hb⟩
    have TWC := Lib.hid (TWB.out.below hb)
    clear hb HU5 hm5l
    have HCD := Lib.hid (collect_any TWC.out.sf (by have := HLN.out; omega))
    unfold Ep.allPost at HCD
    have k3 : ((used u.l : Int) != (used u.l : Int)) = false := by simp
    have k4 : ((used u.l : Int) == (used u.l : Int)) = true := by simp
    go_wp2_with fail
    with_reducible refine HCD.out.mono ?_
    rintro q z4 ⟨A6, c6, m6, rfl, hm6, _, hb⟩
    have TWD := Lib.hid (TWC.out.below hb)
    clear hb HCD
    have hm6l : m6.length = u.l.length := by rw [← hm6]; simp
    clear hm6
    have HCE := Lib.hid (collect_any TWD.out.sf (by have := HLN.out; omega))
    unfold Ep.allPost at HCE
    have k5 : ((u.l.length : Int) == (m6.length : Int)) = true := by rw [hm6l]; simp
    have k6 : ((u.l.length : Int) != (m6.length : Int)) = false := by rw [hm6l]; simp
    clear hm6l
    go_wp2_with fail
    with_reducible refine HCE.out.mono ?_
    rintro q z5 ⟨A7, c7, m7, rfl, hm7, hh7, hb⟩
    have TWE := Lib.hid (TWD.out.below hb)
    have HM7 := Lib.hid hm7; have HH7 := Lib.hid hh7.r
    clear hb hm7 hh7 HCE
    have HCF := Lib.hid (collect_any TWE.out.sg (by have := HLN.out; omega))
    unfold Ep.allPost at HCF
    go_wp2_with fail
    with_reducible refine HCF.out.mono ?_
    rintro q z6 ⟨A8, c8, m8, rfl, hm8, hh8, hb⟩
    have TWF := Lib.hid (TWE.out.below hb)
    have HAL := Lib.hid (all_true rfl rfl (hm8.trans HM7.out.symm) (HH7.out.below hb (Nat.le_refl _)) hh8.r)
    unfold boolTo at HAL
    clear hb hm8 hh8 HCF
    go_wp2_with fail
    with_reducible refine HAL.out.mono ?_
    rintro q z7 ⟨rfl, hb⟩
    have TWG := Lib.hid (TWF.out.below hb)
    clear hb HAL
    go_wp2_with fail
    go_roundw
    case rel => exact ⟨K + 1, u, _, _, by omega, by go_num, TWG.out, HSB.out.1, HSB.out.2, HLN.out⟩
    case measure => simp [intOf]; omega
   have b0 : (y.n == 0) = false := by simpa using hw0
   have b2 : (y.n == 2) = false := by simpa using hw2
   have b3 : (y.n == 3) = false := by simpa using hw3
   have b4 : (y.n == 4) = false := by simpa using hw4
   have b5 : (y.n == 5) = false := by simpa using hw5
   have hk8 := HC2.out
   unfold actA at hk8
   obtain ⟨a0, a1, a2, a3, a4, a5, a6, a7⟩ := eight hk8
   have la := hk8.lt
   clear hk8
   have HBE : s.b = b ∧ s.e = e := ⟨SB.out, SE.out⟩
   have HLE : s.l.length ≤ K + 1 := by have := HLL.out; omega
   have TWT := Lib.hid TW2.out
   have HOK := Lib.hid (St.ok TWT.out.sf)
   have HSB : Hid ((s).b = b ∧ (s).e = e) := HBE
   have HLN : Hid ((s).l.length ≤ K + 1) := HLE
   obtain ⟨u, hu⟩ : ∃ u, u = s := ⟨_, rfl⟩
   rw [← hu] at TWT HOK HSB HLN
   clear hu
   have HUS := Lib.hid (used_any TWT.out.sf)
   unfold vPost at HUS
   go_wp2_with fail
   with_reducible refine HUS.out.mono ?_
   rintro q z1 ⟨rfl, hb⟩
   have TWA := Lib.hid (TWT.out.below hb)
   clear hb HUS
   have k1 : ¬ (used u.l : Int) > b := by have := HOK.out.us; have := HSB.out.1; omega
   have k2 : ¬ (u.l.length : Int) > e := by have := HOK.out.le; have := HSB.out.2; omega
   have HCA := Lib.hid (collect_any TWA.out.sf (by have := HLN.out; omega))
   unfold Ep.allPost at HCA
   go_wp2_with fail
   with_reducible refine HCA.out.mono ?_
   rintro q z2 ⟨A5, c5, m5, rfl, hm5, hh5, hb⟩
   have TWB := Lib.hid (TWA.out.below hb)
   clear hb HCA
   have hm5l : m5.length = u.l.length := by rw [← hm5]; simp
   have HU5 := Lib.hid (Ec.used_any A5 c5 m5 z2 hh5.r (by have := HLN.out; omega))
   rw [hm5, hm5l] at HU5
   unfold vPost at HU5
   clear hm5 hh5
   go_wp2_with fail
   with_reducible refine HU5.out.mono ?_
   rintro q z3 ⟨rfl, hb⟩
   have TWC := Lib.hid (TWB.out.below hb)
   clear hb HU5 hm5l
   have HCD := Lib.hid (collect_any TWC.out.sf (by have := HLN.out; omega))
   unfold Ep.allPost at HCD
   have k3 : ((used u.l : Int) != (used u.l : Int)) = false := by simp
   have k4 : ((used u.l : Int) == (used u.l : Int)) = true := by simp
   go_wp2_with fail
   with_reducible refine HCD.out.mono ?_
   rintro q z4 ⟨A6, c6, m6, rfl, hm6, _, hb⟩
   have TWD := Lib.hid (TWC.out.below hb)
   clear hb HCD
   have hm6l : m6.length = u.l.length := by rw [← hm6]; simp
   clear hm6
   have HCE := Lib.hid (collect_any TWD.out.sf (by have := HLN.out; omega))
   unfold Ep.allPost at HCE
   have k5 : ((u.l.length : Int) == (m6.length : Int)) = true := by rw [hm6l]; simp
   have k6 : ((u.l.length : Int) != (m6.length : Int)) = false := by rw [hm6l]; simp
   clear hm6l
   go_wp2_with fail
   with_reducible refine HCE.out.mono ?_
   rintro q z5 ⟨A7, c7, m7, rfl, hm7, hh7, hb⟩
   have TWE := Lib.hid (TWD.out.below hb)
   have HM7 := Lib.hid hm7; have HH7 := Lib.hid hh7.r
   clear hb hm7 hh7 HCE
   have HCF := Lib.hid (collect_any TWE.out.sg (by have := HLN.out; omega))
   unfold Ep.allPost at HCF
   go_wp2_with fail
   with_reducible refine HCF.out.mono ?_
   rintro q z6 ⟨A8, c8, m8, rfl, hm8, hh8, hb⟩
   have TWF := Lib.hid (TWE.out.below hb)
   have HAL := Lib.hid (all_true rfl rfl (hm8.trans HM7.out.symm) (HH7.out.below hb (Nat.le_refl _)) hh8.r)
   unfold boolTo at HAL
   clear hb hm8 hh8 HCF
   go_wp2_with fail
   with_reducible refine HAL.out.mono ?_
   rintro q z7 ⟨rfl, hb⟩
   have TWG := Lib.hid (TWF.out.below hb)
   clear hb HAL
   go_wp2_with fail
   go_roundw
   case rel => exact ⟨K + 1, u, _, _, by omega, by go_num, TWG.out, HSB.out.1, HSB.out.2, HLN.out⟩
   case measure => simp [intOf]; omega
  ·obtain rfl : K = L.length := by omega
   have hnn : ¬ (L.length : Int) < L.length := by omega
   clear hlt
   go_wp2_with fail
   refine (HKN.out _).mono ?_
   rintro q w9 ⟨rfl, hb⟩
   have HB9 := Lib.hid (TW.out.bl.trans (hb.mono TW.out.n))
   clear hb
   go_wp2_with fail
   go_ret
   exact ⟨rfl, HB9.out⟩
end
end Go.Proofs.YtlmljhnogmfcfaaGreat.Eza
