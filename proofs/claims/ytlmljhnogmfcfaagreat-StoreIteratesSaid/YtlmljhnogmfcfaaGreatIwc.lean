/- Proves that StoreIterates returns true at every argument. Conditions: as the row gives them. -/
import Derived.Test.YtlmljhnogmfcfaaGreatRg
import Derived.Test.YtlmljhnogmfcfaaGreatIwb
namespace Go.Proofs.YtlmljhnogmfcfaaGreat.Iwc
open Go.RowKit Go.Shelf Ap Mi Nw Rg Ea Eb Ec Ed Ee Ep Er Es Iwa Iwb
open Ef (mV mA)
attribute [local go_sem] Oper.semAt_some Lib.bytesWorld_old

theorem res4 {tmps : Array Value} {b4 : Nat} {w : World} {v : Value} (h : tmps.getD 4 undef = .pointer (some ⟨b4, 0, none⟩)) (hc : w.cell? ⟨b4, 0, none⟩ = some v) :
  (results Tryz.f5 tmps).run Tryz.prog w = .ok v w := by
 rw [Array.getD_eq_getD_getElem?] at h
 simp [results, Tryz.results5, go_sem, h, hc]
set_option maxRecDepth 100000 in
set_option maxHeartbeats 4000000 in
theorem iterates_walk (D : Option Addr) (q0 : Nat) (l : List ByteArray) (many : Int) (W : World) (ha : Rs W 1 D l.length q0 (strs l)) (hm0 : 0 ≤ many) (hm1 : many ≤ 255) (hks : ∀ k ∈ l, k.size ≤ 9223372036854775807) :
  Calls Tryz.prog 5 #[.slice D l.length q0, .int .u8 many] W (boolTo true W) := by
 have HD := Lib.hid ha
 have hdl := ha.le
 have hdm := ha.max
 unfold maxLen at hdm
 have HKS := Lib.hid hks
 clear ha hks
 unfold boolTo
 obtain ⟨W2, hW2⟩ : ∃ W2, W2 = (W.alloc (.cells #[.int .u8 many] 5)).alloc (.cells #[.bool false] 4) := ⟨_, rfl⟩
 have P3 : Hid (Blk W2 W.heap.size #[.int .u8 many] 5) := by
  show Blk _ _ _ _
  rw [hW2]; exact (Blk.new W _ _).below (bnew _ _) (by simp)
 have P4 : Hid (Blk W2 (W.heap.size + 1) #[.bool false] 4) := by
  show Blk _ _ _ _
  have := Blk.new (W.alloc (.cells #[.int .u8 many] 5)) #[.bool false] 4
  rw [hW2]; simpa using this
 have BW : Hid (Below W.heap.size W W2) := by show Below _ _ _; rw [hW2]; exact (bnew W _).alloc (by simp) _
 have hzl : W2.heap.size = W.heap.size + 2 := by rw [hW2]; simp
 refine (callsIn_wide (n := 30)).1 ?_
 have hro : Fence.wide.round = none := rfl
 have h30 : 1 ≤ 30 := by omega
 refine callsIn_of_wp_marks Tryz.func5 rfl trivial ?_ rfl
 simp only [Tryz.ntmps5, List.size_toArray, List.length_cons, List.length_nil, Nat.reduceAdd, Nat.reduceSub, Array.replicate_succ, Array.replicate_zero, List.push_toArray, List.append_toArray, List.nil_append, List.cons_append]
 by_cases h60 : 20 < l.length
 ·have i1 : (20 : Int) < (l.length : Int) := by omega
  have HZL := Lib.hid hzl
  clear hzl
  gi_wp2_with fail
  refine ⟨trivial, ?_⟩
  rw [← hW2]
  refine (callsIn_wide.2 (Ew.known_any _)).mono ?_
  rintro e w1 ⟨rfl, hb⟩
  have HB := Lib.hid hb
  have P41 := Lib.hid (P4.out.below hb P4.out.lt)
  have hz3 := hb.size
  clear hb
  obtain ⟨x0, x1⟩ := P41.out.one
  gi_wp2_with fail
  have B4 := Lib.hid ((BW.out.trans (HB.out.mono BW.out.size)).trans (((Only.refl (fun j => W.heap.size ≤ j) w1).put (ad := ⟨W.heap.size + 1, 0, none⟩) (by show W.heap.size ≤ W.heap.size + 1; omega) (.bool true)).below (fun _ h => h) (by have := HZL.out; omega)))
  have R4 := Lib.hid ((P41.out.set 0 (.bool true)).cell 0)
  exact ⟨_, res4 rfl R4.out, rfl, B4.out⟩
 have i1 : ¬ (20 : Int) < (l.length : Int) := by omega
 have NW := Lib.hid (callsIn_wide (n := 29) |>.2 (Ep.new_yes (b := 1048576) (e := 100) ⟨by decide, by decide, by decide, by decide⟩ 3 (by omega) W2))
 unfold newPost at NW
 have HZL := Lib.hid hzl
 have HI1 := Lib.hid h60
 clear hzl h60
 gi_wp2_with fail
 refine ⟨trivial, ?_⟩
 rw [← hW2]
 refine NW.out.mono ?_
 rintro e w1 ⟨g, F0, rfl, hst, hf0, hb1⟩
 have HST := Lib.hid hst.tight; have HF0 := Lib.hid hf0; have HB1 := Lib.hid hb1
 have hz1 := hb1.size
 clear hst hf0 hb1
 obtain ⟨w2, hw2⟩ : ∃ w2, w2 = (w1.alloc (.cells #[.pointer (some ⟨g, 0, none⟩)] 23)).alloc (.cells #[.int .i64 1048576, .int .i64 100, .slice none 0 0] 32) := ⟨_, rfl⟩
 have BX0 : Hid (Bx W2.heap.size W.heap.size (W.heap.size + 1) w1.heap.size (w1.heap.size + 1) many (fun j => F0 j ∧ j < w1.heap.size) (fun _ => False) g none 0 [] w2) := by
  have b12 : Below w1.heap.size w1 w2 := by rw [hw2]; exact (bnew w1 _).alloc (by simp) _
  have hz := HZL.out
  refine ⟨⟨HST.out.below b12, RL.nil, rfl, (fun _ _ h => h), fun j hj => Nat.lt_of_lt_of_le hj.2 b12.size, (fun _ h => h.elim), Nat.zero_le _⟩, (P3.out.below HB1.out P3.out.lt).below b12 (by have := P3.out.lt; omega), (P4.out.below HB1.out P4.out.lt).below b12 (by have := P4.out.lt; omega), ?_, ?_, fun j hj => ⟨HF0.out j hj.1, ?_, ?_, ?_, ?_⟩, (fun _ h => h.elim), Nat.zero_le _, (fun _ h => by cases h)⟩
  ·rw [hw2]; exact (Blk.new w1 _ _).below (bnew _ _) (by simp)
  ·have := Blk.new (w1.alloc (.cells #[.pointer (some ⟨g, 0, none⟩)] 23)) #[.int .i64 1048576, .int .i64 100, .slice none 0 0] 32
   rw [hw2]; simpa using this
  ·have := HF0.out j hj.1; omega
  ·have := HF0.out j hj.1; omega
  ·have := hj.2; omega
  ·have := hj.2; omega
 have BL0 : Hid (Below W.heap.size W w2) := by
  have b12 : Below w1.heap.size w1 w2 := by rw [hw2]; exact (bnew w1 _).alloc (by simp) _
  exact (BW.out.trans (HB1.out.mono BW.out.size)).trans (b12.mono (Nat.le_trans BW.out.size hz1))
 obtain ⟨b5, hb5⟩ : ∃ b5, b5 = w1.heap.size := ⟨_, rfl⟩
 rw [← hb5] at BX0
 have HB5 : Hid (W2.heap.size ≤ b5) := by show _ ≤ _; omega
 gi_upto_region 5 with fail
 rw [← hw2, ← hb5]
 clear hw2 hb5 HST HF0 HB1 NW hz1 P3 P4
 obtain ⟨y5, _⟩ := BX0.out.p5.one
 gi_wp2_with fail
 clear y5
 gi_loopw [8] (fun i wr => ∃ (k : Nat) (F G : Nat → Prop) (A : Option Addr) (c : Nat) (lm : List Em), k ≤ l.length ∧ i = .int .i64 (k : Int) ∧ lm.length ≤ k ∧ Bx W2.heap.size W.heap.size (W.heap.size + 1) b5 (b5 + 1) many F G g A c lm wr ∧ Below W.heap.size W wr) (fun i _ => l.length - (intOf i).toNat)
 case atStart => exact ⟨0, _, _, none, 0, [], Nat.zero_le _, rfl, Nat.le_refl _, BX0.out, BL0.out⟩
 case round =>
  obtain ⟨k, F, G, A, c, lm, hk, rfl, hlk, hbx, hbl⟩ := hrel
  have BX := Lib.hid hbx; have BL := Lib.hid hbl; have HLK := Lib.hid hlk
  have hzr := hbl.size
  clear hbx hbl BX0 BL0 hlk
  by_cases hlt : k < l.length
  ·have j1 : (k : Int) < (l.length : Int) := by omega
   obtain ⟨x, hx⟩ : ∃ x, x = l[k] := ⟨_, rfl⟩
   have hat := HD.out.below BL.out (Nat.le_refl _)
   obtain ⟨tb, to_, rfl, ltb, a0⟩ := hat.rd.at_ (k := k) (v := .string x) (by rw [hx]; unfold strs; rw [List.getElem?_map, List.getElem?_eq_getElem hlt]; rfl)
   have HTB : Hid (tb < wr.heap.size) := ltb
   have hxs : x.size ≤ 9223372036854775807 := by rw [hx]; exact HKS.out _ (List.getElem_mem hlt)
   have HX := Lib.hid hx
   have HKY := Lib.hid (callsIn_wide (n := 29) |>.2 (key_any x wr))
   clear hat hx
   by_cases hok : keyOk x
   case neg =>
    rw [decide_eq_false hok] at HKY
    clear hok
    gi_wp2_with fail
    refine ⟨trivial, HKY.out.mono ?_⟩
    rintro q w3 ⟨rfl, rfl⟩
    gi_wp2_with fail
    refine ⟨trivial, (callsIn_wide.2 (Ew.known_any _)).mono ?_⟩
    rintro q v2 ⟨rfl, hb⟩
    have HB := Lib.hid hb
    have P41 := Lib.hid (BX.out.p4.below hb BX.out.p4.lt)
    have hz3 := hb.size
    clear hb
    obtain ⟨x0, x1⟩ := P41.out.one
    gi_wp2_with fail
    have B4 := Lib.hid ((BL.out.trans (HB.out.mono BL.out.size)).trans (((Only.refl (fun j => W.heap.size ≤ j) v2).put (ad := ⟨W.heap.size + 1, 0, none⟩) (by show W.heap.size ≤ W.heap.size + 1; omega) (.bool true)).below (fun _ h => h) (Nat.le_trans BL.out.size hz3)))
    have R4 := Lib.hid ((P41.out.set 0 (.bool true)).cell 0)
    exact ⟨_, res4 rfl R4.out, rfl, B4.out⟩
   rw [decide_eq_true hok] at HKY
   have HOK := Lib.hid hok
   clear hok
   by_cases h10 : 10 < x.size
   case pos =>
    have i10 : (10 : Int) < (x.size : Int) := by omega
    clear h10
    gi_wp2_with fail
    refine ⟨trivial, HKY.out.mono ?_⟩
    rintro q w3 ⟨rfl, rfl⟩
    gi_wp2_with fail
    refine ⟨trivial, (callsIn_wide.2 (Ew.known_any _)).mono ?_⟩
    rintro q v2 ⟨rfl, hb⟩
    have HB := Lib.hid hb
    have P41 := Lib.hid (BX.out.p4.below hb BX.out.p4.lt)
    have hz3 := hb.size
    clear hb
    obtain ⟨x0, x1⟩ := P41.out.one
    gi_wp2_with fail
    have B4 := Lib.hid ((BL.out.trans (HB.out.mono BL.out.size)).trans (((Only.refl (fun j => W.heap.size ≤ j) v2).put (ad := ⟨W.heap.size + 1, 0, none⟩) (by show W.heap.size ≤ W.heap.size + 1; omega) (.bool true)).below (fun _ h => h) (Nat.le_trans BL.out.size hz3)))
    have R4 := Lib.hid ((P41.out.set 0 (.bool true)).cell 0)
    exact ⟨_, res4 rfl R4.out, rfl, B4.out⟩
   have i10 : ¬ (10 : Int) < (x.size : Int) := by omega
   have HX10 : Hid (x.size ≤ 10) := by show x.size ≤ 10; omega
   clear h10
   gi_wp2_with fail
   refine ⟨trivial, HKY.out.mono ?_⟩
   rintro q w3 ⟨rfl, rfl⟩
   obtain ⟨u0, hu0⟩ : ∃ u0, u0 = w3.drew := ⟨_, rfl⟩
   have B0 : Below w3.heap.size w3 u0 := by rw [hu0]; exact (Below.refl _ _).drew
   have HU0 : Hid (u0.heap.size = w3.heap.size) := by show _ = _; rw [hu0]; rfl
   have aa : ∀ v, Below w3.heap.size w3 v → v.cell? ⟨tb, to_ + k, none⟩ = some (.string x) := fun v hv => (hv.cell ltb).trans a0
   obtain ⟨V1, hV1⟩ : ∃ V1, V1 = Lib.bytesWorld u0 5 x := ⟨_, rfl⟩
   obtain ⟨ca, hca⟩ : ∃ ca, ca = grownCap u0 x.size 0 5 := ⟨_, rfl⟩
   have cvA := conv_run u0 x
   have rsA := bw_row u0 x (by have := HX10.out; omega)
   have blA := bw_below u0 x
   have szA := Lib.bytesWorld_size u0 5 x
   rw [← hV1] at cvA rsA blA szA
   rw [← hca] at cvA rsA
   obtain ⟨U1, hU1⟩ : ∃ U1, U1 = u0.alloc (.cells zA 42) := ⟨_, rfl⟩
   have kB : Blk U1 u0.heap.size zA 42 := by rw [hU1]; exact Blk.new _ _ _
   have bB : Below u0.heap.size u0 U1 := by rw [hU1]; exact bnew _ _
   have sB : U1.heap.size = u0.heap.size + 1 := by rw [hU1]; simp
   obtain ⟨V2, hV2⟩ : ∃ V2, V2 = Lib.bytesWorld U1 5 x := ⟨_, rfl⟩
   obtain ⟨cb, hcb⟩ : ∃ cb, cb = grownCap U1 x.size 0 5 := ⟨_, rfl⟩
   have cvB := conv_run U1 x
   have rsB := bw_row U1 x (by have := HX10.out; omega)
   have blB := bw_below U1 x
   rw [← hV2] at cvB rsB blB
   rw [← hcb] at cvB rsB
   have kB2 := kB.below blB kB.lt
   have RA := Lib.hid (And.intro rsA (And.intro blA szA)); have szB := Lib.bytesWorld_size U1 5 x
   rw [← hV2] at szB
   have RB := Lib.hid (And.intro rsB (And.intro blB (And.intro bB (And.intro sB szB))))
   obtain ⟨z0, z1, z2, z3, z4, z5, zf⟩ := six kB2
   have zf0 := zf 0; have zf1 := zf 1; have zf2 := zf 2; have zf3 := zf 3; have zf4 := zf 4; have zf5 := zf 5
   have lB := kB2.lt
   have KB2 := Lib.hid kB2
   have BB0 := Lib.hid B0
   have hA2 : Below w3.heap.size w3 (V1.alloc (.cells #[.string ⟨#[]⟩, .slice none 0 0, .slice none 0 0, .int .u64 0, .int .u64 0, .int .u64 0] 42)) := (B0.trans (blA.mono (by rw [HU0.out]; exact Nat.le_refl _))).trans ((bnew V1 _).mono (by have := szA; have := HU0.out; omega))
   have hA1 : Below w3.heap.size w3 V1 := B0.trans (blA.mono (by rw [HU0.out]; exact Nat.le_refl _))
   have hB1 : Below w3.heap.size w3 U1 := B0.trans (bB.mono (by rw [HU0.out]; exact Nat.le_refl _))
   have hB2 : Below w3.heap.size w3 V2 := hB1.trans (blB.mono hB1.size)
   have hwk : IntKind.u64.wrap (k : Int) = (k : Int) := by rw [IntKind.wrap_u64]; have := HI1.out; omega
   clear szB hV1 hca hV2 hcb rsA blA szA kB bB sB rsB blB kB2 zf
   unfold zA at hU1
   gi_upto_region 12 with fail
   refine wpIn_mono (Q := OnN _) ?_ OnN.imp
   refine wpInW_region_G 13 (fun v => Below w3.heap.size w3 v) (by kernel_rfl) OnN.out (by kernel_rfl) ?_
   rw [← hu0]
   clear hu0
   refine Rg.tg 0 (some 53) (v := ?_) rfl (by kernel_rfl) (fun _ _ _ h => h) (by rfl) (B0) ?_ ?_
   rotate_left
   ·intro w hSw; go_simp; first | done | with_reducible rfl
   try simp only [Ap.sc]
   refine Rg.tg 1 (some 54) (v := ?_) rfl (by kernel_rfl) (fun _ _ _ h => h) (by rfl) (B0) ?_ ?_
   rotate_left
   ·intro w hSw; go_simp; first | done | with_reducible rfl
   try simp only [Ap.sc]
   refine Rg.tg 2 (some 55) (v := ?_) rfl (by kernel_rfl) (fun _ _ _ h => h) (by rfl) (B0) ?_ ?_
   rotate_left
   ·intro w hSw; go_simp; first | done | with_reducible rfl
   try simp only [Ap.sc]
   refine Rg.tg 3 (some 56) (v := ?_) rfl (by kernel_rfl) (fun _ _ _ h => h) (by rfl) (B0) ?_ ?_
   rotate_left
   ·intro w hSw; go_simp; first | done | with_reducible rfl
   try simp only [Ap.sc]
   refine Rg.tg 4 (some 57) (v := ?_) rfl (by kernel_rfl) (fun _ _ _ h => h) (by rfl) (B0) ?_ ?_
   rotate_left
   ·intro w hSw; go_simp; first | done | with_reducible rfl
   try simp only [Ap.sc]
   refine Rg.tg 5 (some 58) (v := ?_) rfl (by kernel_rfl) (fun _ _ _ h => h) (by rfl) (B0) ?_ ?_
   rotate_left
   ·intro w hSw; go_simp; first | done | with_reducible rfl
   try simp only [Ap.sc]
   refine Rg.tg 6 (some 59) (v := ?_) rfl (by kernel_rfl) (fun _ _ _ h => h) (by rfl) (B0) ?_ ?_
   rotate_left
   ·intro w hSw; go_simp; first | done | with_reducible rfl
   try simp only [Ap.sc]
   refine Rg.tg 7 (some 60) (v := ?_) rfl (by kernel_rfl) (fun _ _ _ h => h) (by rfl) (B0) ?_ ?_
   rotate_left
   ·intro w hSw; go_simp; first | done | with_reducible rfl
   try simp only [Ap.sc]
   refine Rg.tg 9 (some 62) (v := ?_) rfl (by kernel_rfl) (fun _ _ _ h => h) (by rfl) (B0) ?_ ?_
   rotate_left
   ·intro w hSw; go_simp; first | done | with_reducible rfl
   try simp only [Ap.sc]
   refine Rg.tg 10 (some 63) (v := ?_) rfl (by kernel_rfl) (fun _ _ _ h => h) (by rfl) (B0) ?_ ?_
   rotate_left
   ·intro w hSw; go_simp; first | done | with_reducible rfl
   try simp only [Ap.sc]
   refine wpAnyG_ready (rs := [8, 12]) (by kernel_rfl) (by simp) ?_
   refine AllReadyG.cons (o := ⟨some 61, _, _, _, _, _⟩) rfl (fun K hK => ?_) (AllReadyG.cons (o := ⟨some 9, _, _, _, _, _⟩) rfl (fun K hK => ?_) AllReadyG.nil)
   ·go_simp
    refine hK.out _ _ (fun _ => hA1) ?_
    clear hK K
    try simp only [Ap.sc]
    refine Rg.tg 11 (some 64) (v := ?_) rfl (by kernel_rfl) (fun _ _ _ h => h) (by rfl) (hA1) ?_ ?_
    rotate_left
    ·intro w hSw; go_simp; first | done | with_reducible rfl
    try simp only [Ap.sc]
    refine wpAnyG_ready (rs := [12]) (by kernel_rfl) (by simp) ?_
    refine AllReadyG.cons (o := ⟨some 9, _, _, _, _, _⟩) rfl (fun K hK => ?_) AllReadyG.nil
    go_simp
    refine hK.out _ _ (fun _ => hA2) ?_
    clear hK K
    try simp only [Ap.sc]
    refine wpAnyG_ready (rs := [13]) (by kernel_rfl) (by simp) ?_
    refine AllReadyG.cons (o := ⟨none, _, _, _, _, _⟩) rfl (fun K hK => ?_) AllReadyG.nil
    go_simp
    refine hK.out _ _ (fun h => absurd h (by omega)) ?_
    clear hK K
    try simp only [Ap.sc]
    refine wpAnyG_done (by kernel_rfl) ?_ _
    refine NoPanic.normal ?_
    first | refine OnN.normal ?_ | skip
    obtain ⟨b9, hb9⟩ : ∃ b9, b9 = V1.heap.size := ⟨_, rfl⟩
    obtain ⟨b1, hb1⟩ : ∃ b1, b1 = u0.heap.size := ⟨_, rfl⟩
    obtain ⟨V, hV⟩ : ∃ V, V = V1.alloc (.cells #[.string x, .slice (some ⟨u0.heap.size, 0, none⟩) x.size ca, .slice none 0 0, .int .u64 (k : Int), .int .u64 0, .int .u64 0] 42) := ⟨_, rfl⟩
    obtain ⟨c1, hc1⟩ : ∃ c1, c1 = ca := ⟨_, rfl⟩
    have FX : Hid (Fx x k w3 b9 b1 c1 V) := by
     show Fx _ _ _ _ _ _ _
     rw [hV, hb9, hb1, hc1]
     exact Fx.of_new BB0.out HU0.out RA.out.1 RA.out.2.1 RA.out.2.2 (by have := HX10.out; omega) (by have := HI1.out; omega)
    skip
    rw [← hV, ← hb9, ← hb1, ← hc1]
    clear hV hb9 hb1 hc1
    have BV := Lib.hid (BX.out.below FX.out.bl)
    have HEN := Lib.hid (key_put (l := lm.map Em.e) (x := keyE x k) HOK.out rfl (by show x.data.toList.length ≤ _; rw [key_len]; have := HX10.out; omega) (key_cost x k HX10.out) (by have := BX.out.le; simpa using this) (fun y hy => by obtain ⟨z, hz, rfl⟩ := List.mem_map.1 hy; exact BX.out.cs z hz))
    have HPT : Hid (Calls Tryz.prog 16 #[.agg #[.int .i64 1048576, .int .i64 100, .slice A lm.length c], .agg #[.string x, .slice (some ⟨b1, 0, none⟩) x.size c1, .slice none 0 0, .int .u64 (k : Int), .int .u64 0, .int .u64 0]] V (fun q w' => ∃ A' c' l' B d m, q = .returned (.tuple #[.agg #[.int .i64 1048576, .int .i64 100, .slice A' l'.length c'], .slice B m.length d, .int .i64 0]) ∧ Nx G V w' (putT ⟨1048576, 100, lm.map Em.e⟩ (keyE x k)).l A' c' (l' : List Em) ∧ (m : List Em).length = 0)) := by
     have h := put_s BV.out.co.r BV.out.co.m BV.out.co.n (s := ⟨1048576, 100, lm.map Em.e⟩) (show bud 1048576 100 from ⟨by decide, by decide, by decide, by decide⟩) (keyM x k b1 c1) FX.out.re
     rw [key_v] at h
     unfold putS mV at h
     refine h.mono ?_
     rintro q w' ⟨A', c', l', B, d, m, rfl, hm, _, hn⟩
     refine ⟨A', c', l', B, d, m, ?_, hn, ?_⟩
     ·show _ = _
      rw [show putN ⟨1048576, 100, lm.map Em.e⟩ (keyM x k b1 c1).e = 0 from HEN.out.1]
     ·have := congrArg List.length hm
      rw [show putG ⟨1048576, 100, lm.map Em.e⟩ (keyM x k b1 c1).e = [] from HEN.out.2.1] at this
      simpa using this
    have HPT2 := Lib.hid (callsIn_wide (n := 29) |>.2 HPT.out)
    obtain ⟨n0, n1, n2, _⟩ := BV.out.p7.three
    obtain ⟨n5, _⟩ := BV.out.p5.one
    obtain ⟨m0, m1, m2, m3, m4, m5, _⟩ := six FX.out.bk
    have ln7 := BV.out.p7.lt
    have ln9 := FX.out.bk.lt
    try clear hU1
    clear V1 ca cvA U1 V2 cb cvB RA RB z0 z1 z2 z3 z4 z5 zf0 zf1 zf2 zf3 zf4 zf5 lB KB2 BB0 hA1 hA2 hB1 hB2 aa hwk a0 ltb B0 HU0
    gi_wp2_with fail
    refine ⟨trivial, HPT2.out.mono ?_⟩
    rintro q w4 ⟨A', c', l', B, d, m, rfl, hn, hm0⟩
    have HN := Lib.hid hn
    clear hn n0 n1 n2 n5 m0 m1 m2 m3 m4 m5 HPT HPT2
    obtain ⟨w5, hw5⟩ : ∃ w5, w5 = w4.alloc (.cells #[.int .i64 1048576, .int .i64 100, .slice A' l'.length c'] 32) := ⟨_, rfl⟩
    have HB5' : Hid (Below w4.heap.size w4 w5) := by show Below _ _ _; rw [hw5]; exact bnew _ _
    obtain ⟨ba, hba⟩ : ∃ ba, ba = w4.heap.size := ⟨_, rfl⟩
    have KA : Hid (Blk w5 ba #[.int .i64 1048576, .int .i64 100, .slice A' l'.length c'] 32) := by show Blk _ _ _ _; rw [hw5, hba]; exact Blk.new _ _ _
    gi_upto_region 14 with fail
    rw [← hw5, ← hba]
    clear hw5
    have z4 := HN.out.b.size
    have z5 := HB5'.out.size
    have BV5 : Below V.heap.size V w5 := HN.out.b.trans (HB5'.out.mono z4)
    have X5 := Lib.hid (BV.out.below BV5)
    have hEX : Blk w5 b9 _ _ := FX.out.bk.below BV5 FX.out.bk.lt
    obtain ⟨m0, m1, m2, m3, m4, m5, _⟩ := six hEX
    obtain ⟨n5, _⟩ := X5.out.p5.one
    have HPS : Hid (CallsIn Fence.wide 29 Tryz.prog 17 #[.pointer (some ⟨g, 0, none⟩), .agg #[.string x, .slice (some ⟨b1, 0, none⟩) x.size c1, .slice none 0 0, .int .u64 (k : Int), .int .u64 0, .int .u64 0], .slice none 0 0, .int .i64 0] w5 (Ev.putsPost F w5 g (putT ⟨1048576, 100, lm.map Em.e⟩ (keyE x k)))) := by
     have h := Ev.puts_true X5.out.co.st (x := keyM x k b1 c1) (FX.out.re.below BV5 (Nat.le_refl _)) (fun j hj e => by have := BX.out.co.f j hj; have := FX.out.l1.1; omega) (A := none) (c := 0) (m := []) (Rs.nil _ _) (fun a e => by cases e) (by show List.map _ (putG ⟨1048576, 100, lm.map Em.e⟩ (keyE x k)) = []; rw [HEN.out.2.1]; rfl) (no := 0) HEN.out.1
     rw [key_v] at h
     exact callsIn_wide.2 h
    unfold Ev.putsPost at HPS
    have ln5 := X5.out.p5.lt
    have ln9' := hEX.lt
    clear hEX BV5
    gi_wp2_with fail
    refine ⟨trivial, HPS.out.mono ?_⟩
    rintro q w6 ⟨rfl, F', hst, hff, hoo⟩
    have HST := Lib.hid hst; have HFF := Lib.hid hff; have HOO := Lib.hid hoo
    have z6 := hoo.size
    clear hst hff hoo m0 m1 m2 m3 m4 m5 n5 HPS
    have KA6 := Lib.hid (KA.out.only HOO.out (fun hf => by have := BX.out.co.f _ hf; have := FX.out.bl.size; omega))
    have p76 := Lib.hid (X5.out.p7.only HOO.out (fun hq => (X5.out.fz _ hq).2.2.2.2 rfl))
    obtain ⟨n0, n1, n2, _⟩ := KA6.out.three
    obtain ⟨_, _, _, nf0, nf1, nf2⟩ := p76.out.three
    have ln7' := p76.out.lt
    have NX := Lib.hid (BV.out.next HLK.out (by have := HI1.out; omega) HOK.out HX10.out HN.out HB5'.out HST.out HFF.out HOO.out (by have := HB5.out; have := BV.out.p5.lt; omega))
    clear hba
    gi_wp2_with fail
    have hbx := NX.out.2
    unfold Ef.put3 at hbx
    have h1 : Below W.heap.size W V := BL.out.trans (FX.out.bl.mono hzr)
    have h2 := (h1.trans (HN.out.b.mono h1.size)).trans (HB5'.out.mono (by have := h1.size; omega))
    have h3 := h2.trans (HOO.out.below (fun j hj => by have := (BX.out.fz j hj).1; have := HZL.out; omega) h2.size)
    have h4 := Ef.put3_only w6 (b5 + 1) (.int .i64 1048576) (.int .i64 100) (.slice A' l'.length c')
    have h5 := h3.trans (h4.below (fun j e => by have := HB5.out; have := HZL.out; omega) h3.size)
    unfold Ef.put3 at h5
    exact ⟨⟨k + 1, _, _, A', c', l', by omega, by simp, NX.out.1, hbx, h5⟩, by simp [intOf]; omega⟩
   ·go_simp
    rw [← hU1]
    clear hU1
    refine hK.out _ _ (fun _ => hB1) ?_
    clear hK K
    try simp only [Ap.sc]
    refine wpAnyG_ready (rs := [8]) (by kernel_rfl) (by simp) ?_
    refine AllReadyG.cons (o := ⟨some 61, _, _, _, _, _⟩) rfl (fun K hK => ?_) AllReadyG.nil
    go_simp
    refine hK.out _ _ (fun _ => hB2) ?_
    clear hK K
    try simp only [Ap.sc]
    refine Rg.tg 11 (some 64) (v := ?_) rfl (by kernel_rfl) (fun _ _ _ h => h) (by rfl) (hB2) ?_ ?_
    rotate_left
    ·intro w hSw; go_simp; first | done | with_reducible rfl
    try simp only [Ap.sc]
    refine wpAnyG_ready (rs := [13]) (by kernel_rfl) (by simp) ?_
    refine AllReadyG.cons (o := ⟨none, _, _, _, _, _⟩) rfl (fun K hK => ?_) AllReadyG.nil
    go_simp
    refine hK.out _ _ (fun h => absurd h (by omega)) ?_
    clear hK K
    try simp only [Ap.sc]
    refine wpAnyG_done (by kernel_rfl) ?_ _
    refine NoPanic.normal ?_
    first | refine OnN.normal ?_ | skip
    obtain ⟨b9, hb9⟩ : ∃ b9, b9 = u0.heap.size := ⟨_, rfl⟩
    obtain ⟨b1, hb1⟩ : ∃ b1, b1 = U1.heap.size := ⟨_, rfl⟩
    obtain ⟨V, hV⟩ : ∃ V, V = put6 V2 u0.heap.size (.string x) (.slice (some ⟨U1.heap.size, 0, none⟩) x.size cb) (.slice none 0 0) (.int .u64 (k : Int)) (.int .u64 0) (.int .u64 0) := ⟨_, rfl⟩
    obtain ⟨c1, hc1⟩ : ∃ c1, c1 = cb := ⟨_, rfl⟩
    have FX : Hid (Fx x k w3 b9 b1 c1 V) := by
     show Fx _ _ _ _ _ _ _
     rw [hV, hb9, hb1, hc1]
     exact Fx.of_old BB0.out HU0.out RB.out.1 RB.out.2.1 RB.out.2.2.1 RB.out.2.2.2.1 RB.out.2.2.2.2 KB2.out (by have := HX10.out; omega) (by have := HI1.out; omega)
    unfold put6 at hV
    rw [← hV, ← hb9, ← hb1, ← hc1]
    clear hV hb9 hb1 hc1
    have BV := Lib.hid (BX.out.below FX.out.bl)
    have HEN := Lib.hid (key_put (l := lm.map Em.e) (x := keyE x k) HOK.out rfl (by show x.data.toList.length ≤ _; rw [key_len]; have := HX10.out; omega) (key_cost x k HX10.out) (by have := BX.out.le; simpa using this) (fun y hy => by obtain ⟨z, hz, rfl⟩ := List.mem_map.1 hy; exact BX.out.cs z hz))
    have HPT : Hid (Calls Tryz.prog 16 #[.agg #[.int .i64 1048576, .int .i64 100, .slice A lm.length c], .agg #[.string x, .slice (some ⟨b1, 0, none⟩) x.size c1, .slice none 0 0, .int .u64 (k : Int), .int .u64 0, .int .u64 0]] V (fun q w' => ∃ A' c' l' B d m, q = .returned (.tuple #[.agg #[.int .i64 1048576, .int .i64 100, .slice A' l'.length c'], .slice B m.length d, .int .i64 0]) ∧ Nx G V w' (putT ⟨1048576, 100, lm.map Em.e⟩ (keyE x k)).l A' c' (l' : List Em) ∧ (m : List Em).length = 0)) := by
     have h := put_s BV.out.co.r BV.out.co.m BV.out.co.n (s := ⟨1048576, 100, lm.map Em.e⟩) (show bud 1048576 100 from ⟨by decide, by decide, by decide, by decide⟩) (keyM x k b1 c1) FX.out.re
     rw [key_v] at h
     unfold putS mV at h
     refine h.mono ?_
     rintro q w' ⟨A', c', l', B, d, m, rfl, hm, _, hn⟩
     refine ⟨A', c', l', B, d, m, ?_, hn, ?_⟩
     ·show _ = _
      rw [show putN ⟨1048576, 100, lm.map Em.e⟩ (keyM x k b1 c1).e = 0 from HEN.out.1]
     ·have := congrArg List.length hm
      rw [show putG ⟨1048576, 100, lm.map Em.e⟩ (keyM x k b1 c1).e = [] from HEN.out.2.1] at this
      simpa using this
    have HPT2 := Lib.hid (callsIn_wide (n := 29) |>.2 HPT.out)
    obtain ⟨n0, n1, n2, _⟩ := BV.out.p7.three
    obtain ⟨n5, _⟩ := BV.out.p5.one
    obtain ⟨m0, m1, m2, m3, m4, m5, _⟩ := six FX.out.bk
    have ln7 := BV.out.p7.lt
    have ln9 := FX.out.bk.lt
    try clear hU1
    clear V1 ca cvA U1 V2 cb cvB RA RB z0 z1 z2 z3 z4 z5 zf0 zf1 zf2 zf3 zf4 zf5 lB KB2 BB0 hA1 hA2 hB1 hB2 aa hwk a0 ltb B0 HU0
    gi_wp2_with fail
    refine ⟨trivial, HPT2.out.mono ?_⟩
    rintro q w4 ⟨A', c', l', B, d, m, rfl, hn, hm0⟩
    have HN := Lib.hid hn
    clear hn n0 n1 n2 n5 m0 m1 m2 m3 m4 m5 HPT HPT2
    obtain ⟨w5, hw5⟩ : ∃ w5, w5 = w4.alloc (.cells #[.int .i64 1048576, .int .i64 100, .slice A' l'.length c'] 32) := ⟨_, rfl⟩
    have HB5' : Hid (Below w4.heap.size w4 w5) := by show Below _ _ _; rw [hw5]; exact bnew _ _
    obtain ⟨ba, hba⟩ : ∃ ba, ba = w4.heap.size := ⟨_, rfl⟩
    have KA : Hid (Blk w5 ba #[.int .i64 1048576, .int .i64 100, .slice A' l'.length c'] 32) := by show Blk _ _ _ _; rw [hw5, hba]; exact Blk.new _ _ _
    gi_upto_region 14 with fail
    rw [← hw5, ← hba]
    clear hw5
    have z4 := HN.out.b.size
    have z5 := HB5'.out.size
    have BV5 : Below V.heap.size V w5 := HN.out.b.trans (HB5'.out.mono z4)
    have X5 := Lib.hid (BV.out.below BV5)
    have hEX : Blk w5 b9 _ _ := FX.out.bk.below BV5 FX.out.bk.lt
    obtain ⟨m0, m1, m2, m3, m4, m5, _⟩ := six hEX
    obtain ⟨n5, _⟩ := X5.out.p5.one
    have HPS : Hid (CallsIn Fence.wide 29 Tryz.prog 17 #[.pointer (some ⟨g, 0, none⟩), .agg #[.string x, .slice (some ⟨b1, 0, none⟩) x.size c1, .slice none 0 0, .int .u64 (k : Int), .int .u64 0, .int .u64 0], .slice none 0 0, .int .i64 0] w5 (Ev.putsPost F w5 g (putT ⟨1048576, 100, lm.map Em.e⟩ (keyE x k)))) := by
     have h := Ev.puts_true X5.out.co.st (x := keyM x k b1 c1) (FX.out.re.below BV5 (Nat.le_refl _)) (fun j hj e => by have := BX.out.co.f j hj; have := FX.out.l1.1; omega) (A := none) (c := 0) (m := []) (Rs.nil _ _) (fun a e => by cases e) (by show List.map _ (putG ⟨1048576, 100, lm.map Em.e⟩ (keyE x k)) = []; rw [HEN.out.2.1]; rfl) (no := 0) HEN.out.1
     rw [key_v] at h
     exact callsIn_wide.2 h
    unfold Ev.putsPost at HPS
    have ln5 := X5.out.p5.lt
    have ln9' := hEX.lt
    clear hEX BV5
    gi_wp2_with fail
    refine ⟨trivial, HPS.out.mono ?_⟩
    rintro q w6 ⟨rfl, F', hst, hff, hoo⟩
    have HST := Lib.hid hst; have HFF := Lib.hid hff; have HOO := Lib.hid hoo
    have z6 := hoo.size
    clear hst hff hoo m0 m1 m2 m3 m4 m5 n5 HPS
    have KA6 := Lib.hid (KA.out.only HOO.out (fun hf => by have := BX.out.co.f _ hf; have := FX.out.bl.size; omega))
    have p76 := Lib.hid (X5.out.p7.only HOO.out (fun hq => (X5.out.fz _ hq).2.2.2.2 rfl))
    obtain ⟨n0, n1, n2, _⟩ := KA6.out.three
    obtain ⟨_, _, _, nf0, nf1, nf2⟩ := p76.out.three
    have ln7' := p76.out.lt
    have NX := Lib.hid (BV.out.next HLK.out (by have := HI1.out; omega) HOK.out HX10.out HN.out HB5'.out HST.out HFF.out HOO.out (by have := HB5.out; have := BV.out.p5.lt; omega))
    clear hba
    gi_wp2_with fail
    have hbx := NX.out.2
    unfold Ef.put3 at hbx
    have h1 : Below W.heap.size W V := BL.out.trans (FX.out.bl.mono hzr)
    have h2 := (h1.trans (HN.out.b.mono h1.size)).trans (HB5'.out.mono (by have := h1.size; omega))
    have h3 := h2.trans (HOO.out.below (fun j hj => by have := (BX.out.fz j hj).1; have := HZL.out; omega) h2.size)
    have h4 := Ef.put3_only w6 (b5 + 1) (.int .i64 1048576) (.int .i64 100) (.slice A' l'.length c')
    have h5 := h3.trans (h4.below (fun j e => by have := HB5.out; have := HZL.out; omega) h3.size)
    unfold Ef.put3 at h5
    exact ⟨⟨k + 1, _, _, A', c', l', by omega, by simp, NX.out.1, hbx, h5⟩, by simp [intOf]; omega⟩
  ·obtain rfl : k = l.length := by omega
   have hnn : ¬ (l.length : Int) < l.length := by omega
   have HALL := Lib.hid (callsIn_wide (n := 29) |>.2 (all_k BX.out.co.st))
   unfold iterK at HALL
   have heq := fun gf lb w => Iu.eql_fn gf lb w
   obtain ⟨y5, _⟩ := BX.out.p5.one
   have ln5 := BX.out.p5.lt
   have ln7 := BX.out.p7.lt
   clear hlt hk
   gi_wp2_with fail
   refine ⟨trivial, HALL.out.mono ?_⟩
   rintro q v1 ⟨Kb, Bs, A0, L, c0, rfl, hkb, hcb, hle, hrl, hsg, hkn, hb⟩
   have HKB := Lib.hid hkb; have HCB := Lib.hid hcb; have HLE := Lib.hid hle; have HRL := Lib.hid hrl; have HSG := Lib.hid hsg; have HKN := Lib.hid hkn; have HBV := Lib.hid hb
   have hzv := hb.size
   clear hkb hcb hle hrl hsg hkn hb y5 HALL hnn
   gi_wp2_with fail
   have hzw := HZL.out
   have hzb := HB5.out
   have GL : Hid (Gl W b5 v1.heap.size Bs Kb G L lm) := by
    have hlen : L.length = lm.length := by
     have h := congrArg List.length HLE.out
     rw [List.length_map, List.length_map] at h; exact h
    refine ⟨HKB.out, fun j hj => ⟨kept_lt HSG.out hj, fun hz => ?_⟩, fun j hz => ?_, by omega, hlen, HLE.out, BX.out.le⟩
    ·rcases HKN.out j hj with h1 | h1
     ·rcases hz with h2 | h2 | h2 | h2
      ·omega
      ·omega
      ·omega
      ·have := BX.out.co.t j h2; omega
     ·have hf := BX.out.fz j h1
      rcases hz with h2 | h2 | h2 | h2
      ·omega
      ·exact hf.2.2.2.1 h2
      ·exact hf.2.2.2.2 h2
      ·exact BX.out.co.d j h1 h2
    ·rcases hz with h2 | h2 | h2 | h2
     ·omega
     ·omega
     ·omega
     ·have := BX.out.co.t j h2; omega
   have LP1 : Hid (Lp Kb (fun j => Zf W b5 G j ∨ j ∈ ([v1.heap.size] : List Nat)) g (v1.alloc (.cells #[.int .i64 0] 3))) := by
    refine lp_add (Z := Zf W b5 G) ⟨_, _, HSG.out, fun j hj => ⟨fun hz => ?_, by omega⟩⟩ (bnew v1 _) (fun j hj => ?_)
    ·have hf := BX.out.fz j hj.1
     rcases hz with h2 | h2 | h2 | h2
     ·omega
     ·exact hf.2.2.2.1 h2
     ·exact hf.2.2.2.2 h2
     ·exact BX.out.co.d j hj.1 h2
    ·rcases hj with h1 | h1
     ·exact Or.inl h1
     ·exact Or.inr (by have := List.mem_singleton.1 h1; omega)
   have T0 : Hid (Tw W b5 v1.heap.size Bs g many Kb G A0 L c0 A lm c [v1.heap.size] 0 v1.heap.size [] (v1.alloc (.cells #[.int .i64 0] 3))) := by
    have hb1 := bnew v1 (.cells #[.int .i64 0] 3)
    have l3 := BX.out.p3.lt; have l4 := BX.out.p4.lt; have l7 := BX.out.p7.lt
    refine ⟨LP1.out, (BX.out.p3.below HBV.out l3).below hb1 (by omega), (BX.out.p4.below HBV.out l4).below hb1 (by omega), (BX.out.p5.below HBV.out ln5).below hb1 (by omega), (BX.out.p7.below HBV.out l7).below hb1 (by omega), (BX.out.co.r.below HBV.out (Nat.le_refl _)).below hb1 (Nat.le_refl _), (hb1.cell (p := ⟨Bs, 0, none⟩) (kept_lt HSG.out HKB.out)).trans HCB.out, HRL.out.below hb1 (Nat.le_refl _), Blk.new _ _ _, Nat.le_refl _, List.Pairwise.nil, (fun D hD => by simp at hD), (BL.out.trans (HBV.out.mono hzr)).trans (hb1.mono (by omega))⟩
   clear hzw hzb LP1 HSG HKN HKB HCB HLE HRL BX BL HBV HD hdl hdm hW2 BW
   refine wpIn_loop_rounds 3 (rounds_by 2 (I := fun t a w => ∃ b14 ms, Fr a W.heap.size (W.heap.size + 1) b5 (b5 + 1) 60 #[.pointer (some ⟨Bs, 0, none⟩)] b14 (ms.map mkD) ∧ Tw W b5 v1.heap.size Bs g many Kb G A0 L c0 A lm c (b14 :: ms) t b14 ms w) ?_ 3 0 _ _ rfl ⟨_, [], ⟨rfl, rfl, rfl, rfl, rfl, rfl, rfl, rfl⟩, T0.out⟩ (by omega))
   clear T0
   intro t a w ht ⟨b14, ms, hfr, htw⟩
   obtain ⟨f, rfl⟩ := hfr.opened
   have TW := Lib.hid htw
   obtain ⟨x14, y14⟩ := htw.pt.one
   have l14 := htw.pt.lt
   clear hfr htw
   by_cases h2 : t = 2
   ·subst h2
    obtain ⟨x4, y4⟩ := TW.out.p4.one
    gi_wp2_with fail
    refine ⟨trivial, (callsIn_wide.2 (Ew.known_any _)).mono ?_⟩
    rintro r v2 ⟨rfl, hb⟩
    have HB2 := Lib.hid hb
    have P42 := Lib.hid (TW.out.p4.below hb TW.out.p4.lt)
    clear hb x4 y4
    obtain ⟨x4, y4⟩ := P42.out.one
    gi_wp2_with fail
    have R4 := Lib.hid ((P42.out.set 0 (.bool true)).cell 0)
    have O4 : Hid (Only (fun j => j = W.heap.size + 1) v2 (v2.setCell ⟨W.heap.size + 1, 0, none⟩ (.bool true))) := only_own (F := fun j => j = W.heap.size + 1) rfl _
    have l4 := GL.out.zn (W.heap.size + 1) (Or.inl (by omega))
    have MD : ∀ D ∈ ms, D ≠ W.heap.size + 1 ∧ (v2.setCell ⟨W.heap.size + 1, 0, none⟩ (.bool true)).heap[D]? = some (.deferred (some [])) := fun D hD => by
     have h1 := (TW.out.md D hD).1
     have h2 := (TW.out.md D hD).2
     have hl := (Array.getElem?_eq_some_iff.1 h2).1
     have h3 := (HB2.out.block D hl).trans h2
     exact ⟨by omega, (O4.out.block D (Array.getElem?_eq_some_iff.1 h3).1 (by omega)).trans h3⟩
    refine leave_marks ms _ TW.out.nd (fun D hD => (MD D hD).2) (fun w' ho => ?_)
    have hl4 : W.heap.size + 1 < (v2.setCell ⟨W.heap.size + 1, 0, none⟩ (.bool true)).heap.size := by
     have := P42.out.lt; have := O4.out.size; omega
    refine ⟨_, res4 (v := .bool true) rfl ((ho.cell (a := ⟨W.heap.size + 1, 0, none⟩) hl4 (fun h => (MD _ h).1 rfl)).trans R4.out), rfl, ?_⟩
    have e1 : Below W.heap.size W v2 := TW.out.bl.trans (HB2.out.mono TW.out.bl.size)
    have e2 := O4.out.below (B := W.heap.size) (fun j hj => by omega) (by have := e1.size; omega)
    exact (e1.trans e2).trans (ho.below (fun D hD => by have := (TW.out.md D hD).1; omega) (by have := (e1.trans e2).size; omega))
   have ht2 : (t : Int) < 2 := by omega
   clear ht
   obtain ⟨w0, hw0⟩ : ∃ w0, w0 = w.alloc (.cells #[.int .i64 0] 3) := ⟨_, rfl⟩
   have hb0 : Below w.heap.size w w0 := by rw [hw0]; exact bnew _ _
   have hz0 : w0.heap.size = w.heap.size + 1 := by rw [hw0]; simp
   have P15 : Hid (Blk w0 w.heap.size #[.int .i64 (([] : List Em).length : Int)] 3) := by show Blk _ _ _ _; rw [hw0]; exact Blk.new _ _ _
   have HMS : Hid (∀ D ∈ ms, v1.heap.size ≤ D ∧ D < w.heap.size) := fun D hD => ⟨(TW.out.md D hD).1, (Array.getElem?_eq_some_iff.1 (TW.out.md D hD).2).1⟩
   have HN14 : v1.heap.size ≤ b14 := TW.out.nt
   have T1 : Hid (Tw W b5 v1.heap.size Bs g many Kb G A0 L c0 A lm c ((w0.heap.size + 1) :: w0.heap.size :: w.heap.size :: b14 :: ms) t b14 ms w0) := TW.out.grow GL.out hb0 (fun j hj => by
    rcases List.mem_cons.1 hj with e | hj
    ·exact Or.inr (by omega)
    rcases List.mem_cons.1 hj with e | hj
    ·exact Or.inr (by omega)
    rcases List.mem_cons.1 hj with e | hj
    ·exact Or.inr (by omega)
    exact Or.inl hj)
   have HLF : Hid (L.length ≤ 20) := by show L.length ≤ 20; rw [GL.out.le]; exact GL.out.few
   have HSEQ : Hid (SeqQ Fence.wide 29 Tryz.prog 60 #[.pointer (some ⟨Bs, 0, none⟩)] (fun y : Em => #[emV y]) (Iu.Kq Kb) (fun pre y W0 W1 => Iu.Nu y W0 W1 ∧ ∃ h : pre.length < L.length, y.e = L[pre.length].e) L.length w0) := by
    intro l J Jx W' hW hJ hY h0
    exact iter_q (n := 29) (by omega) (by have := HLF.out; omega) hJ hY ((hW.cell (p := ⟨Bs, 0, none⟩) (T1.out.lp.kl GL.out.kb)).trans T1.out.cb) (T1.out.rl.below hW (Nat.le_refl _)) h0
   obtain ⟨b15, hb15⟩ : ∃ b15, b15 = w.heap.size := ⟨_, rfl⟩
   have HZ0 : Hid (w0.heap.size = b15 + 1) := by show _ = _; rw [hb15]; exact hz0
   rw [← hb15] at P15 T1 HMS l14
   have N15 : v1.heap.size ≤ b15 := by omega
   gi_wp2_with fail
   rw [← hw0, ← hb15]
   clear hw0 hb15 TW x14 y14 hb0 hz0 heq
   refine range_q hro h30 (gf := 60) (lb := #[.pointer (some ⟨Bs, 0, none⟩)]) rfl trivial (enters_of Tryz.func60 (by kernel_rfl) rfl) HSEQ.out (fun h k => Iu.Kq.trans h k) (fun W' l' o' hl => Iu.Kq.put (n0 := v1.heap.size) (B := w0.heap.size) (fun j hj => (GL.out.kn j hj).1) (by have := HZ0.out; omega) W' l' o' hl) (Below.refl _ _) (fun _ => rfl)
    (fun pre W' => Tw W b5 v1.heap.size Bs g many Kb G A0 L c0 A lm c ((w0.heap.size + 1) :: w0.heap.size :: b15 :: b14 :: ms) t b14 ms W' ∧ Blk W' b15 #[.int .i64 (pre.length : Int)] 3 ∧ (t = 0 → (pre.length : Int) ≤ many))
    (fun cd pre W' => cd = .exit 4 ∧ Tw W b5 v1.heap.size Bs g many Kb G A0 L c0 A lm c ((w0.heap.size + 1) :: w0.heap.size :: b15 :: b14 :: ms) t b14 ms W' ∧ Blk W' b15 #[.int .i64 (pre.length : Int)] 3 ∧ t = 0)
    (fun pre X Y h hb => ⟨h.1.grow GL.out hb (fun j hj => Or.inl hj), h.2.1.below hb h.2.1.lt, h.2.2⟩)
    (fun pre X o' h => by
     have ho : Only (fun j => j = w0.heap.size + 1) X (X.putObj (w0.heap.size + 1) o') := Only.of_grown (grownBy_putObj' X _ o') (fun k e => by cases e; rfl)
     exact ⟨h.1.one GL.out ho (by simp) (by have := HZ0.out; omega) (by have := HZ0.out; omega) (fun hm => by have := (HMS.out _ hm).2; have := HZ0.out; omega), h.2.1.only ho (by have := HZ0.out; omega), h.2.2⟩)
    (fun cd pre X o' h => by
     have ho : Only (fun j => j = w0.heap.size + 1) X (X.putObj (w0.heap.size + 1) o') := Only.of_grown (grownBy_putObj' X _ o') (fun k e => by cases e; rfl)
     exact ⟨h.1, h.2.1.one GL.out ho (by simp) (by have := HZ0.out; omega) (by have := HZ0.out; omega) (fun hm => by have := (HMS.out _ hm).2; have := HZ0.out; omega), h.2.2.1.only ho (by have := HZ0.out; omega), h.2.2.2⟩)
    ⟨T1.out, P15.out, fun _ => hm0⟩
    (fun pre x a' W' => ∃ b16 : Nat, a' = { tmps := #[f 0, f 1, f 2, .pointer (some ⟨W.heap.size, 0, none⟩), .pointer (some ⟨W.heap.size + 1, 0, none⟩), .pointer (some ⟨b5, 0, none⟩), f 6, .pointer (some ⟨b5 + 1, 0, none⟩), f 8, f 9, f 10, f 11, f 12, .func (.func 60) #[] #[.pointer (some ⟨Bs, 0, none⟩)], .pointer (some ⟨b14, 0, none⟩), .pointer (some ⟨b15, 0, none⟩), .pointer (some ⟨b16, 0, none⟩), f 17, f 18, f 19, f 20, f 21, f 22, f 23, f 24, f 25, f 26, f 27, f 28, f 29, f 30, f 31, f 32, f 33, f 34, f 35, f 36, f 37, f 38, f 39, f 40, f 41, f 42, f 43, f 44, f 45, f 46, f 47, f 48, f 49, f 50, f 51, f 52, f 53, f 54, f 55, f 56, f 57, f 58, f 59, f 60, f 61, f 62, f 63, f 64, f 65, f 66, f 67, f 68, f 69, f 70, f 71, f 72, f 73, f 74, f 75, f 76, f 77, f 78, f 79, f 80, f 81, .int .i64 (t : Int), .bool true, f 84, f 85, .func (.func 60) #[] #[.pointer (some ⟨Bs, 0, none⟩)], emV x, f 88, f 89, f 90, f 91, f 92, f 93, f 94, f 95, f 96, f 97, f 98, f 99, f 100, f 101, f 102, f 103, f 104, f 105, f 106, f 107, f 108, f 109, f 110, f 111, f 112, f 113, f 114, f 115, f 116, f 117, f 118, f 119, f 120, f 121, f 122, f 123, f 124, f 125, f 126, f 127, f 128, f 129, f 130, f 131, f 132, f 133, f 134, f 135, f 136, f 137], defers := [] } ∧
     w0.heap.size + 2 ≤ b16 ∧ Blk W' b16 (emA x) 42 ∧ RE (fun j => w0.heap.size + 2 ≤ j) W' x ∧ (∃ h : pre.length < L.length, x.e = L[pre.length].e) ∧ Tw W b5 v1.heap.size Bs g many Kb G A0 L c0 A lm c (b16 :: (w0.heap.size + 1) :: w0.heap.size :: b15 :: b14 :: ms) t b14 ms W' ∧ Blk W' b15 #[.int .i64 (pre.length : Int)] 3 ∧ (t = 0 → (pre.length : Int) ≤ many))
    (fun pre x a' X o' h => by
     have ho : Only (fun j => j = w0.heap.size + 1) X (X.putObj (w0.heap.size + 1) o') := Only.of_grown (grownBy_putObj' X _ o') (fun k e => by cases e; rfl)
     obtain ⟨b16, h1, h2, h3, h4, h5, h6, h7, h8⟩ := h
     exact ⟨b16, h1, h2, h3.only ho (by omega), h4.only ho (fun j e => by omega), h5, h6.one GL.out ho (by simp) (by have := HZ0.out; omega) (by have := HZ0.out; omega) (fun hm => by have := (HMS.out _ hm).2; have := HZ0.out; omega), h7.only ho (by have := HZ0.out; omega), h8⟩) ?assign ?body ?done ?stop
   case assign =>
    intro rl pre x W0 W' Kk hI0 hpr hI1 hlt hl0 hl1 hK
    obtain ⟨v, hv⟩ : ∃ v, v = W'.alloc (.cells (emA x) 42) := ⟨_, rfl⟩
    have HK := Lib.hid hK; have HI0 := Lib.hid hI0; have HPR := Lib.hid hpr; have HI := Lib.hid hI1
    have HB : Hid (Below W'.heap.size W' v) := by show Below _ _ _; rw [hv]; exact bnew _ _
    have HBK : Hid (Blk v W'.heap.size (emA x) 42) := by show Blk _ _ _ _; rw [hv]; exact Blk.new _ _ _
    have HL0 := Lib.hid hl0; have HL1 := Lib.hid hl1
    unfold emA at hv
    clear hK hI0 hpr hI1 hlt hl0 hl1
    unfold emV
    gi_wp2_with fail
    rw [← hv]
    have hz := HPR.out.1.1.size
    refine HK.out _ _ ⟨HB.out.block _ (by have := HL1.out; omega), HB.out.block _ HL1.out⟩ (Only.of_below HB.out (Nat.le_refl _) _) ⟨W'.heap.size, rfl, by have := HL1.out; omega, HBK.out, ((HPR.out.1.2.re).below HB.out (Nat.le_refl _)).mono (fun j hj => by have := HL0.out; omega), HPR.out.2, HI.out.1.grow GL.out HB.out (fun j hj => ?_), HI.out.2.1.below HB.out HI.out.2.1.lt, HI.out.2.2⟩
    rcases List.mem_cons.1 hj with e | hj
    ·exact Or.inr (by omega)
    ·exact Or.inl hj
   case body =>
    rintro rl pre x a' X ⟨b16, rfl, h16, hbk, hre, ⟨hlt, hxe⟩, htw, hp15, hst⟩ _ hDX
    have hLL : pre.length < lm.length := by rw [← GL.out.le]; exact hlt
    obtain ⟨y, hy⟩ : ∃ y, y = lm[pre.length] := ⟨_, rfl⟩
    have HYE : Hid (y.e = x.e) := by
     show y.e = x.e
     rw [hxe, hy]
     have h1 := congrArg (fun l => l[pre.length]?) GL.out.em
     simp only [List.getElem?_map, List.getElem?_eq_getElem hlt, List.getElem?_eq_getElem hLL, Option.map_some] at h1
     injection h1 with h1
     exact h1.symm
    have TX := Lib.hid htw; have PX := Lib.hid hp15; have HBK := Lib.hid hbk; have HRE := Lib.hid hre; have HST := Lib.hid hst
    have HRY : Hid (RE G X y) := by show RE _ _ _; rw [hy]; exact htw.rm.e _ (List.getElem_mem hLL)
    obtain ⟨mb, mo, rfl, lmb, g0, g1, g2, g3, g4, g5⟩ := htw.rm.at_ hLL
    rw [← hy] at g0 g1 g2 g3 g4 g5
    have hcm := Rs.max htw.rm.r
    have hcl := Rs.le htw.rm.r
    unfold maxLen at hcm
    have i2 : ¬ (lm.length : Int) ≤ (pre.length : Int) := by omega
    have i3 : (pre.length : Int) < (lm.length : Int) := by omega
    have l15 := hp15.lt; have l16 := hbk.lt; have l7' := htw.p7.lt
    have c15 : ∀ v, Below X.heap.size X v → v.cell? ⟨b15, 0, none⟩ = some (.int .i64 (pre.length : Int)) := fun v hv => (hv.cell l15).trans (hp15.cell 0)
    have c72 : ∀ v, Below X.heap.size X v → v.cell? ⟨b5 + 1, 2, none⟩ = some (.slice (some ⟨mb, mo, none⟩) lm.length c) := fun v hv => (hv.cell l7').trans (htw.p7.cell 2)
    have r0 : ∀ v, Below X.heap.size X v → v.cell? ⟨b16, 0, none⟩ = some (.string x.e.k) := fun v hv => (hv.cell l16).trans (hbk.cell 0)
    have r1 : ∀ v, Below X.heap.size X v → v.cell? ⟨b16, 1, none⟩ = some (.slice x.A x.e.v.length x.a) := fun v hv => (hv.cell l16).trans (hbk.cell 1)
    have r2 : ∀ v, Below X.heap.size X v → v.cell? ⟨b16, 2, none⟩ = some (.slice x.B x.e.t.length x.b) := fun v hv => (hv.cell l16).trans (hbk.cell 2)
    have r3 : ∀ v, Below X.heap.size X v → v.cell? ⟨b16, 3, none⟩ = some (.int .u64 x.e.d) := fun v hv => (hv.cell l16).trans (hbk.cell 3)
    have r4 : ∀ v, Below X.heap.size X v → v.cell? ⟨b16, 4, none⟩ = some (.int .u64 x.e.n) := fun v hv => (hv.cell l16).trans (hbk.cell 4)
    have r5 : ∀ v, Below X.heap.size X v → v.cell? ⟨b16, 5, none⟩ = some (.int .u64 x.e.s) := fun v hv => (hv.cell l16).trans (hbk.cell 5)
    have q0' : ∀ v, Below X.heap.size X v → v.cell? ⟨mb, mo + pre.length * 6, none⟩ = some (.string y.e.k) := fun v hv => (hv.cell lmb).trans g0
    have q1' : ∀ v, Below X.heap.size X v → v.cell? ⟨mb, mo + pre.length * 6 + 1, none⟩ = some (.slice y.A y.e.v.length y.a) := fun v hv => (hv.cell lmb).trans g1
    have q2' : ∀ v, Below X.heap.size X v → v.cell? ⟨mb, mo + pre.length * 6 + 2, none⟩ = some (.slice y.B y.e.t.length y.b) := fun v hv => (hv.cell lmb).trans g2
    have q3' : ∀ v, Below X.heap.size X v → v.cell? ⟨mb, mo + pre.length * 6 + 3, none⟩ = some (.int .u64 y.e.d) := fun v hv => (hv.cell lmb).trans g3
    have q4' : ∀ v, Below X.heap.size X v → v.cell? ⟨mb, mo + pre.length * 6 + 4, none⟩ = some (.int .u64 y.e.n) := fun v hv => (hv.cell lmb).trans g4
    have q5' : ∀ v, Below X.heap.size X v → v.cell? ⟨mb, mo + pre.length * 6 + 5, none⟩ = some (.int .u64 y.e.s) := fun v hv => (hv.cell lmb).trans g5
    have HSA : Hid (∀ v, Below X.heap.size X v → Calls Tryz.prog 19 #[.agg #[.string x.e.k, .slice x.A x.e.v.length x.a, .slice x.B x.e.t.length x.b, .int .u64 x.e.d, .int .u64 x.e.n, .int .u64 x.e.s], .agg #[.string y.e.k, .slice y.A y.e.v.length y.a, .slice y.B y.e.t.length y.b, .int .u64 y.e.d, .int .u64 y.e.n, .int .u64 y.e.s]] v (boolTo true v)) := fun v hv => same_true HYE.out (HRE.out.below hv (Nat.le_refl _)) (HRY.out.below hv (Nat.le_refl _))
    unfold boolTo at HSA
    have HDX := Lib.hid hDX; have HLT := Lib.hid hlt; have H16 := Lib.hid h16
    have hxk : x.e.k.size ≤ 1000000 := hre.f.k
    clear htw hp15 hbk hre hst hxe hlt hLL hy g0 g1 g2 g3 g4 g5 h16 hDX
    refine wpIn_block ?_
    gi_upto_region 26 with fail
    refine wpIn_mono (Q := OnN _) ?_ OnN.imp
    refine Il.wpIn_region_G 15 (fun v => Below X.heap.size X v) (by kernel_rfl) OnN.out (by kernel_rfl) ?_
    have hSx : Below X.heap.size X X.drew := (Below.refl _ _).drew
    obtain ⟨u0, hu0⟩ : ∃ u0, u0 = X.drew := ⟨_, rfl⟩
    rw [← hu0] at hSx ⊢
    clear hu0
    refine Rg.tg 0 (some 88) (v := ?_) rfl (by kernel_rfl) (fun _ _ _ h => h) (by rfl) (hSx) ?_ ?_
    rotate_left
    ·intro w hSw; go_simp; first | done | with_reducible rfl
    try simp only [Ap.sc]
    refine Rg.tg 1 (some 89) (v := ?_) rfl (by kernel_rfl) (fun _ _ _ h => h) (by rfl) (hSx) ?_ ?_
    rotate_left
    ·intro w hSw; go_simp; first | done | with_reducible rfl
    try simp only [Ap.sc]
    refine Rg.tg 2 (some 90) (v := ?_) rfl (by kernel_rfl) (fun _ _ _ h => h) (by rfl) (hSx) ?_ ?_
    rotate_left
    ·intro w hSw; go_simp; first | done | with_reducible rfl
    try simp only [Ap.sc]
    refine Rg.tg 3 (some 91) (v := ?_) rfl (by kernel_rfl) (fun _ _ _ h => h) (by rfl) (hSx) ?_ ?_
    rotate_left
    ·intro w hSw; go_simp; first | done | with_reducible rfl
    try simp only [Ap.sc]
    refine Rg.tg 4 (some 92) (v := ?_) rfl (by kernel_rfl) (fun _ _ _ h => h) (by rfl) (hSx) ?_ ?_
    rotate_left
    ·intro w hSw; go_simp; first | done | with_reducible rfl
    try simp only [Ap.sc]
    refine Rg.tg 5 (some 93) (v := ?_) rfl (by kernel_rfl) (fun _ _ _ h => h) (by rfl) (hSx) ?_ ?_
    rotate_left
    ·intro w hSw; go_simp; first | done | with_reducible rfl
    try simp only [Ap.sc]
    refine Rg.tg 6 (some 94) (v := ?_) rfl (by kernel_rfl) (fun _ _ _ h => h) (by rfl) (hSx) ?_ ?_
    rotate_left
    ·intro w hSw; go_simp; first | done | with_reducible rfl
    try simp only [Ap.sc]
    refine Rg.tg 7 (some 95) (v := ?_) rfl (by kernel_rfl) (fun _ _ _ h => h) (by rfl) (hSx) ?_ ?_
    rotate_left
    ·intro w hSw; go_simp; first | done | with_reducible rfl
    try simp only [Ap.sc]
    refine Rg.tg 8 (some 96) (v := ?_) rfl (by kernel_rfl) (fun _ _ _ h => h) (by rfl) (hSx) ?_ ?_
    rotate_left
    ·intro w hSw; go_simp; first | done | with_reducible rfl
    try simp only [Ap.sc]
    refine Rg.tg 9 (some 97) (v := ?_) rfl (by kernel_rfl) (fun _ _ _ h => h) (by rfl) (hSx) ?_ ?_
    rotate_left
    ·intro w hSw; go_simp; first | done | with_reducible rfl
    try simp only [Ap.sc]
    refine Rg.tg 10 (some 98) (v := ?_) rfl (by kernel_rfl) (fun _ _ _ h => h) (by rfl) (hSx) ?_ ?_
    rotate_left
    ·intro w hSw; go_simp; first | done | with_reducible rfl
    try simp only [Ap.sc]
    refine Rg.tg 11 (some 99) (v := ?_) rfl (by kernel_rfl) (fun _ _ _ h => h) (by rfl) (hSx) ?_ ?_
    rotate_left
    ·intro w hSw; go_simp; first | done | with_reducible rfl
    try simp only [Ap.sc]
    refine wpAnyG_ready (rs := [12]) (by kernel_rfl) (by simp) ?_
    refine AllReadyG.cons (o := ⟨some 100, _, _, _, _, _⟩) rfl (fun K hK => ?_) AllReadyG.nil
    go_simp
    refine (HSA.out _ hSx).mono ?_
    rintro q u2 ⟨rfl, hbu⟩
    have hSy : Below X.heap.size X u2 := hSx.trans (hbu.mono hSx.size)
    go_simp
    refine hK.out _ _ (fun _ => hSy) ?_
    clear hK K
    try simp only [Ap.sc]
    refine Rg.tg 13 (some 101) (v := ?_) rfl (by kernel_rfl) (fun _ _ _ h => h) (by rfl) (hSy) ?_ ?_
    rotate_left
    ·intro w hSw; go_simp; first | done | with_reducible rfl
    try simp only [Ap.sc]
    refine Rg.tg 14 (some 102) (v := ?_) rfl (by kernel_rfl) (fun _ _ _ h => h) (by rfl) (hSy) ?_ ?_
    rotate_left
    ·intro w hSw; go_simp; first | done | with_reducible rfl
    try simp only [Ap.sc]
    refine wpAnyG_done (by kernel_rfl) ?_ _
    first | refine OnN.normal ?_ | skip
    have T2 := Lib.hid (TX.out.grow (zs' := (b16 :: (w0.heap.size + 1) :: w0.heap.size :: b15 :: b14 :: ms)) GL.out hSy (fun j hj => Or.inl hj))
    have K2 := Lib.hid (HBK.out.below hSy HBK.out.lt)
    have P2 := Lib.hid (PX.out.below hSy PX.out.lt)
    have O2 : Hid (Only (NB Kb (fun j => Zf W b5 G j ∨ j ∈ (b16 :: (w0.heap.size + 1) :: w0.heap.size :: b15 :: b14 :: ms)) b15) X u2) := Only.of_below hSy (Nat.le_refl _) _
    have zl : ∀ {u : World}, Only (NB Kb (fun j => Zf W b5 G j ∨ j ∈ (b16 :: (w0.heap.size + 1) :: w0.heap.size :: b15 :: b14 :: ms)) b15) X u → ∀ j ∈ (b16 :: (w0.heap.size + 1) :: w0.heap.size :: b15 :: b14 :: ms), j < u.heap.size := fun ho j hj => by
     have h1 := ho.size
     have h2 := HDX.out
     simp only [List.mem_cons] at hj
     rcases hj with rfl | rfl | rfl | rfl | rfl | hj
     ·omega
     ·omega
     ·omega
     ·omega
     ·omega
     ·have := (HMS.out _ hj).2; omega
    clear c15 c72 r0 r1 r2 r3 r4 r5 q0' q1' q2' q3' q4' q5' HSA hSx hSy hbu
    obtain ⟨s5, _⟩ := T2.out.p5.one
    obtain ⟨k0, _, _, _, _, _, _⟩ := six (show Blk u2 b16 #[.string x.e.k, .slice x.A x.e.v.length x.a, .slice x.B x.e.t.length x.b, .int .u64 x.e.d, .int .u64 x.e.n, .int .u64 x.e.s] 42 from K2.out)
    have l5' := T2.out.p5.lt
    have z16 := K2.out.lt
    have US := Lib.hid (lp_use T2.out.lp (T2.out.zlt GL.out (zl O2.out)) x.e.k hxk)
    unfold lpPost at US
    gi_wp2_with fail
    refine ⟨trivial, (CallsIn.inRound rl (callsIn_wide.2 US.out)).mono ?_⟩
    rintro q u3 ⟨⟨v, rfl⟩, hl, ho⟩
    have T3 := Lib.hid (T2.out.called GL.out hl ho (by simp) (fun D h => by simp [h]))
    have P3 := Lib.hid (P2.out.only ho (fun h => h.2 (Or.inr (by simp))))
    have K3 := Lib.hid (K2.out.only ho (fun h => h.2 (Or.inr (by simp))))
    have O3 := Lib.hid (nb_call O2.out ho)
    clear s5 k0 l5' z16 US hl ho
    obtain ⟨x15, _⟩ := P3.out.one
    have l15a := P3.out.lt
    by_cases hev : pre.length % 2 = 0
    ·have e1 : ((pre.length : Int) % 2 == 0) = true := by simp; omega
     have e2 : ((pre.length : Int).tmod 2 == 0) = true := by rw [Int.tmod_eq_emod_of_nonneg (by omega)]; exact e1
     obtain ⟨s5, _⟩ := T3.out.p5.one
     obtain ⟨k0, _, _, _, _, _, _⟩ := six (show Blk u3 b16 #[.string x.e.k, .slice x.A x.e.v.length x.a, .slice x.B x.e.t.length x.b, .int .u64 x.e.d, .int .u64 x.e.n, .int .u64 x.e.s] 42 from K3.out)
     have l5' := T3.out.p5.lt
     have z16 := K3.out.lt
     have US := Lib.hid (lp_rem T3.out.lp (T3.out.zlt GL.out (zl O3.out)) x.e.k hxk)
     unfold lpPost at US
     gi_wp2_with fail
     refine ⟨trivial, (CallsIn.inRound rl (callsIn_wide.2 US.out)).mono ?_⟩
     rintro q u4 ⟨⟨v, rfl⟩, hl, ho⟩
     have T4 := Lib.hid (T3.out.called GL.out hl ho (by simp) (fun D h => by simp [h]))
     have P4 := Lib.hid (P3.out.only ho (fun h => h.2 (Or.inr (by simp))))
     have K4 := Lib.hid (K3.out.only ho (fun h => h.2 (Or.inr (by simp))))
     have O4 := Lib.hid (nb_call O3.out ho)
     clear s5 k0 l5' z16 US hl ho
     obtain ⟨s5, _⟩ := T4.out.p5.one
     obtain ⟨k0, _, _, _, _, _, _⟩ := six (show Blk u4 b16 #[.string x.e.k, .slice x.A x.e.v.length x.a, .slice x.B x.e.t.length x.b, .int .u64 x.e.d, .int .u64 x.e.n, .int .u64 x.e.s] 42 from K4.out)
     have l5' := T4.out.p5.lt
     have z16 := K4.out.lt
     have US := Lib.hid (lp_put T4.out.lp (T4.out.zlt GL.out (zl O4.out)) ⟨#[97, 110, 111, 116, 104, 101, 114, 32, 111, 110, 101]⟩ (by decide))
     unfold lpPost at US
     gi_wp2_with fail
     refine ⟨trivial, (CallsIn.inRound rl (callsIn_wide.2 US.out)).mono ?_⟩
     rintro q u5 ⟨⟨v, rfl⟩, hl, ho⟩
     have T5 := Lib.hid (T4.out.called GL.out hl ho (by simp) (fun D h => by simp [h]))
     have P5 := Lib.hid (P4.out.only ho (fun h => h.2 (Or.inr (by simp))))
     have K5 := Lib.hid (K4.out.only ho (fun h => h.2 (Or.inr (by simp))))
     have O5 := Lib.hid (nb_call O4.out ho)
     clear s5 k0 l5' z16 US hl ho
     obtain ⟨u6, hu6⟩ : ∃ u6, u6 = u5.setCell ⟨b15, 0, none⟩ (.int .i64 ((pre.length : Int) + 1)) := ⟨_, rfl⟩
     have O56 : Only (fun j => j = b15) u5 u6 := by rw [hu6]; exact only_own (F := fun j => j = b15) rfl _
     have P6 : Hid (Blk u6 b15 #[.int .i64 ((pre.length : Int) + 1)] 3) := by show Blk _ _ _ _; rw [hu6]; exact P5.out.set 0 _
     have T6 := Lib.hid (T5.out.one GL.out O56 (by simp) N15 (by omega) (fun h => by have := (HMS.out _ h).2; omega))
     have O6 : Hid (Only (NB Kb (fun j => Zf W b5 G j ∨ j ∈ (b16 :: (w0.heap.size + 1) :: w0.heap.size :: b15 :: b14 :: ms)) b15) X u6) := O5.out.trans (O56.mono fun _ _ e => Or.inl (Or.inr e))
     clear O56
     obtain ⟨x15, y15⟩ := P5.out.one
     have l15b := P5.out.lt
     have hp20 : (pre.length : Int) < 20 := by have := HLF.out; have := HLT.out; omega
     gi_upto_region 33 with fail
     rw [← hu6]
     clear hu6 x15 y15 l15b
     obtain ⟨x15, _⟩ := P6.out.one
     obtain ⟨x14, _⟩ := T6.out.pt.one
     obtain ⟨x3, _⟩ := T6.out.p3.one
     have l15b := P6.out.lt
     have l14b := T6.out.pt.lt
     have l3b := T6.out.p3.lt
     have SM : Hid (Sm w0.heap.size X u6) := nb_sm O6.out ⟨Or.inr (by simp), Or.inr (by simp)⟩ ⟨by have := HZ0.out; omega, by have := HZ0.out; omega⟩ HDX.out
     have KQ : Hid (Iu.Kq Kb X u6) := nb_kq O6.out (fun h => by have := (GL.out.kn _ h).1; omega)
     have T7 := Lib.hid (T6.out.less (zs' := ((w0.heap.size + 1) :: w0.heap.size :: b15 :: b14 :: ms)) (fun j hj => List.mem_cons_of_mem _ hj))
     have HLEN : Hid ((((pre ++ [x]).length : Nat) : Int) = (pre.length : Int) + 1) := by show _ = _; simp
     by_cases ht0 : t = 0
     ·have hz0 : ((t : Int) == 0) = true := by simp [ht0]
      have HT0 := Lib.hid ht0
      clear ht0
      by_cases hmy : many < (pre.length : Int) + 1
      ·have HM := Lib.hid hmy
       gi_wp2_with fail
       exact ⟨SM.out, KQ.out, rfl, T7.out, by rw [HLEN.out]; exact P6.out, HT0.out⟩
      ·have HM := Lib.hid hmy
       gi_wp2_with fail
       exact ⟨SM.out, KQ.out, T7.out, by rw [HLEN.out]; exact P6.out, fun _ => by rw [HLEN.out]; have := HM.out; omega⟩
     ·have hz0 : ((t : Int) == 0) = false := by simp; omega
      have HT0 := Lib.hid ht0
      clear ht0
      gi_wp2_with fail
      exact ⟨SM.out, KQ.out, T7.out, by rw [HLEN.out]; exact P6.out, fun h => absurd h HT0.out⟩
    ·have e1 : ((pre.length : Int) % 2 == 0) = false := by simp; omega
     have e2 : ((pre.length : Int).tmod 2 == 0) = false := by rw [Int.tmod_eq_emod_of_nonneg (by omega)]; exact e1
     obtain ⟨s5, _⟩ := T3.out.p5.one
     obtain ⟨k0, _, _, _, _, _, _⟩ := six (show Blk u3 b16 #[.string x.e.k, .slice x.A x.e.v.length x.a, .slice x.B x.e.t.length x.b, .int .u64 x.e.d, .int .u64 x.e.n, .int .u64 x.e.s] 42 from K3.out)
     have l5' := T3.out.p5.lt
     have z16 := K3.out.lt
     have US := Lib.hid (lp_put T3.out.lp (T3.out.zlt GL.out (zl O3.out)) ⟨#[97, 110, 111, 116, 104, 101, 114, 32, 111, 110, 101]⟩ (by decide))
     unfold lpPost at US
     gi_wp2_with fail
     refine ⟨trivial, (CallsIn.inRound rl (callsIn_wide.2 US.out)).mono ?_⟩
     rintro q u5 ⟨⟨v, rfl⟩, hl, ho⟩
     have T5 := Lib.hid (T3.out.called GL.out hl ho (by simp) (fun D h => by simp [h]))
     have P5 := Lib.hid (P3.out.only ho (fun h => h.2 (Or.inr (by simp))))
     have K5 := Lib.hid (K3.out.only ho (fun h => h.2 (Or.inr (by simp))))
     have O5 := Lib.hid (nb_call O3.out ho)
     clear s5 k0 l5' z16 US hl ho
     obtain ⟨u6, hu6⟩ : ∃ u6, u6 = u5.setCell ⟨b15, 0, none⟩ (.int .i64 ((pre.length : Int) + 1)) := ⟨_, rfl⟩
     have O56 : Only (fun j => j = b15) u5 u6 := by rw [hu6]; exact only_own (F := fun j => j = b15) rfl _
     have P6 : Hid (Blk u6 b15 #[.int .i64 ((pre.length : Int) + 1)] 3) := by show Blk _ _ _ _; rw [hu6]; exact P5.out.set 0 _
     have T6 := Lib.hid (T5.out.one GL.out O56 (by simp) N15 (by omega) (fun h => by have := (HMS.out _ h).2; omega))
     have O6 : Hid (Only (NB Kb (fun j => Zf W b5 G j ∨ j ∈ (b16 :: (w0.heap.size + 1) :: w0.heap.size :: b15 :: b14 :: ms)) b15) X u6) := O5.out.trans (O56.mono fun _ _ e => Or.inl (Or.inr e))
     clear O56
     obtain ⟨x15, y15⟩ := P5.out.one
     have l15b := P5.out.lt
     have hp20 : (pre.length : Int) < 20 := by have := HLF.out; have := HLT.out; omega
     gi_upto_region 33 with fail
     rw [← hu6]
     clear hu6 x15 y15 l15b
     obtain ⟨x15, _⟩ := P6.out.one
     obtain ⟨x14, _⟩ := T6.out.pt.one
     obtain ⟨x3, _⟩ := T6.out.p3.one
     have l15b := P6.out.lt
     have l14b := T6.out.pt.lt
     have l3b := T6.out.p3.lt
     have SM : Hid (Sm w0.heap.size X u6) := nb_sm O6.out ⟨Or.inr (by simp), Or.inr (by simp)⟩ ⟨by have := HZ0.out; omega, by have := HZ0.out; omega⟩ HDX.out
     have KQ : Hid (Iu.Kq Kb X u6) := nb_kq O6.out (fun h => by have := (GL.out.kn _ h).1; omega)
     have T7 := Lib.hid (T6.out.less (zs' := ((w0.heap.size + 1) :: w0.heap.size :: b15 :: b14 :: ms)) (fun j hj => List.mem_cons_of_mem _ hj))
     have HLEN : Hid ((((pre ++ [x]).length : Nat) : Int) = (pre.length : Int) + 1) := by show _ = _; simp
     by_cases ht0 : t = 0
     ·have hz0 : ((t : Int) == 0) = true := by simp [ht0]
      have HT0 := Lib.hid ht0
      clear ht0
      by_cases hmy : many < (pre.length : Int) + 1
      ·have HM := Lib.hid hmy
       gi_wp2_with fail
       exact ⟨SM.out, KQ.out, rfl, T7.out, by rw [HLEN.out]; exact P6.out, HT0.out⟩
      ·have HM := Lib.hid hmy
       gi_wp2_with fail
       exact ⟨SM.out, KQ.out, T7.out, by rw [HLEN.out]; exact P6.out, fun _ => by rw [HLEN.out]; have := HM.out; omega⟩
     ·have hz0 : ((t : Int) == 0) = false := by simp; omega
      have HT0 := Lib.hid ht0
      clear ht0
      gi_wp2_with fail
      exact ⟨SM.out, KQ.out, T7.out, by rw [HLEN.out]; exact P6.out, fun h => absurd h HT0.out⟩
   case done =>
    rintro Dm xs W' hDm hxl ⟨htw, hp15, hst⟩ hK
    have HK : Hid (W'.heap[Dm]? = some (.deferred (some []))) := hK
    have TB := Lib.hid htw; have PB := Lib.hid hp15
    have TN := Lib.hid (htw.turn GL.out hK (by have := HZ0.out; omega) (fun h => by have := (HMS.out _ h).2; have := HZ0.out; omega) (by simp [hDm]) (fun d h => by simp [h]))
    obtain ⟨x14, y14⟩ := htw.pt.one
    obtain ⟨x15, _⟩ := hp15.one
    obtain ⟨_, _, x7, _⟩ := htw.p7.three
    have l14b := htw.pt.lt
    have l15b := hp15.lt
    have l7b := htw.p7.lt
    have hxm : xs.length = lm.length := by rw [hxl]; exact GL.out.le
    have HXM := Lib.hid hxm
    clear htw hp15 hst hK
    by_cases ht0 : t = 0
    ·have hz1 : ((t : Int) == 1) = false := by simp [ht0]
     clear ht0 hxm hxl hDm
     gi_wp2_with fail
     all_goals exact ⟨by omega, _, Dm :: ms, ⟨rfl, rfl, rfl, rfl, rfl, rfl, rfl, rfl⟩, TN.out⟩
    ·have hz1 : ((t : Int) == 1) = true := by simp; omega
     have hne : ((xs.length : Int) != (lm.length : Int)) = false := by rw [hxm]; simp
     clear ht0 hxm hxl hDm
     gi_wp2_with fail
     all_goals exact ⟨by omega, _, Dm :: ms, ⟨rfl, rfl, rfl, rfl, rfl, rfl, rfl, rfl⟩, TN.out⟩
   case stop =>
    rintro Dm cd pre W' hDm ⟨rfl, htw, hp15, ht0⟩ hK
    have HK : Hid (W'.heap[Dm]? = some (.deferred (some []))) := hK
    have TB := Lib.hid htw; have PB := Lib.hid hp15
    have TN := Lib.hid (htw.turn GL.out hK (by have := HZ0.out; omega) (fun h => by have := (HMS.out _ h).2; have := HZ0.out; omega) (by simp [hDm]) (fun d h => by simp [h]))
    obtain ⟨x14, y14⟩ := htw.pt.one
    obtain ⟨x15, _⟩ := hp15.one
    obtain ⟨_, _, x7, _⟩ := htw.p7.three
    have l14b := htw.pt.lt
    have l15b := hp15.lt
    have l7b := htw.p7.lt
    have hz1 : ((t : Int) == 1) = false := by simp [ht0]
    clear htw hp15 hK ht0 hDm
    gi_wp2_with fail
    all_goals exact ⟨by omega, _, Dm :: ms, ⟨rfl, rfl, rfl, rfl, rfl, rfl, rfl, rfl⟩, TN.out⟩
end Go.Proofs.YtlmljhnogmfcfaaGreat.Iwc
