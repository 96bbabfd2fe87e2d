/- Proves that StorePlays returns true, if the law's known does. Conditions: as each theorem names them. -/
import Derived.Test.YtlmljhnogmfcfaaGreatRg
import Derived.Test.YtlmljhnogmfcfaaGreatEt
namespace Go.Proofs.YtlmljhnogmfcfaaGreat.Eu
open Go.RowKit Ap Mi Nw Rg Ea Eb Ec Ed Ee El Ep Er Es Et
open Ef (mV mA put3 put3_blk put3_only)
open Eg (zS)

section
variable {F G F' G' R : Nat → Prop} {w w' : World} {g : Nat} {s : Sx} {A : Option Addr} {c : Nat} {l : List Em}
theorem co_below (h : Co F G w g s A c l) (hb : Below w.heap.size w w') : Co F G w' g s A c l :=
 ⟨h.st.below hb,h.r.below hb (Nat.le_refl _),h.m,h.d,fun j hj => Nat.lt_of_lt_of_le (h.f j hj) hb.size,fun j hj => Nat.lt_of_lt_of_le (h.t j hj) hb.size,h.n⟩
theorem co_only (h : Co F G w g s A c l) (ho : Only F' w w') (hn : ∀ j,F' j → ¬ F j ∧ ¬ G j) : Co F G w' g s A c l :=
 ⟨h.st.only ho (fun j hf hq => (hn j hq).1 hf),h.r.only ho (fun j hq => (hn j hq).2),h.m,h.d,fun j hj => Nat.lt_of_lt_of_le (h.f j hj) ho.size,fun j hj => Nat.lt_of_lt_of_le (h.t j hj) ho.size,h.n⟩
structure Ro (N : Nat) (W : World) (b e : Int) (M : Nat) (F G : Nat → Prop) (w : World) (g : Nat) (s : Sx) (A : Option Addr) (c : Nat) (l : List Em) : Prop where
 co : Co F G w g s A c l
 sb : s.b = b
 se : s.e = e
 bl : Below N W w
 lf : ∀ j,F j → N ≤ j ∧ j ≠ M
 lg : ∀ j,G j → N ≤ j ∧ j ≠ M
 bm : Blk w M #[.int .i64 b,.int .i64 e,.slice A l.length c] 32
 mn : N ≤ M
theorem put3_n {v u : World} {r : Nat} (h : Only F v u) (hq : v.heap.size ≤ r) (a b c : Value) : Only F v (((u.setCell ⟨r,0,none⟩ a).setCell ⟨r,1,none⟩ b).setCell ⟨r,2,none⟩ c) := ((h.setCell (ad := ⟨r,0,none⟩) (Or.inr hq) a).setCell (ad := ⟨r,1,none⟩) (Or.inr hq) b).setCell (ad := ⟨r,2,none⟩) (Or.inr hq) c
open Classical in
set_option maxRecDepth 100000 in
set_option maxHeartbeats 4000000 in
theorem plays_any {b e : Int} {L : List Cl} (hR : ∀ j,R j → j < w.heap.size) (hA : RA R w A c L) (hkn : ∀ v,Calls Tryz.prog 11 #[] v (boolTo true v)) :
  Calls Tryz.prog 4 #[.int .i64 b,.int .i64 e,.slice A L.length c] w (boolTo true w) := by
 have HA := Lib.hid hA;have HR := Lib.hid hR;have HKN := Lib.hid hkn
 have hcm := Rs.max hA.r
 have hcl := Rs.le hA.r
 unfold maxLen at hcm
 have HFW := Lib.hid (few_any hA)
 have HBG := Lib.hid (budget_any b e w)
 unfold vPost at HFW
 unfold boolTo at HKN ⊢
 clear hA hR hkn
 by_cases hbu : bud b e
 case neg =>
  rw [decide_eq_false hbu] at HBG
  clear hbu HFW
  go_enter Tryz.func4,Tryz.ntmps4
  go_wp2_with fail
  refine HBG.out.mono ?_
  rintro q w1 ⟨rfl,rfl⟩
  go_wp2_with fail
  refine (HKN.out _).mono ?_
  rintro q w9 ⟨rfl,hb⟩
  have HB9 := Lib.hid (hb)
  clear hb
  go_wp2_with fail
  go_ret
  exact ⟨rfl,HB9.out⟩
 rw [decide_eq_true hbu] at HBG
 by_cases hfw : fewP L
 case neg =>
  rw [decide_eq_false hfw] at HFW
  clear hfw hbu
  go_enter Tryz.func4,Tryz.ntmps4
  go_wp2_with fail
  refine HBG.out.mono ?_
  rintro q w1 ⟨rfl,rfl⟩
  go_wp2_with fail
  refine HFW.out.mono ?_
  rintro q w2 ⟨rfl,hb2⟩
  have HB2 := Lib.hid hb2
  clear hb2
  go_wp2_with fail
  refine (HKN.out _).mono ?_
  rintro q w9 ⟨rfl,hb⟩
  have HB9 := Lib.hid (bstep HB2.out hb)
  clear hb
  go_wp2_with fail
  go_ret
  exact ⟨rfl,HB9.out⟩
 rw [decide_eq_true hfw] at HFW
 have HLT := Lib.hid hfw.2
 have hl40 := hfw.1
 clear hfw
 go_enter Tryz.func4,Tryz.ntmps4
 go_wp2_with fail
 refine HBG.out.mono ?_
 rintro q w1 ⟨rfl,rfl⟩
 go_wp2_with fail
 refine HFW.out.mono ?_
 rintro q w2 ⟨rfl,hb2⟩
 have HB2 := Lib.hid hb2
 have HNW := Lib.hid (new_yes hbu 7 (by omega) w2)
 unfold newPost at HNW
 clear hb2 HFW HBG
 go_wp2_with fail
 refine HNW.out.mono ?_
 rintro q w3 ⟨g,F0,rfl,hst,hf0,hb3⟩
 have HST := Lib.hid hst.tight;have HF0 := Lib.hid hf0;have HB3 := Lib.hid (bstep HB2.out hb3)
 have hz3 : w1.heap.size ≤ w3.heap.size := HB3.out.size
 have hzz : w1.heap.size ≤ w2.heap.size := HB2.out.size
 clear hst hf0 hb3 HNW
 obtain ⟨v3,hv3⟩ : ∃ v3,v3 = w3.alloc (.cells #[.int .i64 b,.int .i64 e,.slice none 0 0] 32) := ⟨_,rfl⟩
 obtain ⟨M,hM⟩ : ∃ M,M = w3.heap.size := ⟨_,rfl⟩
 have HRO : Hid (Ro w1.heap.size w1 b e M (fun j => F0 j ∧ j < w3.heap.size) (fun _ => False) v3 g ⟨b,e,[]⟩ none 0 []) := by
  have b3 : Below w3.heap.size w3 v3 := by rw [hv3];exact bnew _ _
  refine ⟨⟨HST.out.below b3,RL.nil,rfl,fun _ _ h => h,fun j hj => Nat.lt_of_lt_of_le hj.2 b3.size,fun _ h => h.elim,Nat.zero_le _⟩,rfl,rfl,bstep HB3.out b3,fun j hj => ⟨by have := HF0.out j hj.1;omega,by have := hj.2;omega⟩,fun _ h => h.elim,?_,by omega⟩
  rw [hv3,hM];exact Blk.new _ _ _
 go_upto_region 5 with fail
 rw [← hv3,← hM]
 clear hv3 hM hbu
 go_wp2_with fail
 have HHL := Lib.hid hl40
 go_loopw [7,10] (fun pv i wr => ∃ (K g : Nat) (s : Sx) (F G : Nat → Prop) (A2 : Option Addr) (c2 : Nat) (l2 : List Em),K ≤ L.length ∧ pv = .pointer (some ⟨g,0,none⟩) ∧ i = .int .i64 (K : Int) ∧ Ro w1.heap.size w1 b e M F G wr g s A2 c2 l2 ∧ l2.length ≤ K) (fun _ i _ => L.length - (intOf i).toNat)
 case atStart => exact ⟨0,g,⟨b,e,[]⟩,_,_,none,0,[],Nat.zero_le _,rfl,rfl,HRO.out,Nat.zero_le _⟩
 case round =>
  obtain ⟨K,g,s,F,G,A2,c2,l2,hK,rfl,rfl,hro,hll⟩ := hrel
  have RO := Lib.hid hro
  have hNM := hro.mn
  have hrw := hro.bm.lt
  have HLL := Lib.hid hll
  have hbl := hro.bl.size
  clear hro hll HRO
  by_cases hlt : K < L.length
  ·have j1 : (K : Int) < (L.length : Int) := by omega
   obtain ⟨y,hy⟩ : ∃ y,y = L[K] := ⟨_,rfl⟩
   have hat := (HA.out.below RO.out.bl).at_ hlt
   rw [← hy] at hat
   obtain ⟨tb,to_,eA,ltb,a0,a1,a2,a3,a4,a5,a6,a7⟩ := hat
   have hRb : R tb := HA.out.g (fun e => by rw [e] at hlt;simp at hlt) _ eA
   have HTB : Hid (tb < w1.heap.size) := HR.out tb hRb
   have HYL : Hid (lgt y.x.e) := by show lgt _;rw [hy];exact HLT.out _ (List.getElem_mem hlt)
   have HYX : Hid (RX R wr y.x) := by show RX _ _ _;rw [hy];exact (HA.out.below RO.out.bl).e _ (List.getElem_mem hlt)
   have HYT : Hid (0 ≤ y.t ∧ y.t < 18446744073709551616) := by show _ ∧ _;rw [hy];exact HA.out.t _ (List.getElem_mem hlt)
   have HCO := Lib.hid RO.out.co
   have HFN : Hid (∀ j,F j → ¬ R j) := fun j hf hr => by have := (RO.out.lf j hf).1;have := HR.out j hr;omega
   have HSTP : Hid (∀ v,Below wr.heap.size wr v → Calls Tryz.prog 14 #[.pointer (some ⟨g,0,none⟩),.agg #[.int .i64 b,.int .i64 e,.slice A2 l2.length c2],.agg #[.int .i64 y.n,.string y.x.e.k,.slice y.x.A y.x.e.v.length y.x.a,.slice y.x.B y.x.e.t.length y.x.b,.int .u64 y.x.e.d,.int .u64 y.x.e.n,.int .u64 y.x.e.s,.int .u64 y.t]] v (fun q u => ∃ g F' G' A c l,q = .returned (.tuple #[.pointer (some ⟨g,0,none⟩),.agg #[.int .i64 b,.int .i64 e,.slice A l.length c],.bool true]) ∧ Co F' G' u g (actT y.n y.x.e y.t s) A c l ∧ Only F v u ∧ (∀ j,F' j → More F v j) ∧ (∀ j,G' j → More G v j))) := fun v hv => by
    have k := step_any (co_below HCO.out hv) y.n y.x y.t (fun u hu => ((HYX.out.only (Only.of_below hv (Nat.le_refl _) (fun _ => False)) (fun _ h => h.elim)).only hu HFN.out).re HYL.out) HYT.out (by have := HLL.out;omega)
    unfold stepsPost mV actV at k
    rw [RO.out.sb,RO.out.se] at k
    exact k
   subst eA
   have HY := Lib.hid hy
   clear hy hRb a0 a1 a2 a3 a4 a5 a6 a7
   have HHA : Hid (∀ v,Only F wr v → Rs v 8 (some ⟨tb,to_,none⟩) L.length c (clL L) ∧ ∀ i,i < 8 → v.cell? ⟨tb,to_ + K * 8 + i,none⟩ = (clC y)[i]?) := fun v hv => by
    have k := (HA.out.below RO.out.bl).only hv HFN.out
    refine ⟨k.r,fun i hi => ?_⟩
    have gk := clL_get L K hlt i hi
    rw [← HY.out] at gk
    have hi8 : i < (clC y).length := by simpa [clC] using hi
    rw [List.getElem?_eq_getElem hi8] at gk ⊢
    obtain ⟨b9,o9,e9,_,c9⟩ := k.r.rd.at_ gk
    injection e9 with e9;injection e9 with e91 e92;subst e91;subst e92
    rw [Nat.add_assoc];exact c9
   have a0 : ∀ v,Only F wr v → v.cell? ⟨tb,to_ + K * 8,none⟩ = some (.int .i64 y.n) := fun v hv => by have := (HHA.out v hv).2 0 (by omega);exact this
   have a1 : ∀ v,Only F wr v → v.cell? ⟨tb,to_ + K * 8 + 1,none⟩ = some (.string y.x.e.k) := fun v hv => by have := (HHA.out v hv).2 1 (by omega);exact this
   have a2 : ∀ v,Only F wr v → v.cell? ⟨tb,to_ + K * 8 + 2,none⟩ = some (.slice y.x.A y.x.e.v.length y.x.a) := fun v hv => by have := (HHA.out v hv).2 2 (by omega);exact this
   have a3 : ∀ v,Only F wr v → v.cell? ⟨tb,to_ + K * 8 + 3,none⟩ = some (.slice y.x.B y.x.e.t.length y.x.b) := fun v hv => by have := (HHA.out v hv).2 3 (by omega);exact this
   have a4 : ∀ v,Only F wr v → v.cell? ⟨tb,to_ + K * 8 + 4,none⟩ = some (.int .u64 y.x.e.d) := fun v hv => by have := (HHA.out v hv).2 4 (by omega);exact this
   have a5 : ∀ v,Only F wr v → v.cell? ⟨tb,to_ + K * 8 + 5,none⟩ = some (.int .u64 y.x.e.n) := fun v hv => by have := (HHA.out v hv).2 5 (by omega);exact this
   have a6 : ∀ v,Only F wr v → v.cell? ⟨tb,to_ + K * 8 + 6,none⟩ = some (.int .u64 y.x.e.s) := fun v hv => by have := (HHA.out v hv).2 6 (by omega);exact this
   have a7 : ∀ v,Only F wr v → v.cell? ⟨tb,to_ + K * 8 + 7,none⟩ = some (.int .u64 y.t) := fun v hv => by have := (HHA.out v hv).2 7 (by omega);exact this
   have ltb2 : tb < wr.heap.size := ltb
   have KM : ∀ v,Only F wr v → Blk v M #[.int .i64 b,.int .i64 e,.slice A2 l2.length c2] 32 := fun v hv => RO.out.bm.only hv (fun hf => (RO.out.lf M hf).2 rfl)
   have m0 : ∀ v,Only F wr v → v.cell? ⟨M,0,none⟩ = some (.int .i64 b) := fun v hv => by have := (KM v hv).cell 0;exact this
   have m1 : ∀ v,Only F wr v → v.cell? ⟨M,1,none⟩ = some (.int .i64 e) := fun v hv => by have := (KM v hv).cell 1;exact this
   have m2 : ∀ v,Only F wr v → v.cell? ⟨M,2,none⟩ = some (.slice A2 l2.length c2) := fun v hv => by have := (KM v hv).cell 2;exact this
   clear KM
   obtain ⟨v5,hv5⟩ : ∃ v5,v5 = wr.drew := ⟨_,rfl⟩
   have HB5 : Hid (Below wr.heap.size wr v5) := by show Below _ _ _;rw [hv5];exact (Below.refl _ _).drew
   have D5 : Only F wr v5 := Only.of_below HB5.out (Nat.le_refl _) _
   have HZ5 : Hid (v5.heap.size = wr.heap.size) := by show _ = _;rw [hv5];rfl
   go_upto_region 10 with fail
   refine wp_region_noPanic ?_
   refine wp_region_held_drew (S := fun v => Only F wr v) (by kernel_rfl) (by rw [← hv5];exact D5) (fun hHeld => ?_)
   rw [← hv5] at hHeld ⊢
   clear hv5
   refine Rg.th 0 (some 46) (v := ?_) rfl (by kernel_rfl) (fun _ _ _ h => h) (by rfl) (by assumption) ?_ ?_
   rotate_left
   ·intro w h;go_simp;first|done|with_reducible rfl
   try simp only [Ap.sc]
   refine Rg.th 1 (some 47) (v := ?_) rfl (by kernel_rfl) (fun _ _ _ h => h) (by rfl) (by assumption) ?_ ?_
   rotate_left
   ·intro w h;go_simp;first|done|with_reducible rfl
   try simp only [Ap.sc]
   refine Rg.th 2 (some 48) (v := ?_) rfl (by kernel_rfl) (fun _ _ _ h => h) (by rfl) (by assumption) ?_ ?_
   rotate_left
   ·intro w h;go_simp;first|done|with_reducible rfl
   try simp only [Ap.sc]
   refine Rg.th 3 (some 49) (v := ?_) rfl (by kernel_rfl) (fun _ _ _ h => h) (by rfl) (by assumption) ?_ ?_
   rotate_left
   ·intro w h;go_simp;first|done|with_reducible rfl
   try simp only [Ap.sc]
   refine Rg.th 4 (some 50) (v := ?_) rfl (by kernel_rfl) (fun _ _ _ h => h) (by rfl) (by assumption) ?_ ?_
   rotate_left
   ·intro w h;go_simp;first|done|with_reducible rfl
   try simp only [Ap.sc]
   refine Rg.th 5 (some 51) (v := ?_) rfl (by kernel_rfl) (fun _ _ _ h => h) (by rfl) (by assumption) ?_ ?_
   rotate_left
   ·intro w h;go_simp;first|done|with_reducible rfl
   try simp only [Ap.sc]
   refine wpAnyH_ready (rs := [6,11]) (by kernel_rfl) (by simp) ?_
   refine AllReadyH.cons (o := ⟨some 52,_,_,_,_,_⟩) rfl (fun K hK => ?_) (AllReadyH.cons (o := ⟨some 12,_,_,_,_,_⟩) rfl (fun K hK => ?_) AllReadyH.nil)
   ·go_simp
    with_reducible refine (HSTP.out _ HB5.out).mono ?_
    rintro d u6 ⟨g1,F1,G1,A3,c3,l3,rfl,hco,ho,hf,hg⟩
    have hcm3 := Rs.max hco.r.r
    unfold maxLen at hcm3
    have KU : Only F wr u6 := (Only.of_below HB5.out (Nat.le_refl _) _).trans (ho.mono (fun j _ h => Or.inl h))
    have HCU := Lib.hid hco;have HF1 := Lib.hid hf;have HG1 := Lib.hid hg;have HO1 := Lib.hid ho
    clear hco ho hf hg
    go_simp
    refine hK.out _ _ (KU) (fun hHeld => ?_)
    clear hK K
    try simp only [Ap.sc]
    refine Rg.th 7 (some 45) (v := ?_) rfl (by kernel_rfl) (fun _ _ _ h => h) (by rfl) (by assumption) ?_ ?_
    rotate_left
    ·intro w h;go_simp;first|done|with_reducible rfl
    try simp only [Ap.sc]
    refine Rg.th 8 (some 53) (v := ?_) rfl (by kernel_rfl) (fun _ _ _ h => h) (by rfl) (by assumption) ?_ ?_
    rotate_left
    ·intro w h;go_simp;first|done|with_reducible rfl
    try simp only [Ap.sc]
    refine Rg.th 9 (some 54) (v := ?_) rfl (by kernel_rfl) (fun _ _ _ h => h) (by rfl) (by assumption) ?_ ?_
    rotate_left
    ·intro w h;go_simp;first|done|with_reducible rfl
    try simp only [Ap.sc]
    refine Rg.th 10 (some 55) (v := ?_) rfl (by kernel_rfl) (fun _ _ _ h => h) (by rfl) (by assumption) ?_ ?_
    rotate_left
    ·intro w h;go_simp;first|done|with_reducible rfl
    try simp only [Ap.sc]
    refine wpAnyH_ready (rs := [11]) (by kernel_rfl) (by simp) ?_
    refine AllReadyH.cons (o := ⟨some 12,_,_,_,_,_⟩) rfl (fun K hK => ?_) AllReadyH.nil
    obtain ⟨z8,hz8⟩ : ∃ z8,z8 = u6.alloc (.cells #[.int .i64 0,.int .i64 0,.slice none 0 0] 32) := ⟨_,rfl⟩
    obtain ⟨E,hE⟩ : ∃ E,E = u6.heap.size := ⟨_,rfl⟩
    have HB8 : Hid (Below u6.heap.size u6 z8) := by show Below _ _ _;rw [hz8];exact bnew _ _
    have HEZ : Hid (Blk z8 E zS 32) := by show Blk _ _ _ _;rw [hz8,hE];exact Blk.new _ _ _
    have KZ : Only F wr z8 := KU.trans (Only.of_below HB8.out (Nat.le_refl _) _)
    have HCZ := Lib.hid (co_below HCU.out HB8.out)
    have HNE : Hid ((¬ F1 E ∧ ¬ G1 E) ∧ wr.heap.size ≤ E) := by
     refine ⟨⟨fun h => ?_,fun h => ?_⟩,by have := KU.size;omega⟩
     ·have := HCU.out.f _ h;omega
     ·have := HCU.out.t _ h;omega
    have HFZ : Hid (∀ j,F1 j → F j ∨ wr.heap.size ≤ j) := fun j hj => by
     rcases HF1.out j hj with k | k
     ·exact Or.inl k
     ·exact Or.inr (by have := HB5.out.size;omega)
    have HGZ : Hid (∀ j,G1 j → G j ∨ wr.heap.size ≤ j) := fun j hj => by
     rcases HG1.out j hj with k | k
     ·exact Or.inl k
     ·exact Or.inr (by have := HB5.out.size;omega)
    go_simp
    rw [← hz8,← hE]
    clear hz8 hE
    refine hK.out _ _ (KZ) (fun hHeld => ?_)
    clear hK K
    try simp only [Ap.sc]
    refine Rg.th 12 (some 11) (v := ?_) rfl (by kernel_rfl) (fun _ _ _ h => h) (by rfl) (by assumption) ?_ ?_
    rotate_left
    ·intro w h;go_simp;first|done|with_reducible rfl
    try simp only [Ap.sc]
    refine wpAnyH_ready (rs := [13]) (by kernel_rfl) (by simp) ?_
    refine AllReadyH.cons (o := ⟨none,_,_,_,_,_⟩) rfl (fun K hK => ?_) AllReadyH.nil
    go_simp
    have HRV := HEZ.out
    unfold zS at HRV
    obtain ⟨r0,r1,r2,rf0,rf1,rf2⟩ := HRV.three
    have lr := HRV.lt
    have hne := HNE.out.2
    clear HRV
    go_simp
    refine hK.out _ _ (put3_n KZ HNE.out.2 _ _ _) (fun hHeld => ?_)
    clear hK K
    try simp only [Ap.sc]
    refine Rg.th 14 (some 13) (v := ?_) rfl (by kernel_rfl) (fun _ _ _ h => h) (by rfl) (by assumption) ?_ ?_
    rotate_left
    ·intro w h;go_simp;first|done|with_reducible rfl
    try simp only [Ap.sc]
    refine wpAnyH_done (by kernel_rfl) ?_ _
    refine NoPanic.normal ?_
    obtain ⟨w9,hw9⟩ : ∃ w9,w9 = put3 z8 E (.int .i64 b) (.int .i64 e) (.slice A3 l3.length c3) := ⟨_,rfl⟩
    have HO9 : Hid (Only (fun j => j = E) z8 w9) := by show Only _ _ _;rw [hw9];exact put3_only _ _ _ _ _
    have HE9 : Hid (Blk w9 E #[.int .i64 b,.int .i64 e,.slice A3 l3.length c3] 32) := by show Blk _ _ _ _;rw [hw9];exact put3_blk HEZ.out _ _ _
    have HC9 : Hid (Co F1 G1 w9 g1 (actT y.n y.x.e y.t s) A3 c3 l3) := co_only HCZ.out HO9.out (fun j hj => by rw [hj];exact HNE.out.1)
    have K9 : Hid (Only F wr w9) := KZ.trans (HO9.out.mono (fun j _ h => Or.inr (by rw [h];exact HNE.out.2)))
    unfold put3 at hw9
    rw [← hw9]
    clear hw9 r0 r1 r2 rf0 rf1 rf2 lr
    have HIS := Lib.hid (Go.Proofs.YtlmljhnogmfcfaaGreat.Eq.is_any HC9.out.st HC9.out.r HC9.out.m HC9.out.n)
    unfold mV boolTo at HIS
    rw [(actT_b y.n y.x.e y.t s).1,(actT_b y.n y.x.e y.t s).2,RO.out.sb,RO.out.se] at HIS
    obtain ⟨e0,e1,e2,_⟩ := HE9.out.three
    have le := HE9.out.lt
    go_wp2_with fail
    refine HIS.out.mono ?_
    rintro q w10 ⟨rfl,hb10⟩
    have HC10 := Lib.hid (co_below HC9.out hb10)
    have HE10 := Lib.hid (HE9.out.below hb10 HE9.out.lt)
    have K10 : Hid (Only F wr w10) := K9.out.trans (Only.of_below hb10 (Nat.le_refl _) _)
    clear hb10 HIS e0 e1 e2 le
    have HM10 : Hid (Blk w10 M #[.int .i64 b,.int .i64 e,.slice A2 l2.length c2] 32) := RO.out.bm.only K10.out (fun hf => (RO.out.lf M hf).2 rfl)
    have HEM : Hid (M < wr.heap.size) := hrw
    have KE : ∀ v,Only (fun j => j = M) w10 v → Blk v E #[.int .i64 b,.int .i64 e,.slice A3 l3.length c3] 32 := fun v hv => HE10.out.only hv (fun hj => by have := HNE.out.2;have := HEM.out;omega)
    have e0 : ∀ v,Only (fun j => j = M) w10 v → v.cell? ⟨E,0,none⟩ = some (.int .i64 b) := fun v hv => by have := (KE v hv).cell 0;exact this
    have e1 : ∀ v,Only (fun j => j = M) w10 v → v.cell? ⟨E,1,none⟩ = some (.int .i64 e) := fun v hv => by have := (KE v hv).cell 1;exact this
    have e2 : ∀ v,Only (fun j => j = M) w10 v → v.cell? ⟨E,2,none⟩ = some (.slice A3 l3.length c3) := fun v hv => by have := (KE v hv).cell 2;exact this
    clear KE
    have le : E < w10.heap.size := HE10.out.lt
    obtain ⟨v11,hv11⟩ : ∃ v11,v11 = w10.drew := ⟨_,rfl⟩
    have D11 : Hid (Only (fun _ => False) w10 v11) := by show Only _ _ _;rw [hv11];exact (Only.refl _ _).drew
    have HM11 := Lib.hid (HM10.out.only D11.out (fun h => h))
    have K11 : Only (fun j => j = M) w10 v11 := D11.out.mono (fun _ _ h => h.elim)
    clear a0 a1 a2 a3 a4 a5 a6 a7 m0 m1 m2
    go_upto_region 13 with fail
    refine wp_region_noPanic ?_
    refine wp_region_held_drew (S := fun v => Only (fun j => j = M) w10 v) (by kernel_rfl) (by rw [← hv11];exact K11) (fun hHeld => ?_)
    rw [← hv11] at hHeld ⊢
    clear hv11
    refine Rg.th 0 (some 68) (v := ?_) rfl (by kernel_rfl) (fun _ _ _ h => h) (by rfl) (by assumption) ?_ ?_
    rotate_left
    ·intro w h;go_simp;first|done|with_reducible rfl
    try simp only [Ap.sc]
    refine Rg.th 1 (some 69) (v := ?_) rfl (by kernel_rfl) (fun _ _ _ h => h) (by rfl) (by assumption) ?_ ?_
    rotate_left
    ·intro w h;go_simp;first|done|with_reducible rfl
    try simp only [Ap.sc]
    refine Rg.th 2 (some 7) (v := ?_) rfl (by kernel_rfl) (fun _ _ _ h => h) (by rfl) (by assumption) ?_ ?_
    rotate_left
    ·intro w h;go_simp;first|done|with_reducible rfl
    try simp only [Ap.sc]
    refine wpAnyH_ready (rs := [3]) (by kernel_rfl) (by simp) ?_
    refine AllReadyH.cons (o := ⟨none,_,_,_,_,_⟩) rfl (fun K hK => ?_) AllReadyH.nil
    go_simp
    have HRV := HM11.out
    obtain ⟨r0,r1,r2,rf0,rf1,rf2⟩ := HRV.three
    have lr := HRV.lt
    clear HRV
    go_simp
    refine hK.out _ _ (only3 (r := M) (Q := fun j => j = M) K11 rfl _ _ _) (fun hHeld => ?_)
    clear hK K
    try simp only [Ap.sc]
    refine wpAnyH_done (by kernel_rfl) ?_ _
    refine NoPanic.normal ?_
    obtain ⟨w12,hw12⟩ : ∃ w12,w12 = put3 v11 M (.int .i64 b) (.int .i64 e) (.slice A3 l3.length c3) := ⟨_,rfl⟩
    have HO12 : Hid (Only (fun j => j = M) v11 w12) := by show Only _ _ _;rw [hw12];exact put3_only _ _ _ _ _
    have HM12 : Hid (Blk w12 M #[.int .i64 b,.int .i64 e,.slice A3 l3.length c3] 32) := by show Blk _ _ _ _;rw [hw12];exact put3_blk HM11.out _ _ _
    unfold put3 at hw12
    rw [← hw12]
    clear hw12 r0 r1 r2 rf0 rf1 rf2 lr e0 e1 e2 le
    have HRO9 : Hid (Ro w1.heap.size w1 b e M F1 G1 w12 g1 (actT y.n y.x.e y.t s) A3 c3 l3) := by
     have hem := HEM.out
     have lf : ∀ j,F1 j → w1.heap.size ≤ j ∧ j ≠ M := fun j hj => by
      rcases HFZ.out j hj with k | k
      ·exact RO.out.lf j k
      ·exact ⟨by omega,by omega⟩
     have lg : ∀ j,G1 j → w1.heap.size ≤ j ∧ j ≠ M := fun j hj => by
      rcases HGZ.out j hj with k | k
      ·exact RO.out.lg j k
      ·exact ⟨by omega,by omega⟩
     have ho12 : Only (fun j => j = M) w10 w12 := K11.trans (HO12.out.mono (fun j _ h => Or.inl h))
     have hb10 : Below w1.heap.size w1 w10 := RO.out.bl.trans (K10.out.below (fun j hj => (RO.out.lf j hj).1) hbl)
     exact ⟨co_only HC10.out ho12 (fun j hj => by rw [hj];exact ⟨fun h => (lf M h).2 rfl,fun h => (lg M h).2 rfl⟩),(actT_b _ _ _ _).1.trans RO.out.sb,(actT_b _ _ _ _).2.trans RO.out.se,hb10.trans (ho12.below (fun j hj => by rw [hj];exact hNM) hb10.size),lf,lg,HM12.out,hNM⟩
    have HLN : Hid (l3.length ≤ K + 1) := by
     have h1 := actT_len y.n y.x.e y.t s
     have h2 : l3.length = (actT y.n y.x.e y.t s).l.length := by rw [← HC9.out.m];simp
     have h3 : l2.length = s.l.length := by rw [← RO.out.co.m];simp
     have h4 := HLL.out
     show _ ≤ _
     omega
    go_wp2_with fail
    go_roundw
    case rel => exact ⟨K + 1,g1,_,F1,G1,A3,c3,l3,by omega,rfl,by go_num,HRO9.out,HLN.out⟩
    case measure => simp [intOf];omega
   ·obtain ⟨z7,hz7⟩ : ∃ z7,z7 = v5.alloc (.cells #[.int .i64 0,.int .i64 0,.slice none 0 0] 32) := ⟨_,rfl⟩
    obtain ⟨E,hE⟩ : ∃ E,E = v5.heap.size := ⟨_,rfl⟩
    have HB7 : Hid (Below wr.heap.size wr z7) := by show Below _ _ _;rw [hz7];exact HB5.out.trans ((bnew _ _).mono HB5.out.size)
    have HE7 : Hid (Blk z7 E zS 32) := by show Blk _ _ _ _;rw [hz7,hE];exact Blk.new _ _ _
    have HZ7 : Hid (z7.heap.size = E + 1) := by show _ = _;rw [hz7,hE];simp
    have HEL : Hid (wr.heap.size ≤ E ∧ E ≤ wr.heap.size) := by show _ ∧ _;have := HZ5.out;omega
    have K7 : Only F wr z7 := Only.of_below HB7.out (Nat.le_refl _) _
    go_simp
    rw [← hz7,← hE]
    clear hz7 hE
    refine hK.out _ _ (K7) (fun hHeld => ?_)
    clear hK K
    try simp only [Ap.sc]
    refine wpAnyH_ready (rs := [6]) (by kernel_rfl) (by simp) ?_
    refine AllReadyH.cons (o := ⟨some 52,_,_,_,_,_⟩) rfl (fun K hK => ?_) AllReadyH.nil
    go_simp
    with_reducible refine (HSTP.out _ HB7.out).mono ?_
    rintro d z8 ⟨g1,F1,G1,A3,c3,l3,rfl,hco,ho,hf,hg⟩
    have hcm3 := Rs.max hco.r.r
    unfold maxLen at hcm3
    have KZ : Only F wr z8 := (Only.of_below HB7.out (Nat.le_refl _) _).trans (ho.mono (fun j _ h => Or.inl h))
    have HCZ := Lib.hid hco
    have HEZ : Hid (Blk z8 E zS 32) := HE7.out.only ho (fun hf => by have := HCO.out.f _ hf;have := HEL.out;omega)
    have HNE : Hid ((¬ F1 E ∧ ¬ G1 E) ∧ wr.heap.size ≤ E) := by
     have h7 := HZ7.out;have hel := HEL.out
     refine ⟨⟨fun h => ?_,fun h => ?_⟩,hel.1⟩
     ·rcases hf _ h with k | k
      ·have := HCO.out.f _ k;omega
      ·omega
     ·rcases hg _ h with k | k
      ·have := HCO.out.t _ k;omega
      ·omega
    have HFZ : Hid (∀ j,F1 j → F j ∨ wr.heap.size ≤ j) := fun j hj => by
     rcases hf j hj with k | k
     ·exact Or.inl k
     ·exact Or.inr (by have := HB7.out.size;omega)
    have HGZ : Hid (∀ j,G1 j → G j ∨ wr.heap.size ≤ j) := fun j hj => by
     rcases hg j hj with k | k
     ·exact Or.inl k
     ·exact Or.inr (by have := HB7.out.size;omega)
    clear hco ho hf hg
    go_simp
    refine hK.out _ _ (KZ) (fun hHeld => ?_)
    clear hK K
    try simp only [Ap.sc]
    refine Rg.th 7 (some 45) (v := ?_) rfl (by kernel_rfl) (fun _ _ _ h => h) (by rfl) (by assumption) ?_ ?_
    rotate_left
    ·intro w h;go_simp;first|done|with_reducible rfl
    try simp only [Ap.sc]
    refine Rg.th 8 (some 53) (v := ?_) rfl (by kernel_rfl) (fun _ _ _ h => h) (by rfl) (by assumption) ?_ ?_
    rotate_left
    ·intro w h;go_simp;first|done|with_reducible rfl
    try simp only [Ap.sc]
    refine Rg.th 9 (some 54) (v := ?_) rfl (by kernel_rfl) (fun _ _ _ h => h) (by rfl) (by assumption) ?_ ?_
    rotate_left
    ·intro w h;go_simp;first|done|with_reducible rfl
    try simp only [Ap.sc]
    refine Rg.th 10 (some 55) (v := ?_) rfl (by kernel_rfl) (fun _ _ _ h => h) (by rfl) (by assumption) ?_ ?_
    rotate_left
    ·intro w h;go_simp;first|done|with_reducible rfl
    try simp only [Ap.sc]
    refine Rg.th 12 (some 11) (v := ?_) rfl (by kernel_rfl) (fun _ _ _ h => h) (by rfl) (by assumption) ?_ ?_
    rotate_left
    ·intro w h;go_simp;first|done|with_reducible rfl
    try simp only [Ap.sc]
    refine wpAnyH_ready (rs := [13]) (by kernel_rfl) (by simp) ?_
    refine AllReadyH.cons (o := ⟨none,_,_,_,_,_⟩) rfl (fun K hK => ?_) AllReadyH.nil
    go_simp
    have HRV := HEZ.out
    unfold zS at HRV
    obtain ⟨r0,r1,r2,rf0,rf1,rf2⟩ := HRV.three
    have lr := HRV.lt
    have hne := HNE.out.2
    clear HRV
    go_simp
    refine hK.out _ _ (put3_n KZ HNE.out.2 _ _ _) (fun hHeld => ?_)
    clear hK K
    try simp only [Ap.sc]
    refine Rg.th 14 (some 13) (v := ?_) rfl (by kernel_rfl) (fun _ _ _ h => h) (by rfl) (by assumption) ?_ ?_
    rotate_left
    ·intro w h;go_simp;first|done|with_reducible rfl
    try simp only [Ap.sc]
    refine wpAnyH_done (by kernel_rfl) ?_ _
    refine NoPanic.normal ?_
    obtain ⟨w9,hw9⟩ : ∃ w9,w9 = put3 z8 E (.int .i64 b) (.int .i64 e) (.slice A3 l3.length c3) := ⟨_,rfl⟩
    have HO9 : Hid (Only (fun j => j = E) z8 w9) := by show Only _ _ _;rw [hw9];exact put3_only _ _ _ _ _
    have HE9 : Hid (Blk w9 E #[.int .i64 b,.int .i64 e,.slice A3 l3.length c3] 32) := by show Blk _ _ _ _;rw [hw9];exact put3_blk HEZ.out _ _ _
    have HC9 : Hid (Co F1 G1 w9 g1 (actT y.n y.x.e y.t s) A3 c3 l3) := co_only HCZ.out HO9.out (fun j hj => by rw [hj];exact HNE.out.1)
    have K9 : Hid (Only F wr w9) := KZ.trans (HO9.out.mono (fun j _ h => Or.inr (by rw [h];exact HNE.out.2)))
    unfold put3 at hw9
    rw [← hw9]
    clear hw9 r0 r1 r2 rf0 rf1 rf2 lr
    have HIS := Lib.hid (Go.Proofs.YtlmljhnogmfcfaaGreat.Eq.is_any HC9.out.st HC9.out.r HC9.out.m HC9.out.n)
    unfold mV boolTo at HIS
    rw [(actT_b y.n y.x.e y.t s).1,(actT_b y.n y.x.e y.t s).2,RO.out.sb,RO.out.se] at HIS
    obtain ⟨e0,e1,e2,_⟩ := HE9.out.three
    have le := HE9.out.lt
    go_wp2_with fail
    refine HIS.out.mono ?_
    rintro q w10 ⟨rfl,hb10⟩
    have HC10 := Lib.hid (co_below HC9.out hb10)
    have HE10 := Lib.hid (HE9.out.below hb10 HE9.out.lt)
    have K10 : Hid (Only F wr w10) := K9.out.trans (Only.of_below hb10 (Nat.le_refl _) _)
    clear hb10 HIS e0 e1 e2 le
    have HM10 : Hid (Blk w10 M #[.int .i64 b,.int .i64 e,.slice A2 l2.length c2] 32) := RO.out.bm.only K10.out (fun hf => (RO.out.lf M hf).2 rfl)
    have HEM : Hid (M < wr.heap.size) := hrw
    have KE : ∀ v,Only (fun j => j = M) w10 v → Blk v E #[.int .i64 b,.int .i64 e,.slice A3 l3.length c3] 32 := fun v hv => HE10.out.only hv (fun hj => by have := HNE.out.2;have := HEM.out;omega)
    have e0 : ∀ v,Only (fun j => j = M) w10 v → v.cell? ⟨E,0,none⟩ = some (.int .i64 b) := fun v hv => by have := (KE v hv).cell 0;exact this
    have e1 : ∀ v,Only (fun j => j = M) w10 v → v.cell? ⟨E,1,none⟩ = some (.int .i64 e) := fun v hv => by have := (KE v hv).cell 1;exact this
    have e2 : ∀ v,Only (fun j => j = M) w10 v → v.cell? ⟨E,2,none⟩ = some (.slice A3 l3.length c3) := fun v hv => by have := (KE v hv).cell 2;exact this
    clear KE
    have le : E < w10.heap.size := HE10.out.lt
    obtain ⟨v11,hv11⟩ : ∃ v11,v11 = w10.drew := ⟨_,rfl⟩
    have D11 : Hid (Only (fun _ => False) w10 v11) := by show Only _ _ _;rw [hv11];exact (Only.refl _ _).drew
    have HM11 := Lib.hid (HM10.out.only D11.out (fun h => h))
    have K11 : Only (fun j => j = M) w10 v11 := D11.out.mono (fun _ _ h => h.elim)
    clear a0 a1 a2 a3 a4 a5 a6 a7 m0 m1 m2
    go_upto_region 13 with fail
    refine wp_region_noPanic ?_
    refine wp_region_held_drew (S := fun v => Only (fun j => j = M) w10 v) (by kernel_rfl) (by rw [← hv11];exact K11) (fun hHeld => ?_)
    rw [← hv11] at hHeld ⊢
    clear hv11
    refine Rg.th 0 (some 68) (v := ?_) rfl (by kernel_rfl) (fun _ _ _ h => h) (by rfl) (by assumption) ?_ ?_
    rotate_left
    ·intro w h;go_simp;first|done|with_reducible rfl
    try simp only [Ap.sc]
    refine Rg.th 1 (some 69) (v := ?_) rfl (by kernel_rfl) (fun _ _ _ h => h) (by rfl) (by assumption) ?_ ?_
    rotate_left
    ·intro w h;go_simp;first|done|with_reducible rfl
    try simp only [Ap.sc]
    refine Rg.th 2 (some 7) (v := ?_) rfl (by kernel_rfl) (fun _ _ _ h => h) (by rfl) (by assumption) ?_ ?_
    rotate_left
    ·intro w h;go_simp;first|done|with_reducible rfl
    try simp only [Ap.sc]
    refine wpAnyH_ready (rs := [3]) (by kernel_rfl) (by simp) ?_
    refine AllReadyH.cons (o := ⟨none,_,_,_,_,_⟩) rfl (fun K hK => ?_) AllReadyH.nil
    go_simp
    have HRV := HM11.out
    obtain ⟨r0,r1,r2,rf0,rf1,rf2⟩ := HRV.three
    have lr := HRV.lt
    clear HRV
    go_simp
    refine hK.out _ _ (only3 (r := M) (Q := fun j => j = M) K11 rfl _ _ _) (fun hHeld => ?_)
    clear hK K
    try simp only [Ap.sc]
    refine wpAnyH_done (by kernel_rfl) ?_ _
    refine NoPanic.normal ?_
    obtain ⟨w12,hw12⟩ : ∃ w12,w12 = put3 v11 M (.int .i64 b) (.int .i64 e) (.slice A3 l3.length c3) := ⟨_,rfl⟩
    have HO12 : Hid (Only (fun j => j = M) v11 w12) := by show Only _ _ _;rw [hw12];exact put3_only _ _ _ _ _
    have HM12 : Hid (Blk w12 M #[.int .i64 b,.int .i64 e,.slice A3 l3.length c3] 32) := by show Blk _ _ _ _;rw [hw12];exact put3_blk HM11.out _ _ _
    unfold put3 at hw12
    rw [← hw12]
    clear hw12 r0 r1 r2 rf0 rf1 rf2 lr e0 e1 e2 le
    have HRO9 : Hid (Ro w1.heap.size w1 b e M F1 G1 w12 g1 (actT y.n y.x.e y.t s) A3 c3 l3) := by
     have hem := HEM.out
     have lf : ∀ j,F1 j → w1.heap.size ≤ j ∧ j ≠ M := fun j hj => by
      rcases HFZ.out j hj with k | k
      ·exact RO.out.lf j k
      ·exact ⟨by omega,by omega⟩
     have lg : ∀ j,G1 j → w1.heap.size ≤ j ∧ j ≠ M := fun j hj => by
      rcases HGZ.out j hj with k | k
      ·exact RO.out.lg j k
      ·exact ⟨by omega,by omega⟩
     have ho12 : Only (fun j => j = M) w10 w12 := K11.trans (HO12.out.mono (fun j _ h => Or.inl h))
     have hb10 : Below w1.heap.size w1 w10 := RO.out.bl.trans (K10.out.below (fun j hj => (RO.out.lf j hj).1) hbl)
     exact ⟨co_only HC10.out ho12 (fun j hj => by rw [hj];exact ⟨fun h => (lf M h).2 rfl,fun h => (lg M h).2 rfl⟩),(actT_b _ _ _ _).1.trans RO.out.sb,(actT_b _ _ _ _).2.trans RO.out.se,hb10.trans (ho12.below (fun j hj => by rw [hj];exact hNM) hb10.size),lf,lg,HM12.out,hNM⟩
    have HLN : Hid (l3.length ≤ K + 1) := by
     have h1 := actT_len y.n y.x.e y.t s
     have h2 : l3.length = (actT y.n y.x.e y.t s).l.length := by rw [← HC9.out.m];simp
     have h3 : l2.length = s.l.length := by rw [← RO.out.co.m];simp
     have h4 := HLL.out
     show _ ≤ _
     omega
    go_wp2_with fail
    go_roundw
    case rel => exact ⟨K + 1,g1,_,F1,G1,A3,c3,l3,by omega,rfl,by go_num,HRO9.out,HLN.out⟩
    case measure => simp [intOf];omega
  ·obtain rfl : K = L.length := by omega
   have hnn : ¬ (L.length : Int) < L.length := by omega
   clear hlt
   go_wp2_with fail
   refine (HKN.out _).mono ?_
   rintro q w9 ⟨rfl,hb⟩
   have HB9 := Lib.hid (RO.out.bl.trans (hb.mono hbl))
   clear hb
   go_wp2_with fail
   go_ret
   exact ⟨rfl,HB9.out⟩
end
end Go.Proofs.YtlmljhnogmfcfaaGreat.Eu
