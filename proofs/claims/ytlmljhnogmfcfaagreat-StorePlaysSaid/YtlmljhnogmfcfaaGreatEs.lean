/- Proves what the law's step leaves. Conditions: as each theorem names them. -/
import Derived.Test.YtlmljhnogmfcfaaGreatRg
import Derived.Test.YtlmljhnogmfcfaaGreatEr
namespace Go.Proofs.YtlmljhnogmfcfaaGreat.Es
open Go.RowKit Ap Mi Nw Rg Ea Eb Ec Ed Ee El Ep Er
open Ef (mV mA put3 put3_blk put3_only)
open Eg (zS)

section
variable {F G R F' G2 P Q : Nat → Prop} {w v0 v2 v3 v9 : World} {g C : Nat} {s s' : Sx} {A A2 : Option Addr} {c c2 : Nat} {l l2 : List Em}
structure Co (F G : Nat → Prop) (w : World) (g : Nat) (s : Sx) (A : Option Addr) (c : Nat) (l : List Em) : Prop where
 st : St F w g s
 r : RL G w A c l
 m : l.map Em.e = s.l
 d : ∀ j,F j → ¬ G j
 f : ∀ j,F j → j < w.heap.size
 t : ∀ j,G j → j < w.heap.size
 n : l.length ≤ 1000
def actA (n : Int) (x : Em) (t : Int) : Array Value := #[.int .i64 n,.string x.e.k,.slice x.A x.e.v.length x.a,.slice x.B x.e.t.length x.b,.int .u64 x.e.d,.int .u64 x.e.n,.int .u64 x.e.s,.int .u64 t]
def actV (n : Int) (x : Em) (t : Int) : Value := .agg #[.int .i64 n,.string x.e.k,.slice x.A x.e.v.length x.a,.slice x.B x.e.t.length x.b,.int .u64 x.e.d,.int .u64 x.e.n,.int .u64 x.e.s,.int .u64 t]
structure B3 (v : World) (C : Nat) (cs as' : Array Value) : Prop where
 k : Blk v C cs 32
 a : Blk v (C + 1) as' 44
 r : Blk v (C + 1 + 1) zS 32
theorem B3.below {v u : World} {cs as' : Array Value} (h : B3 v C cs as') (hb : Below v.heap.size v u) : B3 u C cs as' := ⟨h.k.below hb h.k.lt,h.a.below hb h.a.lt,h.r.below hb h.r.lt⟩
theorem B3.only {v u : World} {cs as' : Array Value} (h : B3 v C cs as') (ho : Only Q v u) (hn : ∀ j,Q j → j < C ∨ C + 3 ≤ j) : B3 u C cs as' := ⟨h.k.only ho (fun hq => by have := hn _ hq;omega),h.a.only ho (fun hq => by have := hn _ hq;omega),h.r.only ho (fun hq => by have := hn _ hq;omega)⟩
theorem b3_new (w : World) (cs as' : Array Value) : Below w.heap.size w (((w.alloc (.cells cs 32)).alloc (.cells as' 44)).alloc (.cells zS 32)) ∧ B3 (((w.alloc (.cells cs 32)).alloc (.cells as' 44)).alloc (.cells zS 32)) w.heap.size cs as' ∧ (((w.alloc (.cells cs 32)).alloc (.cells as' 44)).alloc (.cells zS 32)).heap.size = w.heap.size + 3 := by
 refine ⟨((bnew _ _).alloc (by simp) _).alloc (by simp;omega) _,⟨?_,?_,?_⟩,by simp⟩
 ·exact ((Blk.new w _ _).below (bnew _ _) (by simp)).below (bnew _ _) (by simp;omega)
 ·have := (Blk.new (w.alloc (.cells cs 32)) as' 44).below (bnew _ (.cells zS 32)) (by simp)
  simpa using this
 ·have := Blk.new ((w.alloc (.cells cs 32)).alloc (.cells as' 44)) zS 32
  simpa using this
theorem eight {w : World} {g : Nat} {a b c d e f h i : Value} {t : TypeId} (k : Blk w g #[a,b,c,d,e,f,h,i] t) : w.cell? ⟨g,0,none⟩ = some a ∧ w.cell? ⟨g,1,none⟩ = some b ∧ w.cell? ⟨g,2,none⟩ = some c ∧ w.cell? ⟨g,3,none⟩ = some d ∧ w.cell? ⟨g,4,none⟩ = some e ∧ w.cell? ⟨g,5,none⟩ = some f ∧ w.cell? ⟨g,6,none⟩ = some h ∧ w.cell? ⟨g,7,none⟩ = some i := ⟨k.cell 0,k.cell 1,k.cell 2,k.cell 3,k.cell 4,k.cell 5,k.cell 6,k.cell 7⟩
theorem B3.cells {v : World} {b e : Int} {n : Nat} {k : Int} {x : Em} {t : Int} (h : B3 v C #[.int .i64 b,.int .i64 e,.slice A n c] (actA k x t)) :
  (v.cell? ⟨C,0,none⟩ = some (.int .i64 b) ∧ v.cell? ⟨C,1,none⟩ = some (.int .i64 e) ∧ v.cell? ⟨C,2,none⟩ = some (.slice A n c)) ∧ (v.cell? ⟨C + 1,0,none⟩ = some (.int .i64 k) ∧ v.cell? ⟨C + 1,1,none⟩ = some (.string x.e.k) ∧ v.cell? ⟨C + 1,2,none⟩ = some (.slice x.A x.e.v.length x.a) ∧ v.cell? ⟨C + 1,3,none⟩ = some (.slice x.B x.e.t.length x.b) ∧ v.cell? ⟨C + 1,4,none⟩ = some (.int .u64 x.e.d) ∧ v.cell? ⟨C + 1,5,none⟩ = some (.int .u64 x.e.n) ∧ v.cell? ⟨C + 1,6,none⟩ = some (.int .u64 x.e.s) ∧ v.cell? ⟨C + 1,7,none⟩ = some (.int .u64 t)) ∧ C < v.heap.size ∧ C + 1 < v.heap.size ∧ C + 1 + 1 < v.heap.size := by
 obtain ⟨h0,h1,h2,_⟩ := h.k.three
 have ha := h.a
 unfold actA at ha
 exact ⟨⟨h0,h1,h2⟩,eight ha,h.k.lt,h.a.lt,h.r.lt⟩
theorem len_s (hm : l.map Em.e = s.l) (k : ByteArray) (d : Int) : (remT s k).l.length ≤ l.length ∧ (useT s k).l.length ≤ l.length ∧ (touT s k d).l.length ≤ l.length := by
 have hl : s.l.length = l.length := by rw [← hm];simp
 rcases look_s hm k with ⟨_,_,h1,h2,h3⟩ | ⟨i,hi,_,_,_,_,h1,h2,h3⟩
 ·rw [h1,h2,h3,hl];exact ⟨Nat.le_refl _,Nat.le_refl _,Nat.le_refl _⟩
 ·rw [h1,h2,h3]
  have := wo_len hi
  simp only [List.length_map,List.length_append,List.length_cons,List.length_nil]
  omega
theorem len_p (s : Sx) (x : En) : (putT s x).l.length ≤ s.l.length + 1 := by
 unfold putT
 by_cases h : putN s x = 0
 ·rw [if_pos h]
  have := rest_len id s.l x.k
  simp only [List.length_append,List.length_drop,List.length_cons,List.length_nil]
  omega
 ·rw [if_neg h];omega
def stepPost (F G : Nat → Prop) (w : World) (g : Nat) (s s' : Sx) : Ending → World → Prop := fun q w' => ∃ F' G' A c l,q = .returned (.tuple #[.pointer (some ⟨g,0,none⟩),mV s.b s.e A l.length c,.bool true]) ∧ Co F' G' w' g s' A c l ∧ Only F w w' ∧ (∀ j,F' j → More F w j) ∧ (∀ j,G' j → More G w j)
theorem rows_lt {v : World} {y : Em} (h : Wr v y) {j : Nat} (hj : El.Rows y j) : j < v.heap.size := by
 have key : ∀ {e : TypeId} {p : Value → Prop} {A : Option Addr} {n c : Nat} (_ : Ty v e p A n c) (a : Addr) (_ : A = some a),a.block < v.heap.size := by
  intro e p A n c ht a ha
  obtain ⟨xs,⟨h1,h2⟩,_⟩ := ht
  rcases h2 with ⟨h2,_⟩ | ⟨g',cap,cur',hv,hB,hg,_⟩
  ·rw [ha] at h2;simp at h2
  ·rw [ha] at hv;injection hv with hv;injection hv with hv
   rw [hv];exact (Array.getElem?_eq_some_iff.1 hg).1
 rcases hj with ⟨a,ha,rfl⟩ | ⟨a,ha,rfl⟩
 ·exact key h.v a ha
 ·exact key h.t a ha
theorem rows_in' {v : World} {y : Em} (h : RE P v y) {j : Nat} (hj : El.Rows y j) : P j := by
 rcases hj with ⟨a,ha,rfl⟩ | ⟨a,ha,rfl⟩
 ·exact h.gv a ha
 ·exact h.gt a ha
theorem fin_co (hC : C = w.heap.size) (H : Co F G w g s A c l) (hb : Below C w v2) (hz : C + 3 ≤ v2.heap.size) (hr : RL G2 v2 A2 c2 l2) (hm : l2.map Em.e = s'.l) (hn : l2.length ≤ 1000) (hG2 : ∀ j,G2 j → (G j ∨ C + 3 ≤ j) ∧ j < v2.heap.size) (gv : Gave F v2 v3 g s' F' P) (ho : Only Q v3 v9) (hQ : ∀ j,Q j → ¬ F' j ∧ ¬ G2 j ∧ (F j ∨ C ≤ j)) :
  ∃ F9 G9,Co F9 G9 v9 g s' A2 c2 l2 ∧ Only F w v9 ∧ (∀ j,F9 j → More F w j) ∧ (∀ j,G9 j → More G w j) := by
 have hFG : ∀ j,F j → ¬ G2 j := fun j hf hg => by
  rcases (hG2 j hg).1 with h | h
  ·exact H.d j hf h
  ·have := H.f j hf;omega
 have hFG' : ∀ j,F' j → ¬ G2 j := fun j hf hg => by
  rcases gv.f j hf with h | h
  ·exact hFG j h hg
  ·have := (hG2 j hg).2;omega
 have hs9 := (gv.s.only ho (fun j hf hq => (hQ j hq).1 hf)).tight
 refine ⟨_,G2,⟨hs9,(hr.only gv.o (fun j hf hg => hFG j hf hg)).only ho (fun j hq hg => (hQ j hq).2.1 hg),hm,fun j hf => hFG' j hf.1,fun j hf => hf.2,fun j hg => ?_,hn⟩,?_,fun j hf => ?_,fun j hg => ?_⟩
 ·have := (hG2 j hg).2;have := gv.o.size;have := ho.size;omega
 ·refine ((Only.of_below hb (by omega) F).trans (gv.o.mono (fun j _ h => Or.inl h))).trans (ho.mono (fun j _ h => ?_))
  rcases (hQ j h).2.2 with h | h
  ·exact Or.inl h
  ·exact Or.inr (by omega)
 ·rcases gv.f j hf.1 with h | h
  ·exact Or.inl h
  ·exact Or.inr (by omega)
 ·rcases (hG2 j hg).1 with h | h
  ·exact Or.inl h
  ·exact Or.inr (by omega)
theorem only3 {v u : World} {r : Nat} (h : Only Q v u) (hq : Q r) (a b c : Value) : Only Q v (((u.setCell ⟨r,0,none⟩ a).setCell ⟨r,1,none⟩ b).setCell ⟨r,2,none⟩ c) := ((h.put (ad := ⟨r,0,none⟩) hq a).put (ad := ⟨r,1,none⟩) hq b).put (ad := ⟨r,2,none⟩) hq c
theorem q_c2 (hC : C = w.heap.size) (H : Co F G w g s A c l) (hz : C + 3 ≤ v2.heap.size) (hG2 : ∀ j,G2 j → (G j ∨ C + 3 ≤ j) ∧ j < v2.heap.size) (gv : Gave F v2 v3 g s' F' P) : ¬ F' (C + 1 + 1) ∧ ¬ G2 (C + 1 + 1) ∧ (F (C + 1 + 1) ∨ C ≤ C + 1 + 1) := by
 refine ⟨fun hf => ?_,fun hg => ?_,Or.inr (by omega)⟩
 ·rcases gv.f _ hf with h | h
  ·have := H.f _ h;omega
  ·omega
 ·rcases (hG2 _ hg).1 with h | h
  ·have := H.t _ h;omega
  ·omega
theorem q_p (hC : C = w.heap.size) (H : Co F G w g s A c l) (hz : C + 3 ≤ v2.heap.size) (hG2 : ∀ j,G2 j → (G j ∨ C + 3 ≤ j) ∧ j < v2.heap.size) (gv : Gave F v2 v3 g s' F' P) {j : Nat} (hp : P j) : ¬ F' j ∧ ¬ G2 j ∧ (F j ∨ C ≤ j) := by
 refine ⟨gv.d j hp,fun hg => ?_,?_⟩
 ·rcases gv.p j hp with h | h
  ·rcases (hG2 _ hg).1 with k | k
   ·exact H.d j h k
   ·have := H.f _ h;omega
  ·have := (hG2 _ hg).2;omega
 ·rcases gv.p j hp with h | h
  ·exact Or.inl h
  ·exact Or.inr (by omega)
theorem q_got (hC : C = w.heap.size) (H : Co F G w g s A c l) (hz : C + 3 ≤ v2.heap.size) (hG2 : ∀ j,G2 j → (G j ∨ C + 3 ≤ j) ∧ j < v2.heap.size) (gv : Gave F v2 v3 g s' F' P) {z : Em} (hzr : RE P v3 z) : ∀ j,(El.Rows z j ∨ j = C + 1 + 1) → ¬ F' j ∧ ¬ G2 j ∧ (F j ∨ C ≤ j) := by
 rintro j (h | rfl)
 ·exact q_p hC H hz hG2 gv (rows_in' hzr h)
 ·exact q_c2 hC H hz hG2 gv
set_option maxRecDepth 100000 in
set_option maxHeartbeats 1000000 in
theorem find_st (h : Co F G w g s A c l) (x : Em) (t : Int) (hx : RE R w x) :
  Calls Tryz.prog 14 #[.pointer (some ⟨g,0,none⟩),mV s.b s.e A l.length c,actV 1 x t] w (stepPost F G w g s (s)) := by
 obtain ⟨C,hC⟩ : ∃ C,C = w.heap.size := ⟨_,rfl⟩
 obtain ⟨v0,hv0⟩ : ∃ v0,v0 = ((w.alloc (.cells (mA s.b s.e A l.length c) 32)).alloc (.cells (actA 1 x t) 44)).alloc (.cells zS 32) := ⟨_,rfl⟩
 obtain ⟨hb0,hk0,hz0⟩ := b3_new w (mA s.b s.e A l.length c) (actA 1 x t)
 rw [← hv0,← hC] at hb0 hk0 hz0
 have HB0 := Lib.hid hb0;have HK0 := Lib.hid hk0;have H := Lib.hid h;have HX := Lib.hid hx;have HCC := Lib.hid hC
 have HZ0 : Hid (v0.heap.size = C + 3) := by show _ = _;omega
 have HL0 : Hid (RL G v0 A c l) := h.r.below hb0 (by omega)
 have hcm := Rs.max h.r.r
 unfold maxLen at hcm
 unfold mA at hv0 HK0
 unfold actA zS at hv0
 obtain ⟨⟨x0,x1,x2⟩,⟨a0,a1,a2,a3,a4,a5,a6,a7⟩,lz0,lz1,lz2⟩ := HK0.out.cells
 unfold mV actV stepPost
 clear h hx hb0 hk0 hz0 hcm
 have HF := Lib.hid (find_s HL0.out H.out.m H.out.n x.e.k)
 unfold mV emV at HF
 go_enter Tryz.func14,Tryz.ntmps14
 go_upto_region 1 with fail
 rw [← hv0,← hC]
 clear hv0 hC
 go_wp2_with fail
 refine HF.out.mono ?_
 rintro q w1 ⟨y,rfl,hye,hyr,hb⟩
 have HYE := Lib.hid hye;have HYR := Lib.hid hyr
 have HW1 := Lib.hid hb
 have HK1 := Lib.hid (HK0.out.below hb)
 have hz1 : C + 3 ≤ w1.heap.size := by have := hb.size;have := HZ0.out;omega
 clear hye hyr hb HF x0 x1 x2 a0 a1 a2 a3 a4 a5 a6 a7 lz0 lz1 lz2
 obtain ⟨⟨x0,x1,x2⟩,⟨a0,a1,a2,a3,a4,a5,a6,a7⟩,lz0,lz1,lz2⟩ := HK1.out.cells
 obtain ⟨v2,hv2⟩ : ∃ v2,v2 = w1.alloc (.cells (emA y) 42) := ⟨_,rfl⟩
 obtain ⟨D,hD⟩ : ∃ D,D = w1.heap.size := ⟨_,rfl⟩
 have HB2 : Hid (Below w1.heap.size w1 v2) := by show Below _ _ _;rw [hv2];exact bnew _ _
 have HD2 : Hid (Blk v2 D (emA y) 42) := by show Blk _ _ _ _;rw [hv2,hD];exact Blk.new _ _ _
 have hz2 : Hid (v2.heap.size = D + 1) := by show _ = _;rw [hv2,hD];simp
 have HDD := Lib.hid hD
 have hDC : C + 3 ≤ D := by omega
 have HK2 := Lib.hid (HK1.out.below HB2.out)
 have HBX : Hid (Below C w v2) := (HB0.out.trans (HW1.out.mono (by have := HZ0.out;omega))).trans (HB2.out.mono (by have := HW1.out.size;omega))
 have HS2 : Hid (St F v2 g s) := H.out.st.below (by rw [← HCC.out];exact HBX.out)
 have HY2 := Lib.hid (HYR.out.below HB2.out (Nat.le_refl _))
 have h2s : D + 1 ≤ v2.heap.size := by have := hz2.out;omega
 have HG := Lib.hid (find_any HS2.out x.e.k HX.out.f.k)
 unfold Ep.gotPost emV at HG
 unfold emA at hv2
 go_upto_region 12 with fail
 rw [← hv2,← hD]
 clear hv2 hD x0 x1 x2 a0 a1 a2 a3 a4 a5 a6 a7 lz0 lz1 lz2
 obtain ⟨⟨x0,x1,x2⟩,⟨a0,a1,a2,a3,a4,a5,a6,a7⟩,lz0,lz1,lz2⟩ := HK2.out.cells
 go_wp2_with fail
 refine HG.out.mono ?_
 rintro q w3 ⟨F1,P,z,rfl,hze,hzr,hzw,gv⟩
 have HZE := Lib.hid hze;have HZR := Lib.hid hzr;have HZW := Lib.hid hzw;have GV := Lib.hid gv
 clear hze hzr hzw gv HG
 have HOF : ∀ j,F j → j < C ∨ C + 3 ≤ j := fun j hj => by have := H.out.f j hj;have := HCC.out;omega
 have HK3 := Lib.hid (HK2.out.only GV.out.o HOF)
 have HFD : Hid (∀ j,F j → j < C) := fun j hj => by have := H.out.f j hj;have := HCC.out;omega
 have HG2 : Hid (∀ j,G j → (G j ∨ C + 3 ≤ j) ∧ j < v2.heap.size) := fun j hj => ⟨Or.inl hj,by have := H.out.t j hj;have := HCC.out;omega⟩
 have HGT : Hid (∀ j,Tn G v0 w1 j → (G j ∨ C + 3 ≤ j) ∧ j < v2.heap.size) := fun j hj => by
  rcases hj with h | ⟨h1,h2⟩
  ·exact ⟨Or.inl h,by have := H.out.t j h;have := HCC.out;omega⟩
  ·exact ⟨Or.inr (by have := HZ0.out;omega),by have := HDD.out;omega⟩
 have HFG : Hid (∀ j,F j → ¬ Tn G v0 w1 j) := fun j hf hg => by
  rcases hg with h | ⟨h1,h2⟩
  ·exact H.out.d j hf h
  ·have := HFD.out j hf;have := HZ0.out;omega
 have HD3 := Lib.hid (HD2.out.only GV.out.o (fun hf => by have := HFD.out _ hf;omega))
 have HY3 := Lib.hid (HY2.out.only GV.out.o HFG.out)
 obtain ⟨v4,hv4⟩ : ∃ v4,v4 = w3.alloc (.cells (emA z) 42) := ⟨_,rfl⟩
 obtain ⟨E,hE⟩ : ∃ E,E = w3.heap.size := ⟨_,rfl⟩
 have HEE := Lib.hid hE
 have hz3 : v2.heap.size ≤ w3.heap.size := GV.out.o.size
 have hz4 : v2.heap.size ≤ E := by omega
 have HB4 : Hid (Below w3.heap.size w3 v4) := by show Below _ _ _;rw [hv4];exact bnew _ _
 have HE4 : Hid (Blk v4 E (emA z) 42) := by show Blk _ _ _ _;rw [hv4,hE];exact Blk.new _ _ _
 have HK4 := Lib.hid (HK3.out.below HB4.out)
 have HD4 := Lib.hid (HD3.out.below HB4.out HD3.out.lt)
 have HRZ : Hid (∀ j,El.Rows z j → (j < C ∨ v2.heap.size ≤ j) ∧ j < E) := fun j hj => by
  refine ⟨?_,by have := rows_lt HZW.out hj;omega⟩
  rcases GV.out.p j (rows_in' HZR.out hj) with h | h
  ·exact Or.inl (HFD.out j h)
  ·exact Or.inr h
 have HGV := Lib.hid (gives_true (n := lookN s x.e.k) (HYE.out.trans HZE.out.symm) (HZR.out.below HB4.out (Nat.le_refl _)) (HY3.out.below HB4.out (Nat.le_refl _)) (HZW.out.below HB4.out))
 unfold emV at HGV
 have D4 : Only (fun j => El.Rows z j ∨ j = C + 1 + 1) v4 v4.drew := (Only.refl _ _).drew
 unfold emA at hv4
 go_upto_region 13 with fail
 rw [← hv4,← hE]
 clear hv4 hE x0 x1 x2 a0 a1 a2 a3 a4 a5 a6 a7 lz0 lz1 lz2
 have lz0 : C < v4.heap.size := HK4.out.k.lt
 have lz1 : C + 1 + 1 < v4.heap.size := HK4.out.r.lt
 have lz2 : D < v4.heap.size := HD4.out.lt
 have lz3 : E < v4.heap.size := HE4.out.lt
 have hd2s := hz2.out
 have HRS : Hid (∀ j,(El.Rows z j ∨ j = C + 1 + 1) → (j < C ∨ v2.heap.size ≤ j ∨ j = C + 1 + 1) ∧ j < E) := fun j hj => by
  rcases hj with h | rfl
  ·have := HRZ.out j h;exact ⟨by omega,this.2⟩
  ·exact ⟨by omega,by omega⟩
 have KK : ∀ v,Only (fun j => El.Rows z j ∨ j = C + 1 + 1) v4 v → Blk v C #[.int .i64 s.b,.int .i64 s.e,.slice A l.length c] 32 := fun v hv => HK4.out.k.only hv (fun hj => by have := (HRS.out _ hj).1;omega)
 have KY : ∀ v,Only (fun j => El.Rows z j ∨ j = C + 1 + 1) v4 v → Blk v (D) (emA y) 42 := fun v hv => HD4.out.only hv (fun hj => by have := (HRS.out _ hj).1;omega)
 have KZ : ∀ v,Only (fun j => El.Rows z j ∨ j = C + 1 + 1) v4 v → Blk v E (emA z) 42 := fun v hv => HE4.out.only hv (fun hj => by have := (HRS.out _ hj).2;omega)
 have tm0 : ∀ v,Only (fun j => El.Rows z j ∨ j = C + 1 + 1) v4 v → v.cell? ⟨C,0,none⟩ = some (.int .i64 s.b) := fun v hv => by have := (KK v hv).cell 0;exact this
 have tm1 : ∀ v,Only (fun j => El.Rows z j ∨ j = C + 1 + 1) v4 v → v.cell? ⟨C,1,none⟩ = some (.int .i64 s.e) := fun v hv => by have := (KK v hv).cell 1;exact this
 have tm2 : ∀ v,Only (fun j => El.Rows z j ∨ j = C + 1 + 1) v4 v → v.cell? ⟨C,2,none⟩ = some (.slice A l.length c) := fun v hv => by have := (KK v hv).cell 2;exact this
 have ty0 : ∀ v,Only (fun j => El.Rows z j ∨ j = C + 1 + 1) v4 v → v.cell? ⟨D,0,none⟩ = some (.string y.e.k) := fun v hv => by have := (KY v hv).cell 0;exact this
 have ty1 : ∀ v,Only (fun j => El.Rows z j ∨ j = C + 1 + 1) v4 v → v.cell? ⟨D,1,none⟩ = some (.slice y.A y.e.v.length y.a) := fun v hv => by have := (KY v hv).cell 1;exact this
 have ty2 : ∀ v,Only (fun j => El.Rows z j ∨ j = C + 1 + 1) v4 v → v.cell? ⟨D,2,none⟩ = some (.slice y.B y.e.t.length y.b) := fun v hv => by have := (KY v hv).cell 2;exact this
 have ty3 : ∀ v,Only (fun j => El.Rows z j ∨ j = C + 1 + 1) v4 v → v.cell? ⟨D,3,none⟩ = some (.int .u64 y.e.d) := fun v hv => by have := (KY v hv).cell 3;exact this
 have ty4 : ∀ v,Only (fun j => El.Rows z j ∨ j = C + 1 + 1) v4 v → v.cell? ⟨D,4,none⟩ = some (.int .u64 y.e.n) := fun v hv => by have := (KY v hv).cell 4;exact this
 have ty5 : ∀ v,Only (fun j => El.Rows z j ∨ j = C + 1 + 1) v4 v → v.cell? ⟨D,5,none⟩ = some (.int .u64 y.e.s) := fun v hv => by have := (KY v hv).cell 5;exact this
 have tz0 : ∀ v,Only (fun j => El.Rows z j ∨ j = C + 1 + 1) v4 v → v.cell? ⟨E,0,none⟩ = some (.string z.e.k) := fun v hv => by have := (KZ v hv).cell 0;exact this
 have tz1 : ∀ v,Only (fun j => El.Rows z j ∨ j = C + 1 + 1) v4 v → v.cell? ⟨E,1,none⟩ = some (.slice z.A z.e.v.length z.a) := fun v hv => by have := (KZ v hv).cell 1;exact this
 have tz2 : ∀ v,Only (fun j => El.Rows z j ∨ j = C + 1 + 1) v4 v → v.cell? ⟨E,2,none⟩ = some (.slice z.B z.e.t.length z.b) := fun v hv => by have := (KZ v hv).cell 2;exact this
 have tz3 : ∀ v,Only (fun j => El.Rows z j ∨ j = C + 1 + 1) v4 v → v.cell? ⟨E,3,none⟩ = some (.int .u64 z.e.d) := fun v hv => by have := (KZ v hv).cell 3;exact this
 have tz4 : ∀ v,Only (fun j => El.Rows z j ∨ j = C + 1 + 1) v4 v → v.cell? ⟨E,4,none⟩ = some (.int .u64 z.e.n) := fun v hv => by have := (KZ v hv).cell 4;exact this
 have tz5 : ∀ v,Only (fun j => El.Rows z j ∨ j = C + 1 + 1) v4 v → v.cell? ⟨E,5,none⟩ = some (.int .u64 z.e.s) := fun v hv => by have := (KZ v hv).cell 5;exact this
 clear KK KY KZ
 generalize hv5 : v4.drew = v5 at D4
 have HGW : Hid (Calls Tryz.prog 29 #[.agg #[.string z.e.k,.slice z.A z.e.v.length z.a,.slice z.B z.e.t.length z.b,.int .u64 z.e.d,.int .u64 z.e.n,.int .u64 z.e.s],.int .i64 (lookN s x.e.k),.agg #[.string y.e.k,.slice y.A y.e.v.length y.a,.slice y.B y.e.t.length y.b,.int .u64 y.e.d,.int .u64 y.e.n,.int .u64 y.e.s],.int .i64 (lookN s x.e.k)] v5 (fun q v' => q = .returned (.bool true) ∧ Only (El.Rows z) v5 v' ∧ ∀ y,Wr v5 y → Wr v' y)) := by
  have b5 : Below v4.heap.size v4 v5 := by rw [← hv5];exact (Below.refl _ _).drew
  have := gives_true (n := lookN s x.e.k) (HYE.out.trans HZE.out.symm) ((HZR.out.below HB4.out (Nat.le_refl _)).below b5 (Nat.le_refl _)) ((HY3.out.below HB4.out (Nat.le_refl _)).below b5 (Nat.le_refl _)) ((HZW.out.below HB4.out).below b5)
  exact this
 clear HGV
 refine wp_region_noPanic ?_
 refine wp_region_held_drew (S := fun v => Only (fun j => El.Rows z j ∨ j = C + 1 + 1) v4 v) (by kernel_rfl) (by rw [hv5];exact D4) (fun hHeld => ?_)
 rw [hv5]
 refine Rg.th 0 (some 93) (v := ?_) rfl (by kernel_rfl) (fun _ _ _ h => h) (by rfl) (by assumption) ?_ ?_
 rotate_left
 ·intro w h;go_simp;first|done|with_reducible rfl
 try simp only [Ap.sc]
 refine Rg.th 1 (some 94) (v := ?_) rfl (by kernel_rfl) (fun _ _ _ h => h) (by rfl) (by assumption) ?_ ?_
 rotate_left
 ·intro w h;go_simp;first|done|with_reducible rfl
 try simp only [Ap.sc]
 refine Rg.th 2 (some 95) (v := ?_) rfl (by kernel_rfl) (fun _ _ _ h => h) (by rfl) (by assumption) ?_ ?_
 rotate_left
 ·intro w h;go_simp;first|done|with_reducible rfl
 try simp only [Ap.sc]
 refine Rg.th 3 (some 96) (v := ?_) rfl (by kernel_rfl) (fun _ _ _ h => h) (by rfl) (by assumption) ?_ ?_
 rotate_left
 ·intro w h;go_simp;first|done|with_reducible rfl
 try simp only [Ap.sc]
 refine Rg.th 4 (some 97) (v := ?_) rfl (by kernel_rfl) (fun _ _ _ h => h) (by rfl) (by assumption) ?_ ?_
 rotate_left
 ·intro w h;go_simp;first|done|with_reducible rfl
 try simp only [Ap.sc]
 refine Rg.th 5 (some 98) (v := ?_) rfl (by kernel_rfl) (fun _ _ _ h => h) (by rfl) (by assumption) ?_ ?_
 rotate_left
 ·intro w h;go_simp;first|done|with_reducible rfl
 try simp only [Ap.sc]
 refine wpAnyH_ready (rs := [6]) (by kernel_rfl) (by simp) ?_
 refine AllReadyH.cons (o := ⟨some 99,_,_,_,_,_⟩) rfl (fun K hK => ?_) AllReadyH.nil
 go_simp
 with_reducible refine HGW.out.mono ?_
 rintro d u6 ⟨rfl,ho,_⟩
 have K6 : Only (El.Rows z) v4 u6 := (by rw [← hv5] at ho;exact ((Only.refl (El.Rows z) v4).drew).trans (ho.mono (fun j _ h => Or.inl h)))
 clear ho
 go_simp
 refine hK.out _ _ (K6.mono (fun j _ h => Or.inl h)) (fun hHeld => ?_)
 clear hK K
 try simp only [Ap.sc]
 refine Rg.th 7 (some 6) (v := ?_) rfl (by kernel_rfl) (fun _ _ _ h => h) (by rfl) (by assumption) ?_ ?_
 rotate_left
 ·intro w h;go_simp;first|done|with_reducible rfl
 try simp only [Ap.sc]
 refine wpAnyH_ready (rs := [8]) (by kernel_rfl) (by simp) ?_
 refine AllReadyH.cons (o := ⟨none,_,_,_,_,_⟩) rfl (fun K hK => ?_) AllReadyH.nil
 go_simp
 have HRU := Lib.hid (HK4.out.r.only K6 (fun hj => by have := (HRZ.out _ hj).1;omega))
 have HRV := HRU.out
 unfold zS at HRV
 obtain ⟨r0,r1,r2,rf0,rf1,rf2⟩ := HRV.three
 have lr := HRV.lt
 clear HRV
 go_simp
 refine hK.out _ _ (only3 (r := C + 1 + 1) (Q := fun j => El.Rows z j ∨ j = C + 1 + 1) (K6.mono (fun j _ h => Or.inl h)) (Or.inr rfl) _ _ _) (fun hHeld => ?_)
 clear hK K
 try simp only [Ap.sc]
 refine Rg.th 9 (some 8) (v := ?_) rfl (by kernel_rfl) (fun _ _ _ h => h) (by rfl) (by assumption) ?_ ?_
 rotate_left
 ·intro w h;go_simp;first|done|with_reducible rfl
 try simp only [Ap.sc]
 refine wpAnyH_done (by kernel_rfl) ?_ _
 refine NoPanic.normal ?_
 obtain ⟨v9,hv9⟩ : ∃ v9,v9 = put3 u6 (C + 1 + 1) (.int .i64 s.b) (.int .i64 s.e) (.slice A l.length c) := ⟨_,rfl⟩
 have HO9 : Hid (Only (fun j => j = C + 1 + 1) u6 v9) := by show Only _ _ _;rw [hv9];exact put3_only _ _ _ _ _
 have HR9 : Hid (Blk v9 (C + 1 + 1) #[.int .i64 s.b,.int .i64 s.e,.slice A l.length c] 32) := by show Blk _ _ _ _;rw [hv9];exact put3_blk HRU.out _ _ _
 unfold put3 at hv9
 rw [← hv9]
 clear hv9
 obtain ⟨s0,s1,s2,_⟩ := HR9.out.three
 obtain ⟨F9,G9,h9,o9,f9,g9⟩ := fin_co (Q := fun j => El.Rows z j ∨ j = C + 1 + 1) (v9 := v9) HCC.out H.out HBX.out (by omega) ((H.out.r.below (by rw [← HCC.out];exact HBX.out) (Nat.le_refl _))) H.out.m H.out.n HG2.out GV.out (((Only.of_below HB4.out (Nat.le_refl _) _).trans (K6.mono (fun j _ h => Or.inl (Or.inl h)))).trans (HO9.out.mono (fun j _ h => Or.inl (Or.inr h)))) (q_got HCC.out H.out (by omega) HG2.out GV.out HZR.out)
 go_wp2_with fail
 exact bodyPost_ret (v := .tuple #[.pointer (some ⟨g,0,none⟩),.agg #[.int .i64 s.b,.int .i64 s.e,.slice A l.length c],.bool true]) (by simp [results,Tryz.results14,go_sem,s0,s1,s2]) rfl ⟨F9,G9,_,_,_,rfl,h9,o9,f9,g9⟩
set_option maxRecDepth 100000 in
set_option maxHeartbeats 1000000 in
theorem use_st (h : Co F G w g s A c l) (x : Em) (t : Int) (hx : RE R w x) :
  Calls Tryz.prog 14 #[.pointer (some ⟨g,0,none⟩),mV s.b s.e A l.length c,actV 2 x t] w (stepPost F G w g s (useT s x.e.k)) := by
 obtain ⟨C,hC⟩ : ∃ C,C = w.heap.size := ⟨_,rfl⟩
 obtain ⟨v0,hv0⟩ : ∃ v0,v0 = ((w.alloc (.cells (mA s.b s.e A l.length c) 32)).alloc (.cells (actA 2 x t) 44)).alloc (.cells zS 32) := ⟨_,rfl⟩
 obtain ⟨hb0,hk0,hz0⟩ := b3_new w (mA s.b s.e A l.length c) (actA 2 x t)
 rw [← hv0,← hC] at hb0 hk0 hz0
 have HB0 := Lib.hid hb0;have HK0 := Lib.hid hk0;have H := Lib.hid h;have HX := Lib.hid hx;have HCC := Lib.hid hC
 have HZ0 : Hid (v0.heap.size = C + 3) := by show _ = _;omega
 have HL0 : Hid (RL G v0 A c l) := h.r.below hb0 (by omega)
 have hcm := Rs.max h.r.r
 unfold maxLen at hcm
 unfold mA at hv0 HK0
 unfold actA zS at hv0
 obtain ⟨⟨x0,x1,x2⟩,⟨a0,a1,a2,a3,a4,a5,a6,a7⟩,lz0,lz1,lz2⟩ := HK0.out.cells
 unfold mV actV stepPost
 clear h hx hb0 hk0 hz0 hcm
 have HF := Lib.hid (use_s HL0.out H.out.m H.out.n x.e.k)
 unfold gotS mV emV at HF
 go_enter Tryz.func14,Tryz.ntmps14
 go_upto_region 1 with fail
 rw [← hv0,← hC]
 clear hv0 hC
 go_wp2_with fail
 refine HF.out.mono ?_
 rintro q w1 ⟨A2,c2,l2,y,rfl,hye,hyr,⟨hr2,hm2,hb⟩⟩
 have HR2 := Lib.hid hr2;have HM2 := Lib.hid hm2
 have HN2 : Hid (l2.length ≤ 1000) := by
  have h1 : l2.length = (useT s x.e.k).l.length := by rw [← hm2];simp
  have h2 := len_s H.out.m x.e.k 0
  have h3 := H.out.n
  show _ ≤ _
  omega
 have HYE := Lib.hid hye;have HYR := Lib.hid hyr
 have HW1 := Lib.hid hb
 have HK1 := Lib.hid (HK0.out.below hb)
 have hz1 : C + 3 ≤ w1.heap.size := by have := hb.size;have := HZ0.out;omega
 clear hye hyr hb HF hr2 hm2 x0 x1 x2 a0 a1 a2 a3 a4 a5 a6 a7 lz0 lz1 lz2
 obtain ⟨⟨x0,x1,x2⟩,⟨a0,a1,a2,a3,a4,a5,a6,a7⟩,lz0,lz1,lz2⟩ := HK1.out.cells
 obtain ⟨v2,hv2⟩ : ∃ v2,v2 = (w1.alloc (.cells #[.int .i64 s.b,.int .i64 s.e,.slice A2 l2.length c2] 32)).alloc (.cells (emA y) 42) := ⟨_,rfl⟩
 obtain ⟨D,hD⟩ : ∃ D,D = w1.heap.size := ⟨_,rfl⟩
 have HDU := Eh.duo_new w1 #[.int .i64 s.b,.int .i64 s.e,.slice A2 l2.length c2] y
 rw [← hv2,← hD] at HDU
 obtain ⟨hd1,hd2,hd3,hd4⟩ := HDU
 have HB2 : Hid (Below w1.heap.size w1 v2) := by show Below _ _ _;rw [← hD];exact hd1
 have HM0 := Lib.hid hd2
 have HD2 := Lib.hid hd3
 have hz2 : Hid (v2.heap.size = D + 2) := by show _ = _;omega
 clear hd1 hd2 hd3 hd4
 have HDD := Lib.hid hD
 have hDC : C + 3 ≤ D := by omega
 have HK2 := Lib.hid (HK1.out.below HB2.out)
 have HBX : Hid (Below C w v2) := (HB0.out.trans (HW1.out.mono (by have := HZ0.out;omega))).trans (HB2.out.mono (by have := HW1.out.size;omega))
 have HS2 : Hid (St F v2 g s) := H.out.st.below (by rw [← HCC.out];exact HBX.out)
 have HY2 := Lib.hid (HYR.out.below HB2.out (Nat.le_refl _))
 have h2s : D + 1 ≤ v2.heap.size := by have := hz2.out;omega
 have HR2B := Lib.hid (HR2.out.below HB2.out (Nat.le_refl _))
 have HG := Lib.hid (use_any HS2.out x.e.k HX.out.f.k)
 unfold Ep.gotPost emV at HG
 unfold emA at hv2
 go_upto_region 16 with fail
 rw [← hv2,← hD]
 clear hv2 hD x0 x1 x2 a0 a1 a2 a3 a4 a5 a6 a7 lz0 lz1 lz2
 obtain ⟨⟨x0,x1,x2⟩,⟨a0,a1,a2,a3,a4,a5,a6,a7⟩,lz0,lz1,lz2⟩ := HK2.out.cells
 go_wp2_with fail
 refine HG.out.mono ?_
 rintro q w3 ⟨F1,P,z,rfl,hze,hzr,hzw,gv⟩
 have HZE := Lib.hid hze;have HZR := Lib.hid hzr;have HZW := Lib.hid hzw;have GV := Lib.hid gv
 clear hze hzr hzw gv HG
 have HOF : ∀ j,F j → j < C ∨ C + 3 ≤ j := fun j hj => by have := H.out.f j hj;have := HCC.out;omega
 have HK3 := Lib.hid (HK2.out.only GV.out.o HOF)
 have HFD : Hid (∀ j,F j → j < C) := fun j hj => by have := H.out.f j hj;have := HCC.out;omega
 have HGT : Hid (∀ j,Tn G v0 w1 j → (G j ∨ C + 3 ≤ j) ∧ j < v2.heap.size) := fun j hj => by
  rcases hj with h | ⟨h1,h2⟩
  ·exact ⟨Or.inl h,by have := H.out.t j h;have := HCC.out;omega⟩
  ·exact ⟨Or.inr (by have := HZ0.out;omega),by have := HDD.out;omega⟩
 have HFG : Hid (∀ j,F j → ¬ Tn G v0 w1 j) := fun j hf hg => by
  rcases hg with h | ⟨h1,h2⟩
  ·exact H.out.d j hf h
  ·have := HFD.out j hf;have := HZ0.out;omega
 have HD3 := Lib.hid (HD2.out.only GV.out.o (fun hf => by have := HFD.out _ hf;omega))
 have HY3 := Lib.hid (HY2.out.only GV.out.o HFG.out)
 have HM3 := Lib.hid (HM0.out.only GV.out.o (fun hf => by have := HFD.out _ hf;omega))
 obtain ⟨v4,hv4⟩ : ∃ v4,v4 = w3.alloc (.cells (emA z) 42) := ⟨_,rfl⟩
 obtain ⟨E,hE⟩ : ∃ E,E = w3.heap.size := ⟨_,rfl⟩
 have HEE := Lib.hid hE
 have hz3 : v2.heap.size ≤ w3.heap.size := GV.out.o.size
 have hz4 : v2.heap.size ≤ E := by omega
 have HB4 : Hid (Below w3.heap.size w3 v4) := by show Below _ _ _;rw [hv4];exact bnew _ _
 have HE4 : Hid (Blk v4 E (emA z) 42) := by show Blk _ _ _ _;rw [hv4,hE];exact Blk.new _ _ _
 have HK4 := Lib.hid (HK3.out.below HB4.out)
 have HD4 := Lib.hid (HD3.out.below HB4.out HD3.out.lt)
 have HM4 := Lib.hid (HM3.out.below HB4.out HM3.out.lt)
 have HRZ : Hid (∀ j,El.Rows z j → (j < C ∨ v2.heap.size ≤ j) ∧ j < E) := fun j hj => by
  refine ⟨?_,by have := rows_lt HZW.out hj;omega⟩
  rcases GV.out.p j (rows_in' HZR.out hj) with h | h
  ·exact Or.inl (HFD.out j h)
  ·exact Or.inr h
 have HGV := Lib.hid (gives_true (n := lookN s x.e.k) (HYE.out.trans HZE.out.symm) (HZR.out.below HB4.out (Nat.le_refl _)) (HY3.out.below HB4.out (Nat.le_refl _)) (HZW.out.below HB4.out))
 unfold emV at HGV
 have D4 : Only (fun j => El.Rows z j ∨ j = C + 1 + 1) v4 v4.drew := (Only.refl _ _).drew
 unfold emA at hv4
 go_upto_region 17 with fail
 rw [← hv4,← hE]
 clear hv4 hE x0 x1 x2 a0 a1 a2 a3 a4 a5 a6 a7 lz0 lz1 lz2
 have lz0 : C < v4.heap.size := HK4.out.k.lt
 have lz1 : C + 1 + 1 < v4.heap.size := HK4.out.r.lt
 have lz2 : D + 1 < v4.heap.size := HD4.out.lt
 have lz3 : E < v4.heap.size := HE4.out.lt
 have hd2s := hz2.out
 have HRS : Hid (∀ j,(El.Rows z j ∨ j = C + 1 + 1) → (j < C ∨ v2.heap.size ≤ j ∨ j = C + 1 + 1) ∧ j < E) := fun j hj => by
  rcases hj with h | rfl
  ·have := HRZ.out j h;exact ⟨by omega,this.2⟩
  ·exact ⟨by omega,by omega⟩
 have KK : ∀ v,Only (fun j => El.Rows z j ∨ j = C + 1 + 1) v4 v → Blk v C #[.int .i64 s.b,.int .i64 s.e,.slice A l.length c] 32 := fun v hv => HK4.out.k.only hv (fun hj => by have := (HRS.out _ hj).1;omega)
 have KY : ∀ v,Only (fun j => El.Rows z j ∨ j = C + 1 + 1) v4 v → Blk v (D + 1) (emA y) 42 := fun v hv => HD4.out.only hv (fun hj => by have := (HRS.out _ hj).1;omega)
 have KZ : ∀ v,Only (fun j => El.Rows z j ∨ j = C + 1 + 1) v4 v → Blk v E (emA z) 42 := fun v hv => HE4.out.only hv (fun hj => by have := (HRS.out _ hj).2;omega)
 have KM : ∀ v,Only (fun j => El.Rows z j ∨ j = C + 1 + 1) v4 v → Blk v D #[.int .i64 s.b,.int .i64 s.e,.slice A2 l2.length c2] 32 := fun v hv => HM4.out.only hv (fun hj => by have := (HRS.out _ hj).1;omega)
 have tm0 : ∀ v,Only (fun j => El.Rows z j ∨ j = C + 1 + 1) v4 v → v.cell? ⟨D,0,none⟩ = some (.int .i64 s.b) := fun v hv => by have := (KM v hv).cell 0;exact this
 have tm1 : ∀ v,Only (fun j => El.Rows z j ∨ j = C + 1 + 1) v4 v → v.cell? ⟨D,1,none⟩ = some (.int .i64 s.e) := fun v hv => by have := (KM v hv).cell 1;exact this
 have tm2 : ∀ v,Only (fun j => El.Rows z j ∨ j = C + 1 + 1) v4 v → v.cell? ⟨D,2,none⟩ = some (.slice A2 l2.length c2) := fun v hv => by have := (KM v hv).cell 2;exact this
 have ty0 : ∀ v,Only (fun j => El.Rows z j ∨ j = C + 1 + 1) v4 v → v.cell? ⟨D + 1,0,none⟩ = some (.string y.e.k) := fun v hv => by have := (KY v hv).cell 0;exact this
 have ty1 : ∀ v,Only (fun j => El.Rows z j ∨ j = C + 1 + 1) v4 v → v.cell? ⟨D + 1,1,none⟩ = some (.slice y.A y.e.v.length y.a) := fun v hv => by have := (KY v hv).cell 1;exact this
 have ty2 : ∀ v,Only (fun j => El.Rows z j ∨ j = C + 1 + 1) v4 v → v.cell? ⟨D + 1,2,none⟩ = some (.slice y.B y.e.t.length y.b) := fun v hv => by have := (KY v hv).cell 2;exact this
 have ty3 : ∀ v,Only (fun j => El.Rows z j ∨ j = C + 1 + 1) v4 v → v.cell? ⟨D + 1,3,none⟩ = some (.int .u64 y.e.d) := fun v hv => by have := (KY v hv).cell 3;exact this
 have ty4 : ∀ v,Only (fun j => El.Rows z j ∨ j = C + 1 + 1) v4 v → v.cell? ⟨D + 1,4,none⟩ = some (.int .u64 y.e.n) := fun v hv => by have := (KY v hv).cell 4;exact this
 have ty5 : ∀ v,Only (fun j => El.Rows z j ∨ j = C + 1 + 1) v4 v → v.cell? ⟨D + 1,5,none⟩ = some (.int .u64 y.e.s) := fun v hv => by have := (KY v hv).cell 5;exact this
 have tz0 : ∀ v,Only (fun j => El.Rows z j ∨ j = C + 1 + 1) v4 v → v.cell? ⟨E,0,none⟩ = some (.string z.e.k) := fun v hv => by have := (KZ v hv).cell 0;exact this
 have tz1 : ∀ v,Only (fun j => El.Rows z j ∨ j = C + 1 + 1) v4 v → v.cell? ⟨E,1,none⟩ = some (.slice z.A z.e.v.length z.a) := fun v hv => by have := (KZ v hv).cell 1;exact this
 have tz2 : ∀ v,Only (fun j => El.Rows z j ∨ j = C + 1 + 1) v4 v → v.cell? ⟨E,2,none⟩ = some (.slice z.B z.e.t.length z.b) := fun v hv => by have := (KZ v hv).cell 2;exact this
 have tz3 : ∀ v,Only (fun j => El.Rows z j ∨ j = C + 1 + 1) v4 v → v.cell? ⟨E,3,none⟩ = some (.int .u64 z.e.d) := fun v hv => by have := (KZ v hv).cell 3;exact this
 have tz4 : ∀ v,Only (fun j => El.Rows z j ∨ j = C + 1 + 1) v4 v → v.cell? ⟨E,4,none⟩ = some (.int .u64 z.e.n) := fun v hv => by have := (KZ v hv).cell 4;exact this
 have tz5 : ∀ v,Only (fun j => El.Rows z j ∨ j = C + 1 + 1) v4 v → v.cell? ⟨E,5,none⟩ = some (.int .u64 z.e.s) := fun v hv => by have := (KZ v hv).cell 5;exact this
 clear KK KY KZ KM
 generalize hv5 : v4.drew = v5 at D4
 have HGW : Hid (Calls Tryz.prog 29 #[.agg #[.string z.e.k,.slice z.A z.e.v.length z.a,.slice z.B z.e.t.length z.b,.int .u64 z.e.d,.int .u64 z.e.n,.int .u64 z.e.s],.int .i64 (lookN s x.e.k),.agg #[.string y.e.k,.slice y.A y.e.v.length y.a,.slice y.B y.e.t.length y.b,.int .u64 y.e.d,.int .u64 y.e.n,.int .u64 y.e.s],.int .i64 (lookN s x.e.k)] v5 (fun q v' => q = .returned (.bool true) ∧ Only (El.Rows z) v5 v' ∧ ∀ y,Wr v5 y → Wr v' y)) := by
  have b5 : Below v4.heap.size v4 v5 := by rw [← hv5];exact (Below.refl _ _).drew
  have := gives_true (n := lookN s x.e.k) (HYE.out.trans HZE.out.symm) ((HZR.out.below HB4.out (Nat.le_refl _)).below b5 (Nat.le_refl _)) ((HY3.out.below HB4.out (Nat.le_refl _)).below b5 (Nat.le_refl _)) ((HZW.out.below HB4.out).below b5)
  exact this
 clear HGV
 refine wp_region_noPanic ?_
 refine wp_region_held_drew (S := fun v => Only (fun j => El.Rows z j ∨ j = C + 1 + 1) v4 v) (by kernel_rfl) (by rw [hv5];exact D4) (fun hHeld => ?_)
 rw [hv5]
 refine Rg.th 0 (some 115) (v := ?_) rfl (by kernel_rfl) (fun _ _ _ h => h) (by rfl) (by assumption) ?_ ?_
 rotate_left
 ·intro w h;go_simp;first|done|with_reducible rfl
 try simp only [Ap.sc]
 refine Rg.th 1 (some 116) (v := ?_) rfl (by kernel_rfl) (fun _ _ _ h => h) (by rfl) (by assumption) ?_ ?_
 rotate_left
 ·intro w h;go_simp;first|done|with_reducible rfl
 try simp only [Ap.sc]
 refine Rg.th 2 (some 117) (v := ?_) rfl (by kernel_rfl) (fun _ _ _ h => h) (by rfl) (by assumption) ?_ ?_
 rotate_left
 ·intro w h;go_simp;first|done|with_reducible rfl
 try simp only [Ap.sc]
 refine Rg.th 3 (some 118) (v := ?_) rfl (by kernel_rfl) (fun _ _ _ h => h) (by rfl) (by assumption) ?_ ?_
 rotate_left
 ·intro w h;go_simp;first|done|with_reducible rfl
 try simp only [Ap.sc]
 refine Rg.th 4 (some 119) (v := ?_) rfl (by kernel_rfl) (fun _ _ _ h => h) (by rfl) (by assumption) ?_ ?_
 rotate_left
 ·intro w h;go_simp;first|done|with_reducible rfl
 try simp only [Ap.sc]
 refine Rg.th 5 (some 120) (v := ?_) rfl (by kernel_rfl) (fun _ _ _ h => h) (by rfl) (by assumption) ?_ ?_
 rotate_left
 ·intro w h;go_simp;first|done|with_reducible rfl
 try simp only [Ap.sc]
 refine wpAnyH_ready (rs := [6]) (by kernel_rfl) (by simp) ?_
 refine AllReadyH.cons (o := ⟨some 121,_,_,_,_,_⟩) rfl (fun K hK => ?_) AllReadyH.nil
 go_simp
 with_reducible refine HGW.out.mono ?_
 rintro d u6 ⟨rfl,ho,_⟩
 have K6 : Only (El.Rows z) v4 u6 := (by rw [← hv5] at ho;exact ((Only.refl (El.Rows z) v4).drew).trans (ho.mono (fun j _ h => Or.inl h)))
 clear ho
 go_simp
 refine hK.out _ _ (K6.mono (fun j _ h => Or.inl h)) (fun hHeld => ?_)
 clear hK K
 try simp only [Ap.sc]
 refine Rg.th 7 (some 6) (v := ?_) rfl (by kernel_rfl) (fun _ _ _ h => h) (by rfl) (by assumption) ?_ ?_
 rotate_left
 ·intro w h;go_simp;first|done|with_reducible rfl
 try simp only [Ap.sc]
 refine wpAnyH_ready (rs := [8]) (by kernel_rfl) (by simp) ?_
 refine AllReadyH.cons (o := ⟨none,_,_,_,_,_⟩) rfl (fun K hK => ?_) AllReadyH.nil
 go_simp
 have HRU := Lib.hid (HK4.out.r.only K6 (fun hj => by have := (HRZ.out _ hj).1;omega))
 have HRV := HRU.out
 unfold zS at HRV
 obtain ⟨r0,r1,r2,rf0,rf1,rf2⟩ := HRV.three
 have lr := HRV.lt
 clear HRV
 go_simp
 refine hK.out _ _ (only3 (r := C + 1 + 1) (Q := fun j => El.Rows z j ∨ j = C + 1 + 1) (K6.mono (fun j _ h => Or.inl h)) (Or.inr rfl) _ _ _) (fun hHeld => ?_)
 clear hK K
 try simp only [Ap.sc]
 refine Rg.th 9 (some 8) (v := ?_) rfl (by kernel_rfl) (fun _ _ _ h => h) (by rfl) (by assumption) ?_ ?_
 rotate_left
 ·intro w h;go_simp;first|done|with_reducible rfl
 try simp only [Ap.sc]
 refine wpAnyH_done (by kernel_rfl) ?_ _
 refine NoPanic.normal ?_
 obtain ⟨v9,hv9⟩ : ∃ v9,v9 = put3 u6 (C + 1 + 1) (.int .i64 s.b) (.int .i64 s.e) (.slice A2 l2.length c2) := ⟨_,rfl⟩
 have HO9 : Hid (Only (fun j => j = C + 1 + 1) u6 v9) := by show Only _ _ _;rw [hv9];exact put3_only _ _ _ _ _
 have HR9 : Hid (Blk v9 (C + 1 + 1) #[.int .i64 s.b,.int .i64 s.e,.slice A2 l2.length c2] 32) := by show Blk _ _ _ _;rw [hv9];exact put3_blk HRU.out _ _ _
 unfold put3 at hv9
 rw [← hv9]
 clear hv9
 obtain ⟨s0,s1,s2,_⟩ := HR9.out.three
 obtain ⟨F9,G9,h9,o9,f9,g9⟩ := fin_co (Q := fun j => El.Rows z j ∨ j = C + 1 + 1) (v9 := v9) HCC.out H.out HBX.out (by omega) HR2B.out HM2.out HN2.out HGT.out GV.out (((Only.of_below HB4.out (Nat.le_refl _) _).trans (K6.mono (fun j _ h => Or.inl (Or.inl h)))).trans (HO9.out.mono (fun j _ h => Or.inl (Or.inr h)))) (q_got HCC.out H.out (by omega) HGT.out GV.out HZR.out)
 go_wp2_with fail
 exact bodyPost_ret (v := .tuple #[.pointer (some ⟨g,0,none⟩),.agg #[.int .i64 s.b,.int .i64 s.e,.slice A2 l2.length c2],.bool true]) (by simp [results,Tryz.results14,go_sem,s0,s1,s2]) rfl ⟨F9,G9,_,_,_,rfl,h9,o9,f9,g9⟩
set_option maxRecDepth 100000 in
set_option maxHeartbeats 1000000 in
theorem rem_st (h : Co F G w g s A c l) (x : Em) (t : Int) (hx : RE R w x) :
  Calls Tryz.prog 14 #[.pointer (some ⟨g,0,none⟩),mV s.b s.e A l.length c,actV 4 x t] w (stepPost F G w g s (remT s x.e.k)) := by
 obtain ⟨C,hC⟩ : ∃ C,C = w.heap.size := ⟨_,rfl⟩
 obtain ⟨v0,hv0⟩ : ∃ v0,v0 = ((w.alloc (.cells (mA s.b s.e A l.length c) 32)).alloc (.cells (actA 4 x t) 44)).alloc (.cells zS 32) := ⟨_,rfl⟩
 obtain ⟨hb0,hk0,hz0⟩ := b3_new w (mA s.b s.e A l.length c) (actA 4 x t)
 rw [← hv0,← hC] at hb0 hk0 hz0
 have HB0 := Lib.hid hb0;have HK0 := Lib.hid hk0;have H := Lib.hid h;have HX := Lib.hid hx;have HCC := Lib.hid hC
 have HZ0 : Hid (v0.heap.size = C + 3) := by show _ = _;omega
 have HL0 : Hid (RL G v0 A c l) := h.r.below hb0 (by omega)
 have hcm := Rs.max h.r.r
 unfold maxLen at hcm
 unfold mA at hv0 HK0
 unfold actA zS at hv0
 obtain ⟨⟨x0,x1,x2⟩,⟨a0,a1,a2,a3,a4,a5,a6,a7⟩,lz0,lz1,lz2⟩ := HK0.out.cells
 unfold mV actV stepPost
 clear h hx hb0 hk0 hz0 hcm
 have HF := Lib.hid (rem_s HL0.out H.out.m H.out.n x.e.k)
 unfold gotS mV emV at HF
 go_enter Tryz.func14,Tryz.ntmps14
 go_upto_region 1 with fail
 rw [← hv0,← hC]
 clear hv0 hC
 go_wp2_with fail
 refine HF.out.mono ?_
 rintro q w1 ⟨A2,c2,l2,y,rfl,hye,hyr,⟨hr2,hm2,hb⟩⟩
 have HR2 := Lib.hid hr2;have HM2 := Lib.hid hm2
 have HN2 : Hid (l2.length ≤ 1000) := by
  have h1 : l2.length = (remT s x.e.k).l.length := by rw [← hm2];simp
  have h2 := len_s H.out.m x.e.k 0
  have h3 := H.out.n
  show _ ≤ _
  omega
 have HYE := Lib.hid hye;have HYR := Lib.hid hyr
 have HW1 := Lib.hid hb
 have HK1 := Lib.hid (HK0.out.below hb)
 have hz1 : C + 3 ≤ w1.heap.size := by have := hb.size;have := HZ0.out;omega
 clear hye hyr hb HF hr2 hm2 x0 x1 x2 a0 a1 a2 a3 a4 a5 a6 a7 lz0 lz1 lz2
 obtain ⟨⟨x0,x1,x2⟩,⟨a0,a1,a2,a3,a4,a5,a6,a7⟩,lz0,lz1,lz2⟩ := HK1.out.cells
 obtain ⟨v2,hv2⟩ : ∃ v2,v2 = (w1.alloc (.cells #[.int .i64 s.b,.int .i64 s.e,.slice A2 l2.length c2] 32)).alloc (.cells (emA y) 42) := ⟨_,rfl⟩
 obtain ⟨D,hD⟩ : ∃ D,D = w1.heap.size := ⟨_,rfl⟩
 have HDU := Eh.duo_new w1 #[.int .i64 s.b,.int .i64 s.e,.slice A2 l2.length c2] y
 rw [← hv2,← hD] at HDU
 obtain ⟨hd1,hd2,hd3,hd4⟩ := HDU
 have HB2 : Hid (Below w1.heap.size w1 v2) := by show Below _ _ _;rw [← hD];exact hd1
 have HM0 := Lib.hid hd2
 have HD2 := Lib.hid hd3
 have hz2 : Hid (v2.heap.size = D + 2) := by show _ = _;omega
 clear hd1 hd2 hd3 hd4
 have HDD := Lib.hid hD
 have hDC : C + 3 ≤ D := by omega
 have HK2 := Lib.hid (HK1.out.below HB2.out)
 have HBX : Hid (Below C w v2) := (HB0.out.trans (HW1.out.mono (by have := HZ0.out;omega))).trans (HB2.out.mono (by have := HW1.out.size;omega))
 have HS2 : Hid (St F v2 g s) := H.out.st.below (by rw [← HCC.out];exact HBX.out)
 have HY2 := Lib.hid (HYR.out.below HB2.out (Nat.le_refl _))
 have h2s : D + 1 ≤ v2.heap.size := by have := hz2.out;omega
 have HR2B := Lib.hid (HR2.out.below HB2.out (Nat.le_refl _))
 have HG := Lib.hid (rem_any HS2.out x.e.k HX.out.f.k)
 unfold Ep.gotPost emV at HG
 unfold emA at hv2
 go_upto_region 23 with fail
 rw [← hv2,← hD]
 clear hv2 hD x0 x1 x2 a0 a1 a2 a3 a4 a5 a6 a7 lz0 lz1 lz2
 obtain ⟨⟨x0,x1,x2⟩,⟨a0,a1,a2,a3,a4,a5,a6,a7⟩,lz0,lz1,lz2⟩ := HK2.out.cells
 go_wp2_with fail
 refine HG.out.mono ?_
 rintro q w3 ⟨F1,P,z,rfl,hze,hzr,hzw,gv⟩
 have HZE := Lib.hid hze;have HZR := Lib.hid hzr;have HZW := Lib.hid hzw;have GV := Lib.hid gv
 clear hze hzr hzw gv HG
 have HOF : ∀ j,F j → j < C ∨ C + 3 ≤ j := fun j hj => by have := H.out.f j hj;have := HCC.out;omega
 have HK3 := Lib.hid (HK2.out.only GV.out.o HOF)
 have HFD : Hid (∀ j,F j → j < C) := fun j hj => by have := H.out.f j hj;have := HCC.out;omega
 have HGT : Hid (∀ j,Tn G v0 w1 j → (G j ∨ C + 3 ≤ j) ∧ j < v2.heap.size) := fun j hj => by
  rcases hj with h | ⟨h1,h2⟩
  ·exact ⟨Or.inl h,by have := H.out.t j h;have := HCC.out;omega⟩
  ·exact ⟨Or.inr (by have := HZ0.out;omega),by have := HDD.out;omega⟩
 have HFG : Hid (∀ j,F j → ¬ Tn G v0 w1 j) := fun j hf hg => by
  rcases hg with h | ⟨h1,h2⟩
  ·exact H.out.d j hf h
  ·have := HFD.out j hf;have := HZ0.out;omega
 have HD3 := Lib.hid (HD2.out.only GV.out.o (fun hf => by have := HFD.out _ hf;omega))
 have HY3 := Lib.hid (HY2.out.only GV.out.o HFG.out)
 have HM3 := Lib.hid (HM0.out.only GV.out.o (fun hf => by have := HFD.out _ hf;omega))
 obtain ⟨v4,hv4⟩ : ∃ v4,v4 = w3.alloc (.cells (emA z) 42) := ⟨_,rfl⟩
 obtain ⟨E,hE⟩ : ∃ E,E = w3.heap.size := ⟨_,rfl⟩
 have HEE := Lib.hid hE
 have hz3 : v2.heap.size ≤ w3.heap.size := GV.out.o.size
 have hz4 : v2.heap.size ≤ E := by omega
 have HB4 : Hid (Below w3.heap.size w3 v4) := by show Below _ _ _;rw [hv4];exact bnew _ _
 have HE4 : Hid (Blk v4 E (emA z) 42) := by show Blk _ _ _ _;rw [hv4,hE];exact Blk.new _ _ _
 have HK4 := Lib.hid (HK3.out.below HB4.out)
 have HD4 := Lib.hid (HD3.out.below HB4.out HD3.out.lt)
 have HM4 := Lib.hid (HM3.out.below HB4.out HM3.out.lt)
 have HRZ : Hid (∀ j,El.Rows z j → (j < C ∨ v2.heap.size ≤ j) ∧ j < E) := fun j hj => by
  refine ⟨?_,by have := rows_lt HZW.out hj;omega⟩
  rcases GV.out.p j (rows_in' HZR.out hj) with h | h
  ·exact Or.inl (HFD.out j h)
  ·exact Or.inr h
 have HGV := Lib.hid (gives_true (n := lookN s x.e.k) (HYE.out.trans HZE.out.symm) (HZR.out.below HB4.out (Nat.le_refl _)) (HY3.out.below HB4.out (Nat.le_refl _)) (HZW.out.below HB4.out))
 unfold emV at HGV
 have D4 : Only (fun j => El.Rows z j ∨ j = C + 1 + 1) v4 v4.drew := (Only.refl _ _).drew
 unfold emA at hv4
 go_upto_region 24 with fail
 rw [← hv4,← hE]
 clear hv4 hE x0 x1 x2 a0 a1 a2 a3 a4 a5 a6 a7 lz0 lz1 lz2
 have lz0 : C < v4.heap.size := HK4.out.k.lt
 have lz1 : C + 1 + 1 < v4.heap.size := HK4.out.r.lt
 have lz2 : D + 1 < v4.heap.size := HD4.out.lt
 have lz3 : E < v4.heap.size := HE4.out.lt
 have hd2s := hz2.out
 have HRS : Hid (∀ j,(El.Rows z j ∨ j = C + 1 + 1) → (j < C ∨ v2.heap.size ≤ j ∨ j = C + 1 + 1) ∧ j < E) := fun j hj => by
  rcases hj with h | rfl
  ·have := HRZ.out j h;exact ⟨by omega,this.2⟩
  ·exact ⟨by omega,by omega⟩
 have KK : ∀ v,Only (fun j => El.Rows z j ∨ j = C + 1 + 1) v4 v → Blk v C #[.int .i64 s.b,.int .i64 s.e,.slice A l.length c] 32 := fun v hv => HK4.out.k.only hv (fun hj => by have := (HRS.out _ hj).1;omega)
 have KY : ∀ v,Only (fun j => El.Rows z j ∨ j = C + 1 + 1) v4 v → Blk v (D + 1) (emA y) 42 := fun v hv => HD4.out.only hv (fun hj => by have := (HRS.out _ hj).1;omega)
 have KZ : ∀ v,Only (fun j => El.Rows z j ∨ j = C + 1 + 1) v4 v → Blk v E (emA z) 42 := fun v hv => HE4.out.only hv (fun hj => by have := (HRS.out _ hj).2;omega)
 have KM : ∀ v,Only (fun j => El.Rows z j ∨ j = C + 1 + 1) v4 v → Blk v D #[.int .i64 s.b,.int .i64 s.e,.slice A2 l2.length c2] 32 := fun v hv => HM4.out.only hv (fun hj => by have := (HRS.out _ hj).1;omega)
 have tm0 : ∀ v,Only (fun j => El.Rows z j ∨ j = C + 1 + 1) v4 v → v.cell? ⟨D,0,none⟩ = some (.int .i64 s.b) := fun v hv => by have := (KM v hv).cell 0;exact this
 have tm1 : ∀ v,Only (fun j => El.Rows z j ∨ j = C + 1 + 1) v4 v → v.cell? ⟨D,1,none⟩ = some (.int .i64 s.e) := fun v hv => by have := (KM v hv).cell 1;exact this
 have tm2 : ∀ v,Only (fun j => El.Rows z j ∨ j = C + 1 + 1) v4 v → v.cell? ⟨D,2,none⟩ = some (.slice A2 l2.length c2) := fun v hv => by have := (KM v hv).cell 2;exact this
 have ty0 : ∀ v,Only (fun j => El.Rows z j ∨ j = C + 1 + 1) v4 v → v.cell? ⟨D + 1,0,none⟩ = some (.string y.e.k) := fun v hv => by have := (KY v hv).cell 0;exact this
 have ty1 : ∀ v,Only (fun j => El.Rows z j ∨ j = C + 1 + 1) v4 v → v.cell? ⟨D + 1,1,none⟩ = some (.slice y.A y.e.v.length y.a) := fun v hv => by have := (KY v hv).cell 1;exact this
 have ty2 : ∀ v,Only (fun j => El.Rows z j ∨ j = C + 1 + 1) v4 v → v.cell? ⟨D + 1,2,none⟩ = some (.slice y.B y.e.t.length y.b) := fun v hv => by have := (KY v hv).cell 2;exact this
 have ty3 : ∀ v,Only (fun j => El.Rows z j ∨ j = C + 1 + 1) v4 v → v.cell? ⟨D + 1,3,none⟩ = some (.int .u64 y.e.d) := fun v hv => by have := (KY v hv).cell 3;exact this
 have ty4 : ∀ v,Only (fun j => El.Rows z j ∨ j = C + 1 + 1) v4 v → v.cell? ⟨D + 1,4,none⟩ = some (.int .u64 y.e.n) := fun v hv => by have := (KY v hv).cell 4;exact this
 have ty5 : ∀ v,Only (fun j => El.Rows z j ∨ j = C + 1 + 1) v4 v → v.cell? ⟨D + 1,5,none⟩ = some (.int .u64 y.e.s) := fun v hv => by have := (KY v hv).cell 5;exact this
 have tz0 : ∀ v,Only (fun j => El.Rows z j ∨ j = C + 1 + 1) v4 v → v.cell? ⟨E,0,none⟩ = some (.string z.e.k) := fun v hv => by have := (KZ v hv).cell 0;exact this
 have tz1 : ∀ v,Only (fun j => El.Rows z j ∨ j = C + 1 + 1) v4 v → v.cell? ⟨E,1,none⟩ = some (.slice z.A z.e.v.length z.a) := fun v hv => by have := (KZ v hv).cell 1;exact this
 have tz2 : ∀ v,Only (fun j => El.Rows z j ∨ j = C + 1 + 1) v4 v → v.cell? ⟨E,2,none⟩ = some (.slice z.B z.e.t.length z.b) := fun v hv => by have := (KZ v hv).cell 2;exact this
 have tz3 : ∀ v,Only (fun j => El.Rows z j ∨ j = C + 1 + 1) v4 v → v.cell? ⟨E,3,none⟩ = some (.int .u64 z.e.d) := fun v hv => by have := (KZ v hv).cell 3;exact this
 have tz4 : ∀ v,Only (fun j => El.Rows z j ∨ j = C + 1 + 1) v4 v → v.cell? ⟨E,4,none⟩ = some (.int .u64 z.e.n) := fun v hv => by have := (KZ v hv).cell 4;exact this
 have tz5 : ∀ v,Only (fun j => El.Rows z j ∨ j = C + 1 + 1) v4 v → v.cell? ⟨E,5,none⟩ = some (.int .u64 z.e.s) := fun v hv => by have := (KZ v hv).cell 5;exact this
 clear KK KY KZ KM
 generalize hv5 : v4.drew = v5 at D4
 have HGW : Hid (Calls Tryz.prog 29 #[.agg #[.string z.e.k,.slice z.A z.e.v.length z.a,.slice z.B z.e.t.length z.b,.int .u64 z.e.d,.int .u64 z.e.n,.int .u64 z.e.s],.int .i64 (lookN s x.e.k),.agg #[.string y.e.k,.slice y.A y.e.v.length y.a,.slice y.B y.e.t.length y.b,.int .u64 y.e.d,.int .u64 y.e.n,.int .u64 y.e.s],.int .i64 (lookN s x.e.k)] v5 (fun q v' => q = .returned (.bool true) ∧ Only (El.Rows z) v5 v' ∧ ∀ y,Wr v5 y → Wr v' y)) := by
  have b5 : Below v4.heap.size v4 v5 := by rw [← hv5];exact (Below.refl _ _).drew
  have := gives_true (n := lookN s x.e.k) (HYE.out.trans HZE.out.symm) ((HZR.out.below HB4.out (Nat.le_refl _)).below b5 (Nat.le_refl _)) ((HY3.out.below HB4.out (Nat.le_refl _)).below b5 (Nat.le_refl _)) ((HZW.out.below HB4.out).below b5)
  exact this
 clear HGV
 refine wp_region_noPanic ?_
 refine wp_region_held_drew (S := fun v => Only (fun j => El.Rows z j ∨ j = C + 1 + 1) v4 v) (by kernel_rfl) (by rw [hv5];exact D4) (fun hHeld => ?_)
 rw [hv5]
 refine Rg.th 0 (some 156) (v := ?_) rfl (by kernel_rfl) (fun _ _ _ h => h) (by rfl) (by assumption) ?_ ?_
 rotate_left
 ·intro w h;go_simp;first|done|with_reducible rfl
 try simp only [Ap.sc]
 refine Rg.th 1 (some 157) (v := ?_) rfl (by kernel_rfl) (fun _ _ _ h => h) (by rfl) (by assumption) ?_ ?_
 rotate_left
 ·intro w h;go_simp;first|done|with_reducible rfl
 try simp only [Ap.sc]
 refine Rg.th 2 (some 158) (v := ?_) rfl (by kernel_rfl) (fun _ _ _ h => h) (by rfl) (by assumption) ?_ ?_
 rotate_left
 ·intro w h;go_simp;first|done|with_reducible rfl
 try simp only [Ap.sc]
 refine Rg.th 3 (some 159) (v := ?_) rfl (by kernel_rfl) (fun _ _ _ h => h) (by rfl) (by assumption) ?_ ?_
 rotate_left
 ·intro w h;go_simp;first|done|with_reducible rfl
 try simp only [Ap.sc]
 refine Rg.th 4 (some 160) (v := ?_) rfl (by kernel_rfl) (fun _ _ _ h => h) (by rfl) (by assumption) ?_ ?_
 rotate_left
 ·intro w h;go_simp;first|done|with_reducible rfl
 try simp only [Ap.sc]
 refine Rg.th 5 (some 161) (v := ?_) rfl (by kernel_rfl) (fun _ _ _ h => h) (by rfl) (by assumption) ?_ ?_
 rotate_left
 ·intro w h;go_simp;first|done|with_reducible rfl
 try simp only [Ap.sc]
 refine wpAnyH_ready (rs := [6]) (by kernel_rfl) (by simp) ?_
 refine AllReadyH.cons (o := ⟨some 162,_,_,_,_,_⟩) rfl (fun K hK => ?_) AllReadyH.nil
 go_simp
 with_reducible refine HGW.out.mono ?_
 rintro d u6 ⟨rfl,ho,_⟩
 have K6 : Only (El.Rows z) v4 u6 := (by rw [← hv5] at ho;exact ((Only.refl (El.Rows z) v4).drew).trans (ho.mono (fun j _ h => Or.inl h)))
 clear ho
 go_simp
 refine hK.out _ _ (K6.mono (fun j _ h => Or.inl h)) (fun hHeld => ?_)
 clear hK K
 try simp only [Ap.sc]
 refine Rg.th 7 (some 6) (v := ?_) rfl (by kernel_rfl) (fun _ _ _ h => h) (by rfl) (by assumption) ?_ ?_
 rotate_left
 ·intro w h;go_simp;first|done|with_reducible rfl
 try simp only [Ap.sc]
 refine wpAnyH_ready (rs := [8]) (by kernel_rfl) (by simp) ?_
 refine AllReadyH.cons (o := ⟨none,_,_,_,_,_⟩) rfl (fun K hK => ?_) AllReadyH.nil
 go_simp
 have HRU := Lib.hid (HK4.out.r.only K6 (fun hj => by have := (HRZ.out _ hj).1;omega))
 have HRV := HRU.out
 unfold zS at HRV
 obtain ⟨r0,r1,r2,rf0,rf1,rf2⟩ := HRV.three
 have lr := HRV.lt
 clear HRV
 go_simp
 refine hK.out _ _ (only3 (r := C + 1 + 1) (Q := fun j => El.Rows z j ∨ j = C + 1 + 1) (K6.mono (fun j _ h => Or.inl h)) (Or.inr rfl) _ _ _) (fun hHeld => ?_)
 clear hK K
 try simp only [Ap.sc]
 refine Rg.th 9 (some 8) (v := ?_) rfl (by kernel_rfl) (fun _ _ _ h => h) (by rfl) (by assumption) ?_ ?_
 rotate_left
 ·intro w h;go_simp;first|done|with_reducible rfl
 try simp only [Ap.sc]
 refine wpAnyH_done (by kernel_rfl) ?_ _
 refine NoPanic.normal ?_
 obtain ⟨v9,hv9⟩ : ∃ v9,v9 = put3 u6 (C + 1 + 1) (.int .i64 s.b) (.int .i64 s.e) (.slice A2 l2.length c2) := ⟨_,rfl⟩
 have HO9 : Hid (Only (fun j => j = C + 1 + 1) u6 v9) := by show Only _ _ _;rw [hv9];exact put3_only _ _ _ _ _
 have HR9 : Hid (Blk v9 (C + 1 + 1) #[.int .i64 s.b,.int .i64 s.e,.slice A2 l2.length c2] 32) := by show Blk _ _ _ _;rw [hv9];exact put3_blk HRU.out _ _ _
 unfold put3 at hv9
 rw [← hv9]
 clear hv9
 obtain ⟨s0,s1,s2,_⟩ := HR9.out.three
 obtain ⟨F9,G9,h9,o9,f9,g9⟩ := fin_co (Q := fun j => El.Rows z j ∨ j = C + 1 + 1) (v9 := v9) HCC.out H.out HBX.out (by omega) HR2B.out HM2.out HN2.out HGT.out GV.out (((Only.of_below HB4.out (Nat.le_refl _) _).trans (K6.mono (fun j _ h => Or.inl (Or.inl h)))).trans (HO9.out.mono (fun j _ h => Or.inl (Or.inr h)))) (q_got HCC.out H.out (by omega) HGT.out GV.out HZR.out)
 go_wp2_with fail
 exact bodyPost_ret (v := .tuple #[.pointer (some ⟨g,0,none⟩),.agg #[.int .i64 s.b,.int .i64 s.e,.slice A2 l2.length c2],.bool true]) (by simp [results,Tryz.results14,go_sem,s0,s1,s2]) rfl ⟨F9,G9,_,_,_,rfl,h9,o9,f9,g9⟩
set_option maxRecDepth 100000 in
set_option maxHeartbeats 1000000 in
theorem tou_st (h : Co F G w g s A c l) (x : Em) (t : Int) (hx : RE R w x) (ht : 0 ≤ t ∧ t < 18446744073709551616) :
  Calls Tryz.prog 14 #[.pointer (some ⟨g,0,none⟩),mV s.b s.e A l.length c,actV 3 x t] w (stepPost F G w g s (touT s x.e.k t)) := by
 obtain ⟨C,hC⟩ : ∃ C,C = w.heap.size := ⟨_,rfl⟩
 obtain ⟨v0,hv0⟩ : ∃ v0,v0 = ((w.alloc (.cells (mA s.b s.e A l.length c) 32)).alloc (.cells (actA 3 x t) 44)).alloc (.cells zS 32) := ⟨_,rfl⟩
 obtain ⟨hb0,hk0,hz0⟩ := b3_new w (mA s.b s.e A l.length c) (actA 3 x t)
 rw [← hv0,← hC] at hb0 hk0 hz0
 have HB0 := Lib.hid hb0;have HK0 := Lib.hid hk0;have H := Lib.hid h;have HX := Lib.hid hx;have HCC := Lib.hid hC
 have HZ0 : Hid (v0.heap.size = C + 3) := by show _ = _;omega
 have HL0 : Hid (RL G v0 A c l) := h.r.below hb0 (by omega)
 have hcm := Rs.max h.r.r
 unfold maxLen at hcm
 unfold mA at hv0 HK0
 unfold actA zS at hv0
 obtain ⟨⟨x0,x1,x2⟩,⟨a0,a1,a2,a3,a4,a5,a6,a7⟩,lz0,lz1,lz2⟩ := HK0.out.cells
 unfold mV actV stepPost
 clear h hx hb0 hk0 hz0 hcm
 have HT := Lib.hid ht
 have HF := Lib.hid (tou_s HL0.out H.out.m H.out.n x.e.k t HT.out)
 unfold touS mV at HF
 clear ht
 go_enter Tryz.func14,Tryz.ntmps14
 go_upto_region 1 with fail
 rw [← hv0,← hC]
 clear hv0 hC
 go_wp2_with fail
 refine HF.out.mono ?_
 rintro q w1 ⟨A2,c2,l2,rfl,⟨hr2,hm2,hb⟩⟩
 have HR2 := Lib.hid hr2;have HM2 := Lib.hid hm2
 have HN2 : Hid (l2.length ≤ 1000) := by
  have h1 : l2.length = (touT s x.e.k t).l.length := by rw [← hm2];simp
  have h2 := len_s H.out.m x.e.k t
  have h3 := H.out.n
  show _ ≤ _
  omega
 have HW1 := Lib.hid hb
 have HK1 := Lib.hid (HK0.out.below hb)
 have hz1 : C + 3 ≤ w1.heap.size := by have := hb.size;have := HZ0.out;omega
 clear hb HF hr2 hm2 x0 x1 x2 a0 a1 a2 a3 a4 a5 a6 a7 lz0 lz1 lz2
 obtain ⟨⟨x0,x1,x2⟩,⟨a0,a1,a2,a3,a4,a5,a6,a7⟩,lz0,lz1,lz2⟩ := HK1.out.cells
 obtain ⟨v2,hv2⟩ : ∃ v2,v2 = w1.alloc (.cells #[.int .i64 s.b,.int .i64 s.e,.slice A2 l2.length c2] 32) := ⟨_,rfl⟩
 obtain ⟨D,hD⟩ : ∃ D,D = w1.heap.size := ⟨_,rfl⟩
 have HB2 : Hid (Below w1.heap.size w1 v2) := by show Below _ _ _;rw [hv2];exact bnew _ _
 have HM0 : Hid (Blk v2 D #[.int .i64 s.b,.int .i64 s.e,.slice A2 l2.length c2] 32) := by show Blk _ _ _ _;rw [hv2,hD];exact Blk.new _ _ _
 have hz2 : Hid (v2.heap.size = D + 1) := by show _ = _;rw [hv2,hD];simp
 have HDD := Lib.hid hD
 have hDC : C + 3 ≤ D := by omega
 have HK2 := Lib.hid (HK1.out.below HB2.out)
 have HBX : Hid (Below C w v2) := (HB0.out.trans (HW1.out.mono (by have := HZ0.out;omega))).trans (HB2.out.mono (by have := HW1.out.size;omega))
 have h2s : D + 1 ≤ v2.heap.size := by have := hz2.out;omega
 have HFD : Hid (∀ j,F j → j < C) := fun j hj => by have := H.out.f j hj;have := HCC.out;omega
 have HGT : Hid (∀ j,Tn G v0 w1 j → (G j ∨ C + 3 ≤ j) ∧ j < v2.heap.size) := fun j hj => by
  rcases hj with h | ⟨h1,h2⟩
  ·exact ⟨Or.inl h,by have := H.out.t j h;have := HCC.out;omega⟩
  ·exact ⟨Or.inr (by have := HZ0.out;omega),by have := HDD.out;omega⟩
 have HFG : Hid (∀ j,F j → ¬ Tn G v0 w1 j) := fun j hf hg => by
  rcases hg with h | ⟨h1,h2⟩
  ·exact H.out.d j hf h
  ·have := HFD.out j hf;have := HZ0.out;omega
 obtain ⟨v5,hv5⟩ : ∃ v5,v5 = v2.drew := ⟨_,rfl⟩
 have B5 : Below v2.heap.size v2 v5 := by rw [hv5];exact (Below.refl _ _).drew
 have HBY : Hid (Below C w v5) := HBX.out.trans (B5.mono (by omega))
 have HS5 : Hid (St F v5 g s) := H.out.st.below (by rw [← HCC.out];exact HBY.out)
 have HR5 := Lib.hid ((HR2.out.below HB2.out (Nat.le_refl _)).below B5 (Nat.le_refl _))
 have HZ5 : Hid (v5.heap.size = v2.heap.size) := by show _ = _;rw [hv5];rfl
 have HK5 := Lib.hid (HK2.out.below B5)
 have HM5 := Lib.hid (HM0.out.below B5 HM0.out.lt)
 have HB5 := Lib.hid B5
 have HGT5 : Hid (∀ j,Tn G v0 w1 j → (G j ∨ C + 3 ≤ j) ∧ j < v5.heap.size) := fun j hj => by rw [HZ5.out];exact HGT.out j hj
 have HG := Lib.hid (Ep.tou_any HS5.out x.e.k HX.out.f.k t HT.out)
 unfold Ep.touPost at HG
 clear B5
 go_upto_region 20 with fail
 rw [← hv2,← hD]
 clear hv2 hD x0 x1 x2 a0 a1 a2 a3 a4 a5 a6 a7 lz0 lz1 lz2
 have lz0 : C + 1 < v2.heap.size := HK2.out.a.lt
 have lz1 : C + 1 + 1 < v2.heap.size := HK2.out.r.lt
 have lz2 : D < v2.heap.size := HM0.out.lt
 have KA : ∀ v,Only (fun j => F j ∨ j = C + 1 + 1) v2 v → Blk v (C + 1) (actA 3 x t) 44 := fun v hv => HK2.out.a.only hv (fun hj => by rcases hj with hj | hj;have := HFD.out _ hj;omega;omega)
 have KM : ∀ v,Only (fun j => F j ∨ j = C + 1 + 1) v2 v → Blk v D #[.int .i64 s.b,.int .i64 s.e,.slice A2 l2.length c2] 32 := fun v hv => HM0.out.only hv (fun hj => by rcases hj with hj | hj;have := HFD.out _ hj;omega;omega)
 have t0 : ∀ v,Only (fun j => F j ∨ j = C + 1 + 1) v2 v → v.cell? ⟨C + 1,7,none⟩ = some (.int .u64 t) := fun v hv => by have := (KA v hv).cell 7;exact this
 have m0 : ∀ v,Only (fun j => F j ∨ j = C + 1 + 1) v2 v → v.cell? ⟨D,0,none⟩ = some (.int .i64 s.b) := fun v hv => by have := (KM v hv).cell 0;exact this
 have m1 : ∀ v,Only (fun j => F j ∨ j = C + 1 + 1) v2 v → v.cell? ⟨D,1,none⟩ = some (.int .i64 s.e) := fun v hv => by have := (KM v hv).cell 1;exact this
 have m2 : ∀ v,Only (fun j => F j ∨ j = C + 1 + 1) v2 v → v.cell? ⟨D,2,none⟩ = some (.slice A2 l2.length c2) := fun v hv => by have := (KM v hv).cell 2;exact this
 clear KA KM
 have hee : (lookN s x.e.k == lookN s x.e.k) = true := by simp
 refine wp_region_noPanic ?_
 refine wp_region_held_drew (S := fun v => Only (fun j => F j ∨ j = C + 1 + 1) v2 v) (by kernel_rfl) (by rw [← hv5];exact Only.of_below HB5.out (Nat.le_refl _) _) (fun hHeld => ?_)
 rw [← hv5] at hHeld ⊢
 clear hv5
 refine Rg.th 0 (some 132) (v := ?_) rfl (by kernel_rfl) (fun _ _ _ h => h) (by rfl) (by assumption) ?_ ?_
 rotate_left
 ·intro w h;go_simp;first|done|with_reducible rfl
 try simp only [Ap.sc]
 refine Rg.th 1 (some 133) (v := ?_) rfl (by kernel_rfl) (fun _ _ _ h => h) (by rfl) (by assumption) ?_ ?_
 rotate_left
 ·intro w h;go_simp;first|done|with_reducible rfl
 try simp only [Ap.sc]
 refine Rg.th 2 (some 134) (v := ?_) rfl (by kernel_rfl) (fun _ _ _ h => h) (by rfl) (by assumption) ?_ ?_
 rotate_left
 ·intro w h;go_simp;first|done|with_reducible rfl
 try simp only [Ap.sc]
 refine Rg.th 3 (some 135) (v := ?_) rfl (by kernel_rfl) (fun _ _ _ h => h) (by rfl) (by assumption) ?_ ?_
 rotate_left
 ·intro w h;go_simp;first|done|with_reducible rfl
 try simp only [Ap.sc]
 refine Rg.th 4 (some 136) (v := ?_) rfl (by kernel_rfl) (fun _ _ _ h => h) (by rfl) (by assumption) ?_ ?_
 rotate_left
 ·intro w h;go_simp;first|done|with_reducible rfl
 try simp only [Ap.sc]
 refine Rg.th 5 (some 137) (v := ?_) rfl (by kernel_rfl) (fun _ _ _ h => h) (by rfl) (by assumption) ?_ ?_
 rotate_left
 ·intro w h;go_simp;first|done|with_reducible rfl
 try simp only [Ap.sc]
 refine Rg.th 7 (some 139) (v := ?_) rfl (by kernel_rfl) (fun _ _ _ h => h) (by rfl) (by assumption) ?_ ?_
 rotate_left
 ·intro w h;go_simp;first|done|with_reducible rfl
 try simp only [Ap.sc]
 refine wpAnyH_ready (rs := [6]) (by kernel_rfl) (by simp) ?_
 refine AllReadyH.cons (o := ⟨some 138,_,_,_,_,_⟩) rfl (fun K hK => ?_) AllReadyH.nil
 go_simp
 with_reducible refine HG.out.mono ?_
 rintro d u6 ⟨F1,rfl,gv⟩
 have GV := Lib.hid gv
 have KS : Only (fun j => F j ∨ j = C + 1 + 1) v2 u6 := (Only.of_below HB5.out (Nat.le_refl _) _).trans (gv.o.mono (fun j _ h => Or.inl (Or.inl h)))
 clear gv HG
 go_simp
 refine hK.out _ _ (KS) (fun hHeld => ?_)
 clear hK K
 try simp only [Ap.sc]
 refine Rg.th 8 (some 140) (v := ?_) rfl (by kernel_rfl) (fun _ _ _ h => h) (by rfl) (by assumption) ?_ ?_
 rotate_left
 ·intro w h;go_simp;first|done|with_reducible rfl
 try simp only [Ap.sc]
 refine Rg.th 9 (some 6) (v := ?_) rfl (by kernel_rfl) (fun _ _ _ h => h) (by rfl) (by assumption) ?_ ?_
 rotate_left
 ·intro w h;go_simp;first|done|with_reducible rfl
 try simp only [Ap.sc]
 refine wpAnyH_ready (rs := [10]) (by kernel_rfl) (by simp) ?_
 refine AllReadyH.cons (o := ⟨none,_,_,_,_,_⟩) rfl (fun K hK => ?_) AllReadyH.nil
 go_simp
 have HRU := Lib.hid (HK5.out.r.only GV.out.o (fun hj => by have := HFD.out _ hj;omega))
 have HRV := HRU.out
 unfold zS at HRV
 obtain ⟨r0,r1,r2,rf0,rf1,rf2⟩ := HRV.three
 have lr := HRV.lt
 clear HRV
 go_simp
 refine hK.out _ _ (only3 (r := C + 1 + 1) (Q := fun j => F j ∨ j = C + 1 + 1) KS (Or.inr rfl) _ _ _) (fun hHeld => ?_)
 clear hK K
 try simp only [Ap.sc]
 refine Rg.th 11 (some 8) (v := ?_) rfl (by kernel_rfl) (fun _ _ _ h => h) (by rfl) (by assumption) ?_ ?_
 rotate_left
 ·intro w h;go_simp;first|done|with_reducible rfl
 try simp only [Ap.sc]
 refine wpAnyH_done (by kernel_rfl) ?_ _
 refine NoPanic.normal ?_
 obtain ⟨v9,hv9⟩ : ∃ v9,v9 = put3 u6 (C + 1 + 1) (.int .i64 s.b) (.int .i64 s.e) (.slice A2 l2.length c2) := ⟨_,rfl⟩
 have HO9 : Hid (Only (fun j => j = C + 1 + 1) u6 v9) := by show Only _ _ _;rw [hv9];exact put3_only _ _ _ _ _
 have HR9 : Hid (Blk v9 (C + 1 + 1) #[.int .i64 s.b,.int .i64 s.e,.slice A2 l2.length c2] 32) := by show Blk _ _ _ _;rw [hv9];exact put3_blk HRU.out _ _ _
 unfold put3 at hv9
 rw [← hv9]
 clear hv9
 obtain ⟨s0,s1,s2,_⟩ := HR9.out.three
 obtain ⟨F9,G9,h9,o9,f9,g9⟩ := fin_co (Q := fun j => j = C + 1 + 1) (v9 := v9) HCC.out H.out HBY.out (by have := HZ5.out;omega) HR5.out HM2.out HN2.out HGT5.out GV.out HO9.out (fun j hj => by subst hj;exact q_c2 HCC.out H.out (by have := HZ5.out;omega) HGT5.out GV.out)
 go_wp2_with fail
 exact bodyPost_ret (v := .tuple #[.pointer (some ⟨g,0,none⟩),.agg #[.int .i64 s.b,.int .i64 s.e,.slice A2 l2.length c2],.bool true]) (by simp [results,Tryz.results14,go_sem,s0,s1,s2]) rfl ⟨F9,G9,_,_,_,rfl,h9,o9,f9,g9⟩
set_option maxRecDepth 100000 in
set_option maxHeartbeats 1000000 in
theorem exp_st (h : Co F G w g s A c l) (x : Em) (t : Int) (hx : RE R w x) (ht : 0 ≤ t ∧ t < 18446744073709551616) :
  Calls Tryz.prog 14 #[.pointer (some ⟨g,0,none⟩),mV s.b s.e A l.length c,actV 5 x t] w (stepPost F G w g s (expT s t)) := by
 obtain ⟨C,hC⟩ : ∃ C,C = w.heap.size := ⟨_,rfl⟩
 obtain ⟨v0,hv0⟩ : ∃ v0,v0 = ((w.alloc (.cells (mA s.b s.e A l.length c) 32)).alloc (.cells (actA 5 x t) 44)).alloc (.cells zS 32) := ⟨_,rfl⟩
 obtain ⟨hb0,hk0,hz0⟩ := b3_new w (mA s.b s.e A l.length c) (actA 5 x t)
 rw [← hv0,← hC] at hb0 hk0 hz0
 have HB0 := Lib.hid hb0;have HK0 := Lib.hid hk0;have H := Lib.hid h;have HX := Lib.hid hx;have HCC := Lib.hid hC
 have HZ0 : Hid (v0.heap.size = C + 3) := by show _ = _;omega
 have HL0 : Hid (RL G v0 A c l) := h.r.below hb0 (by omega)
 have hcm := Rs.max h.r.r
 unfold maxLen at hcm
 unfold mA at hv0 HK0
 unfold actA zS at hv0
 obtain ⟨⟨x0,x1,x2⟩,⟨a0,a1,a2,a3,a4,a5,a6,a7⟩,lz0,lz1,lz2⟩ := HK0.out.cells
 unfold mV actV stepPost
 clear h hx hb0 hk0 hz0 hcm
 have HT := Lib.hid ht
 have HF := Lib.hid (exp_s HL0.out H.out.m H.out.n t)
 unfold expS' mV at HF
 clear ht
 go_enter Tryz.func14,Tryz.ntmps14
 go_upto_region 1 with fail
 rw [← hv0,← hC]
 clear hv0 hC
 go_wp2_with fail
 refine HF.out.mono ?_
 rintro q w1 ⟨A2,c2,l2,Y,y,m,rfl,hme,hmr,⟨hr2,hm2,hb⟩⟩
 have HME := Lib.hid hme;have HMR := Lib.hid hmr
 have hcy := Rs.max hmr.r
 unfold maxLen at hcy
 have HR2 := Lib.hid hr2;have HM2 := Lib.hid hm2
 have HN2 : Hid (l2.length ≤ 1000) := by
  have h1 : l2.length = (expT s t).l.length := by rw [← hm2];simp
  have h2 := (exp_len id t s.l).1
  have h4 : s.l.length = l.length := by rw [← H.out.m];simp
  have h5 : (expT s t).l.length = (expS id t s.l).length := rfl
  have h3 := H.out.n
  show _ ≤ _
  omega
 have HW1 := Lib.hid hb
 have HK1 := Lib.hid (HK0.out.below hb)
 have hz1 : C + 3 ≤ w1.heap.size := by have := hb.size;have := HZ0.out;omega
 clear hb HF hr2 hm2 hme hmr x0 x1 x2 a0 a1 a2 a3 a4 a5 a6 a7 lz0 lz1 lz2
 obtain ⟨⟨x0,x1,x2⟩,⟨a0,a1,a2,a3,a4,a5,a6,a7⟩,lz0,lz1,lz2⟩ := HK1.out.cells
 obtain ⟨v2,hv2⟩ : ∃ v2,v2 = w1.alloc (.cells #[.int .i64 s.b,.int .i64 s.e,.slice A2 l2.length c2] 32) := ⟨_,rfl⟩
 obtain ⟨D,hD⟩ : ∃ D,D = w1.heap.size := ⟨_,rfl⟩
 have HB2 : Hid (Below w1.heap.size w1 v2) := by show Below _ _ _;rw [hv2];exact bnew _ _
 have HM0 : Hid (Blk v2 D #[.int .i64 s.b,.int .i64 s.e,.slice A2 l2.length c2] 32) := by show Blk _ _ _ _;rw [hv2,hD];exact Blk.new _ _ _
 have hz2 : Hid (v2.heap.size = D + 1) := by show _ = _;rw [hv2,hD];simp
 have HDD := Lib.hid hD
 have hDC : C + 3 ≤ D := by omega
 have HK2 := Lib.hid (HK1.out.below HB2.out)
 have HBX : Hid (Below C w v2) := (HB0.out.trans (HW1.out.mono (by have := HZ0.out;omega))).trans (HB2.out.mono (by have := HW1.out.size;omega))
 have h2s : D + 1 ≤ v2.heap.size := by have := hz2.out;omega
 have HFD : Hid (∀ j,F j → j < C) := fun j hj => by have := H.out.f j hj;have := HCC.out;omega
 have HGT : Hid (∀ j,Tn G v0 w1 j → (G j ∨ C + 3 ≤ j) ∧ j < v2.heap.size) := fun j hj => by
  rcases hj with h | ⟨h1,h2⟩
  ·exact ⟨Or.inl h,by have := H.out.t j h;have := HCC.out;omega⟩
  ·exact ⟨Or.inr (by have := HZ0.out;omega),by have := HDD.out;omega⟩
 have HFG : Hid (∀ j,F j → ¬ Tn G v0 w1 j) := fun j hf hg => by
  rcases hg with h | ⟨h1,h2⟩
  ·exact H.out.d j hf h
  ·have := HFD.out j hf;have := HZ0.out;omega
 obtain ⟨v5,hv5⟩ : ∃ v5,v5 = v2.drew := ⟨_,rfl⟩
 have B5 : Below v2.heap.size v2 v5 := by rw [hv5];exact (Below.refl _ _).drew
 have HBY : Hid (Below C w v5) := HBX.out.trans (B5.mono (by omega))
 have HS5 : Hid (St F v5 g s) := H.out.st.below (by rw [← HCC.out];exact HBY.out)
 have HR5 := Lib.hid ((HR2.out.below HB2.out (Nat.le_refl _)).below B5 (Nat.le_refl _))
 have HZ5 : Hid (v5.heap.size = v2.heap.size) := by show _ = _;rw [hv5];rfl
 have HK5 := Lib.hid (HK2.out.below B5)
 have HM5 := Lib.hid (HM0.out.below B5 HM0.out.lt)
 have HB5 := Lib.hid B5
 have HGT5 : Hid (∀ j,Tn G v0 w1 j → (G j ∨ C + 3 ≤ j) ∧ j < v5.heap.size) := fun j hj => by rw [HZ5.out];exact HGT.out j hj
 have HMR5 := Lib.hid ((HMR.out.below HB2.out (Nat.le_refl _)).below B5 (Nat.le_refl _))
 have HG := Lib.hid (Ep.exp_any HS5.out t HT.out)
 unfold Ep.expPost at HG
 clear B5
 go_upto_region 27 with fail
 rw [← hv2,← hD]
 clear hv2 hD x0 x1 x2 a0 a1 a2 a3 a4 a5 a6 a7 lz0 lz1 lz2
 have lz0 : C + 1 < v2.heap.size := HK2.out.a.lt
 have lz1 : C + 1 + 1 < v2.heap.size := HK2.out.r.lt
 have lz2 : D < v2.heap.size := HM0.out.lt
 have KA : ∀ v,Only (fun j => F j ∨ j = C + 1 + 1) v2 v → Blk v (C + 1) (actA 5 x t) 44 := fun v hv => HK2.out.a.only hv (fun hj => by rcases hj with hj | hj;have := HFD.out _ hj;omega;omega)
 have KM : ∀ v,Only (fun j => F j ∨ j = C + 1 + 1) v2 v → Blk v D #[.int .i64 s.b,.int .i64 s.e,.slice A2 l2.length c2] 32 := fun v hv => HM0.out.only hv (fun hj => by rcases hj with hj | hj;have := HFD.out _ hj;omega;omega)
 have t0 : ∀ v,Only (fun j => F j ∨ j = C + 1 + 1) v2 v → v.cell? ⟨C + 1,7,none⟩ = some (.int .u64 t) := fun v hv => by have := (KA v hv).cell 7;exact this
 have m0 : ∀ v,Only (fun j => F j ∨ j = C + 1 + 1) v2 v → v.cell? ⟨D,0,none⟩ = some (.int .i64 s.b) := fun v hv => by have := (KM v hv).cell 0;exact this
 have m1 : ∀ v,Only (fun j => F j ∨ j = C + 1 + 1) v2 v → v.cell? ⟨D,1,none⟩ = some (.int .i64 s.e) := fun v hv => by have := (KM v hv).cell 1;exact this
 have m2 : ∀ v,Only (fun j => F j ∨ j = C + 1 + 1) v2 v → v.cell? ⟨D,2,none⟩ = some (.slice A2 l2.length c2) := fun v hv => by have := (KM v hv).cell 2;exact this
 clear KA KM
 refine wp_region_noPanic ?_
 refine wp_region_held_drew (S := fun v => Only (fun j => F j ∨ j = C + 1 + 1) v2 v) (by kernel_rfl) (by rw [← hv5];exact Only.of_below HB5.out (Nat.le_refl _) _) (fun hHeld => ?_)
 rw [← hv5] at hHeld ⊢
 clear hv5
 refine Rg.th 0 (some 172) (v := ?_) rfl (by kernel_rfl) (fun _ _ _ h => h) (by rfl) (by assumption) ?_ ?_
 rotate_left
 ·intro w h;go_simp;first|done|with_reducible rfl
 try simp only [Ap.sc]
 refine Rg.th 1 (some 173) (v := ?_) rfl (by kernel_rfl) (fun _ _ _ h => h) (by rfl) (by assumption) ?_ ?_
 rotate_left
 ·intro w h;go_simp;first|done|with_reducible rfl
 try simp only [Ap.sc]
 refine Rg.th 2 (some 174) (v := ?_) rfl (by kernel_rfl) (fun _ _ _ h => h) (by rfl) (by assumption) ?_ ?_
 rotate_left
 ·intro w h;go_simp;first|done|with_reducible rfl
 try simp only [Ap.sc]
 refine Rg.th 3 (some 175) (v := ?_) rfl (by kernel_rfl) (fun _ _ _ h => h) (by rfl) (by assumption) ?_ ?_
 rotate_left
 ·intro w h;go_simp;first|done|with_reducible rfl
 try simp only [Ap.sc]
 refine Rg.th 4 (some 176) (v := ?_) rfl (by kernel_rfl) (fun _ _ _ h => h) (by rfl) (by assumption) ?_ ?_
 rotate_left
 ·intro w h;go_simp;first|done|with_reducible rfl
 try simp only [Ap.sc]
 refine Rg.th 6 (some 178) (v := ?_) rfl (by kernel_rfl) (fun _ _ _ h => h) (by rfl) (by assumption) ?_ ?_
 rotate_left
 ·intro w h;go_simp;first|done|with_reducible rfl
 try simp only [Ap.sc]
 refine wpAnyH_ready (rs := [5]) (by kernel_rfl) (by simp) ?_
 refine AllReadyH.cons (o := ⟨some 177,_,_,_,_,_⟩) rfl (fun K hK => ?_) AllReadyH.nil
 go_simp
 with_reducible refine HG.out.mono ?_
 rintro d u6 ⟨F1,P,Z,z,k,rfl,hke,hkd,gv⟩
 have HKE := Lib.hid hke;have HKD := Lib.hid hkd;have GV := Lib.hid gv
 have KS6 : Only (fun j => F j ∨ j = C + 1 + 1) v2 u6 := (Only.of_below HB5.out (Nat.le_refl _) _).trans (gv.o.mono (fun j _ h => Or.inl (Or.inl h)))
 have hck := Rs.max hkd.r.r
 unfold maxLen at hck
 have HAL := Lib.hid (lall_true rfl rfl (HME.out.trans hke.symm) hkd.r (HMR5.out.only gv.o HFG.out) hkd.w hkd.a)
 clear hke hkd gv HG
 go_simp
 refine hK.out _ _ (KS6) (fun hHeld => ?_)
 clear hK K
 try simp only [Ap.sc]
 refine wpAnyH_ready (rs := [7]) (by kernel_rfl) (by simp) ?_
 refine AllReadyH.cons (o := ⟨some 179,_,_,_,_,_⟩) rfl (fun K hK => ?_) AllReadyH.nil
 go_simp
 with_reducible refine HAL.out.mono ?_
 rintro d u7 ⟨rfl,ho,_⟩
 have HRP : Hid (∀ j,RowsL k j → P j) := fun j hj => by
  obtain ⟨y,hy,hr⟩ := hj
  exact rows_in' (HKD.out.r.e y hy) hr
 have HO7 := Lib.hid ho
 have KS : Only (fun j => F j ∨ j = C + 1 + 1) v2 u7 := KS6.trans (ho.mono (fun j _ h => by
  rcases GV.out.p j (HRP.out j h) with q | q
  ·exact Or.inl (Or.inl q)
  ·exact Or.inr (by rw [← HZ5.out];exact q)))
 clear ho
 go_simp
 refine hK.out _ _ (KS) (fun hHeld => ?_)
 clear hK K
 try simp only [Ap.sc]
 refine Rg.th 8 (some 6) (v := ?_) rfl (by kernel_rfl) (fun _ _ _ h => h) (by rfl) (by assumption) ?_ ?_
 rotate_left
 ·intro w h;go_simp;first|done|with_reducible rfl
 try simp only [Ap.sc]
 refine wpAnyH_ready (rs := [9]) (by kernel_rfl) (by simp) ?_
 refine AllReadyH.cons (o := ⟨none,_,_,_,_,_⟩) rfl (fun K hK => ?_) AllReadyH.nil
 go_simp
 have h7 : ∀ j,RowsL k j → ¬ j = C + 1 + 1 := fun j hj e => by
  subst e
  rcases GV.out.p _ (HRP.out _ hj) with q | q
  ·have := HFD.out _ q;omega
  ·have := HZ5.out;omega
 have HRU := Lib.hid ((HK5.out.r.only GV.out.o (fun hj => by have := HFD.out _ hj;omega)).only HO7.out (fun hj => h7 _ hj rfl))
 have HRV := HRU.out
 unfold zS at HRV
 obtain ⟨r0,r1,r2,rf0,rf1,rf2⟩ := HRV.three
 have lr := HRV.lt
 clear HRV
 go_simp
 refine hK.out _ _ (only3 (r := C + 1 + 1) (Q := fun j => F j ∨ j = C + 1 + 1) KS (Or.inr rfl) _ _ _) (fun hHeld => ?_)
 clear hK K
 try simp only [Ap.sc]
 refine Rg.th 10 (some 8) (v := ?_) rfl (by kernel_rfl) (fun _ _ _ h => h) (by rfl) (by assumption) ?_ ?_
 rotate_left
 ·intro w h;go_simp;first|done|with_reducible rfl
 try simp only [Ap.sc]
 refine wpAnyH_done (by kernel_rfl) ?_ _
 refine NoPanic.normal ?_
 obtain ⟨v9,hv9⟩ : ∃ v9,v9 = put3 u7 (C + 1 + 1) (.int .i64 s.b) (.int .i64 s.e) (.slice A2 l2.length c2) := ⟨_,rfl⟩
 have HO9 : Hid (Only (fun j => j = C + 1 + 1) u7 v9) := by show Only _ _ _;rw [hv9];exact put3_only _ _ _ _ _
 have HR9 : Hid (Blk v9 (C + 1 + 1) #[.int .i64 s.b,.int .i64 s.e,.slice A2 l2.length c2] 32) := by show Blk _ _ _ _;rw [hv9];exact put3_blk HRU.out _ _ _
 unfold put3 at hv9
 rw [← hv9]
 clear hv9
 obtain ⟨s0,s1,s2,_⟩ := HR9.out.three
 obtain ⟨F9,G9,h9,o9,f9,g9⟩ := fin_co (Q := fun j => RowsL k j ∨ j = C + 1 + 1) (v9 := v9) HCC.out H.out HBY.out (by have := HZ5.out;omega) HR5.out HM2.out HN2.out HGT5.out GV.out ((HO7.out.mono (fun j _ h => Or.inl h)).trans (HO9.out.mono (fun j _ h => Or.inl (Or.inr h)))) (fun j hj => by
  rcases hj with hj | rfl
  ·exact q_p HCC.out H.out (by have := HZ5.out;omega) HGT5.out GV.out (HRP.out j hj)
  ·exact q_c2 HCC.out H.out (by have := HZ5.out;omega) HGT5.out GV.out)
 go_wp2_with fail
 exact bodyPost_ret (v := .tuple #[.pointer (some ⟨g,0,none⟩),.agg #[.int .i64 s.b,.int .i64 s.e,.slice A2 l2.length c2],.bool true]) (by simp [results,Tryz.results14,go_sem,s0,s1,s2]) rfl ⟨F9,G9,_,_,_,rfl,h9,o9,f9,g9⟩
def copyPost (F G : Nat → Prop) (w : World) (s : Sx) : Ending → World → Prop := fun q w' => ∃ g F' G' A c l,q = .returned (.tuple #[.pointer (some ⟨g,0,none⟩),mV s.b s.e A l.length c,.bool true]) ∧ Co F' G' w' g s A c l ∧ Only F w w' ∧ (∀ j,F' j → More F w j) ∧ (∀ j,G' j → More G w j)
def othM (D : Nat) : Em := ⟨⟨⟨#[111,116,104,101,114]⟩,[1],[],0,0,0⟩,some ⟨D,0,none⟩,1,none,0⟩
theorem oth_re (w : World) : RE (fun j => j = w.heap.size) (w.alloc (.cells #[.int .u8 1] 5)) (othM w.heap.size) :=
 ⟨⟨(by decide : (5 : Nat) ≤ 1000000),(by decide : (1 : Nat) ≤ 1000000),(by decide : (0 : Nat) ≤ 1000),by simp [othM],(by decide : (0 : Int) ≤ 0 ∧ (0 : Int) < 18446744073709551616),(by decide : (0 : Int) ≤ 0 ∧ (0 : Int) < 18446744073709551616),(by decide : (0 : Int) ≤ 0 ∧ (0 : Int) < 18446744073709551616)⟩,Rs.mine (mine_laid (sz := 1) w #[.int .u8 1] _ 5 1 rfl rfl (by omega)),Rs.nil _ _,(fun a e => by cases e;rfl),(fun a e => by cases e)⟩
set_option maxRecDepth 100000 in
set_option maxHeartbeats 1000000 in
theorem copy_st (h : Co F G w g s A c l) (x : Em) (t : Int) (hx : RE R w x) (n : Int) (hn : n ≠ 0 ∧ n ≠ 1 ∧ n ≠ 2 ∧ n ≠ 3 ∧ n ≠ 4 ∧ n ≠ 5) :
  Calls Tryz.prog 14 #[.pointer (some ⟨g,0,none⟩),mV s.b s.e A l.length c,actV n x t] w (copyPost F G w s) := by
 obtain ⟨C,hC⟩ : ∃ C,C = w.heap.size := ⟨_,rfl⟩
 obtain ⟨v0,hv0⟩ : ∃ v0,v0 = ((w.alloc (.cells (mA s.b s.e A l.length c) 32)).alloc (.cells (actA n x t) 44)).alloc (.cells zS 32) := ⟨_,rfl⟩
 obtain ⟨hb0,hk0,hz0⟩ := b3_new w (mA s.b s.e A l.length c) (actA n x t)
 rw [← hv0,← hC] at hb0 hk0 hz0
 have HB0 := Lib.hid hb0;have HK0 := Lib.hid hk0;have H := Lib.hid h;have HX := Lib.hid hx;have HCC := Lib.hid hC
 have HZ0 : Hid (v0.heap.size = C + 3) := by show _ = _;omega
 have HL0 : Hid (RL G v0 A c l) := h.r.below hb0 (by omega)
 have hcm := Rs.max h.r.r
 unfold maxLen at hcm
 unfold mA at hv0 HK0
 unfold actA zS at hv0
 obtain ⟨⟨x0,x1,x2⟩,⟨a0,a1,a2,a3,a4,a5,a6,a7⟩,lz0,lz1,lz2⟩ := HK0.out.cells
 unfold mV actV copyPost
 clear h hx hb0 hk0 hz0 hcm
 obtain ⟨n0,n1,n2,n3,n4,n5⟩ := hn
 have b0 : (n == 0) = false := by simpa using n0
 have b1 : (n == 1) = false := by simpa using n1
 have b2 : (n == 2) = false := by simpa using n2
 have b3 : (n == 3) = false := by simpa using n3
 have b4 : (n == 4) = false := by simpa using n4
 have b5 : (n == 5) = false := by simpa using n5
 clear n0 n1 n2 n3 n4 n5
 have HS0 : Hid (St F v0 g s) := H.out.st.below (by rw [← HCC.out];exact HB0.out)
 have HCP := Lib.hid (Ep.copy_any HS0.out)
 unfold mkPost at HCP
 go_enter Tryz.func14,Tryz.ntmps14
 go_upto_region 1 with fail
 rw [← hv0,← hC]
 clear hv0 hC
 go_wp2_with fail
 refine HCP.out.mono ?_
 rintro q w1 ⟨g1,FC,rfl,hsc,hfc,hb⟩
 have HK1 := Lib.hid (HK0.out.below hb)
 have HSC := Lib.hid hsc.tight
 have HFC := Lib.hid hfc
 have HB1 : Hid (Below C w w1) := HB0.out.trans (hb.mono (by have := HZ0.out;omega))
 have hz1 : v0.heap.size ≤ w1.heap.size := hb.size
 clear hsc hfc hb HCP x0 x1 x2 a0 a1 a2 a3 a4 a5 a6 a7 lz0 lz1 lz2
 obtain ⟨⟨x0,x1,x2⟩,⟨a0,a1,a2,a3,a4,a5,a6,a7⟩,lz0,lz1,lz2⟩ := HK1.out.cells
 have HFD : Hid (∀ j,F j → j < C) := fun j hj => by have := H.out.f j hj;have := HCC.out;omega
 obtain ⟨v2,hv2⟩ : ∃ v2,v2 = w1.alloc (.cells #[.int .u8 1] 5) := ⟨_,rfl⟩
 obtain ⟨D,hD⟩ : ∃ D,D = w1.heap.size := ⟨_,rfl⟩
 have HB2 : Hid (Below w1.heap.size w1 v2) := by show Below _ _ _;rw [hv2];exact bnew _ _
 have HO : Hid (RE (fun j => j = D) v2 (othM D)) := by show RE _ _ _;rw [hv2,hD];exact oth_re w1
 have HDD := Lib.hid hD
 have HS2 : Hid (St F v2 g s) := H.out.st.below (by rw [← HCC.out];exact HB1.out.trans (HB2.out.mono (by have := HZ0.out;omega)))
 have HPU := Lib.hid (Ep.put_re HS2.out HO.out (fun j hf e => by have := HFD.out j hf;have := HZ0.out;omega))
 unfold Ep.putPost emV at HPU
 simp only [othM,List.length_cons,List.length_nil] at HPU
 have HK2 := Lib.hid (HK1.out.below HB2.out)
 clear hD
 go_wp2_with fail
 rw [← hv2]
 rw [← HDD.out]
 clear hv2 x0 x1 x2 a0 a1 a2 a3 a4 a5 a6 a7 lz0 lz1 lz2
 refine HPU.out.mono ?_
 rintro q w3 ⟨F1,P1,A1,c1,m1,rfl,_,_,gv1⟩
 have O3 : Hid (Only F v2 w3) := gv1.o
 have M3 : Hid (∀ j,F1 j → More F v2 j) := gv1.f
 have HS3 := Lib.hid gv1.s
 clear gv1 HPU
 have HUS := Lib.hid (Ep.use_any HS3.out ⟨#[97]⟩ (by decide))
 unfold Ep.gotPost at HUS
 go_wp2_with fail
 refine HUS.out.mono ?_
 rintro q w4 ⟨F2,P2,y2,rfl,_,_,_,gv2⟩
 have O4 : Hid (Only F v2 w4) := O3.out.trans (gv2.o.mono (fun j _ h => M3.out j h))
 have M4 : Hid (∀ j,F2 j → More F v2 j) := fun j hj => by
  rcases gv2.f j hj with h | h
  ·exact M3.out j h
  ·exact Or.inr (by have := O3.out.size;omega)
 have HS4 := Lib.hid gv2.s
 clear gv2 HUS
 have HRE := Lib.hid (Ep.rem_any HS4.out ⟨#[98]⟩ (by decide))
 unfold Ep.gotPost at HRE
 go_wp2_with fail
 refine HRE.out.mono ?_
 rintro q w5 ⟨F3,P3,y3,rfl,_,_,_,gv3⟩
 have O5 : Hid (Only F v2 w5) := O4.out.trans (gv3.o.mono (fun j _ h => M4.out j h))
 have M5 : Hid (∀ j,F3 j → More F v2 j) := fun j hj => by
  rcases gv3.f j hj with h | h
  ·exact M4.out j h
  ·exact Or.inr (by have := O4.out.size;omega)
 have HS5 := Lib.hid gv3.s
 clear gv3 HRE
 have HEX := Lib.hid (Ep.exp_any HS5.out 1099511627776 (by decide))
 unfold Ep.expPost at HEX
 go_wp2_with fail
 refine HEX.out.mono ?_
 rintro q w6 ⟨F4,P4,A4,c4,m4,rfl,_,_,gv4⟩
 have O6 : Hid (Only F v2 w6) := O5.out.trans (gv4.o.mono (fun j _ h => M5.out j h))
 clear gv4 HEX
 have HK6 := Lib.hid (HK2.out.only O6.out (fun j hj => Or.inl (HFD.out j hj)))
 have lz0 : C < w6.heap.size := HK6.out.k.lt
 have lz1 : C + 1 + 1 < w6.heap.size := HK6.out.r.lt
 have KM : ∀ v,Only (fun j => j = C + 1 + 1) w6 v → Blk v C #[.int .i64 s.b,.int .i64 s.e,.slice A l.length c] 32 := fun v hv => HK6.out.k.only hv (fun hj => by omega)
 have m0 : ∀ v,Only (fun j => j = C + 1 + 1) w6 v → v.cell? ⟨C,0,none⟩ = some (.int .i64 s.b) := fun v hv => by have := (KM v hv).cell 0;exact this
 have m1 : ∀ v,Only (fun j => j = C + 1 + 1) w6 v → v.cell? ⟨C,1,none⟩ = some (.int .i64 s.e) := fun v hv => by have := (KM v hv).cell 1;exact this
 have m2 : ∀ v,Only (fun j => j = C + 1 + 1) w6 v → v.cell? ⟨C,2,none⟩ = some (.slice A l.length c) := fun v hv => by have := (KM v hv).cell 2;exact this
 clear KM
 obtain ⟨v7,hv7⟩ : ∃ v7,v7 = w6.drew := ⟨_,rfl⟩
 have D7 : Hid (Only (fun _ => False) w6 v7) := by show Only _ _ _;rw [hv7];exact (Only.refl _ _).drew
 have D6 : Only (fun j => j = C + 1 + 1) w6 v7 := D7.out.mono (fun _ _ h => h.elim)
 have HR6 := Lib.hid (HK6.out.r.only D7.out (fun h => h))
 go_upto_region 33 with fail
 refine wp_region_noPanic ?_
 refine wp_region_held_drew (S := fun v => Only (fun j => j = C + 1 + 1) w6 v) (by kernel_rfl) (by rw [← hv7];exact D6) (fun hHeld => ?_)
 rw [← hv7] at hHeld ⊢
 clear hv7
 refine Rg.th 0 (some 192) (v := ?_) rfl (by kernel_rfl) (fun _ _ _ h => h) (by rfl) (by assumption) ?_ ?_
 rotate_left
 ·intro w h;go_simp;first|done|with_reducible rfl
 try simp only [Ap.sc]
 refine Rg.th 1 (some 193) (v := ?_) rfl (by kernel_rfl) (fun _ _ _ h => h) (by rfl) (by assumption) ?_ ?_
 rotate_left
 ·intro w h;go_simp;first|done|with_reducible rfl
 try simp only [Ap.sc]
 refine Rg.th 2 (some 194) (v := ?_) rfl (by kernel_rfl) (fun _ _ _ h => h) (by rfl) (by assumption) ?_ ?_
 rotate_left
 ·intro w h;go_simp;first|done|with_reducible rfl
 try simp only [Ap.sc]
 refine Rg.th 3 (some 195) (v := ?_) rfl (by kernel_rfl) (fun _ _ _ h => h) (by rfl) (by assumption) ?_ ?_
 rotate_left
 ·intro w h;go_simp;first|done|with_reducible rfl
 try simp only [Ap.sc]
 refine Rg.th 4 (some 6) (v := ?_) rfl (by kernel_rfl) (fun _ _ _ h => h) (by rfl) (by assumption) ?_ ?_
 rotate_left
 ·intro w h;go_simp;first|done|with_reducible rfl
 try simp only [Ap.sc]
 refine wpAnyH_ready (rs := [5]) (by kernel_rfl) (by simp) ?_
 refine AllReadyH.cons (o := ⟨none,_,_,_,_,_⟩) rfl (fun K hK => ?_) AllReadyH.nil
 go_simp
 have HRU := Lib.hid HR6.out
 have HRV := HRU.out
 unfold zS at HRV
 obtain ⟨r0,r1,r2,rf0,rf1,rf2⟩ := HRV.three
 have lr := HRV.lt
 clear HRV
 go_simp
 refine hK.out _ _ (only3 (r := C + 1 + 1) (Q := fun j => j = C + 1 + 1) D6 rfl _ _ _) (fun hHeld => ?_)
 clear hK K
 try simp only [Ap.sc]
 refine Rg.th 6 (some 8) (v := ?_) rfl (by kernel_rfl) (fun _ _ _ h => h) (by rfl) (by assumption) ?_ ?_
 rotate_left
 ·intro w h;go_simp;first|done|with_reducible rfl
 try simp only [Ap.sc]
 refine wpAnyH_done (by kernel_rfl) ?_ _
 refine NoPanic.normal ?_
 obtain ⟨v9,hv9⟩ : ∃ v9,v9 = put3 v7 (C + 1 + 1) (.int .i64 s.b) (.int .i64 s.e) (.slice A l.length c) := ⟨_,rfl⟩
 have HO9 : Hid (Only (fun j => j = C + 1 + 1) v7 v9) := by show Only _ _ _;rw [hv9];exact put3_only _ _ _ _ _
 have HR9 : Hid (Blk v9 (C + 1 + 1) #[.int .i64 s.b,.int .i64 s.e,.slice A l.length c] 32) := by show Blk _ _ _ _;rw [hv9];exact put3_blk HRU.out _ _ _
 unfold put3 at hv9
 rw [← hv9]
 clear hv9
 obtain ⟨s0,s1,s2,_⟩ := HR9.out.three
 have HSE : Hid (St (fun j => FC j ∧ j < w1.heap.size) v9 g1 s) := by
  have k1 := HSC.out.below HB2.out
  have k2 := k1.only O6.out (fun j hj hf => by have := HFC.out j hj.1;have := HFD.out j hf;have := HZ0.out;omega)
  exact (k2.only D7.out (fun _ _ h => h)).only HO9.out (fun j hj e => by have := HFC.out j hj.1;have := HZ0.out;omega)
 have o9 : Only F w v9 := by
  refine (((Only.of_below (HB1.out.trans (HB2.out.mono (by have := HZ0.out;omega))) (by have := HCC.out;omega) F).trans (O6.out.mono (fun j _ h => Or.inl h))).trans (D7.out.mono (fun j _ h => h.elim))).trans (HO9.out.mono (fun j _ h => Or.inr (by have := HCC.out;omega)))
 have hr9 : RL G v9 A c l := by
  have k1 := H.out.r.below (HB1.out.trans (HB2.out.mono (by have := HZ0.out;omega))) (by have := HCC.out;omega)
  have k2 := k1.only O6.out (fun j hf hg => H.out.d j hf hg)
  exact (k2.only D7.out (fun _ h _ => h)).only HO9.out (fun j hj hg => by have := H.out.t j hg;have := HCC.out;omega)
 have h9 : Co (fun j => FC j ∧ j < w1.heap.size) G v9 g1 s A c l := ⟨HSE.out,hr9,H.out.m,fun j hf hg => by have := HFC.out j hf.1;have := H.out.t j hg;have := HZ0.out;have := HCC.out;omega,fun j hf => by have := hf.2;have := HB2.out.size;have := O6.out.size;have := HO9.out.size;have := D7.out.size;omega,fun j hg => by have := H.out.t j hg;have := o9.size;omega,H.out.n⟩
 have f9 : ∀ j,(FC j ∧ j < w1.heap.size) → More F w j := fun j hj => Or.inr (by have := HFC.out j hj.1;have := HZ0.out;have := HCC.out;omega)
 have g9 : ∀ j,G j → More G w j := fun j hj => Or.inl hj
 go_wp2_with fail
 exact bodyPost_ret (v := .tuple #[.pointer (some ⟨g1,0,none⟩),.agg #[.int .i64 s.b,.int .i64 s.e,.slice A l.length c],.bool true]) (by simp [results,Tryz.results14,go_sem,s0,s1,s2]) rfl ⟨g1,_,G,_,_,_,rfl,h9,o9,f9,g9⟩
set_option maxRecDepth 100000 in
set_option maxHeartbeats 1000000 in
theorem put_st (h : Co F G w g s A c l) (x : Em) (t : Int) (hx : RE R w x) (hxo : ∀ v,Only F w v → RE R v x) (hll : l.length < 1000) :
  Calls Tryz.prog 14 #[.pointer (some ⟨g,0,none⟩),mV s.b s.e A l.length c,actV 0 x t] w (stepPost F G w g s (putT s x.e)) := by
 obtain ⟨C,hC⟩ : ∃ C,C = w.heap.size := ⟨_,rfl⟩
 obtain ⟨v0,hv0⟩ : ∃ v0,v0 = ((w.alloc (.cells (mA s.b s.e A l.length c) 32)).alloc (.cells (actA 0 x t) 44)).alloc (.cells zS 32) := ⟨_,rfl⟩
 obtain ⟨hb0,hk0,hz0⟩ := b3_new w (mA s.b s.e A l.length c) (actA 0 x t)
 rw [← hv0,← hC] at hb0 hk0 hz0
 have HB0 := Lib.hid hb0;have HK0 := Lib.hid hk0;have H := Lib.hid h;have HX := Lib.hid hx;have HCC := Lib.hid hC
 have HZ0 : Hid (v0.heap.size = C + 3) := by show _ = _;omega
 have HL0 : Hid (RL G v0 A c l) := h.r.below hb0 (by omega)
 have hcm := Rs.max h.r.r
 unfold maxLen at hcm
 unfold mA at hv0 HK0
 unfold actA zS at hv0
 obtain ⟨⟨x0,x1,x2⟩,⟨a0,a1,a2,a3,a4,a5,a6,a7⟩,lz0,lz1,lz2⟩ := HK0.out.cells
 unfold mV actV stepPost
 clear h hx hb0 hk0 hz0 hcm
 have HXO := Lib.hid hxo;have HLL := Lib.hid hll
 clear hxo hll
 have HX0 := Lib.hid (HX.out.below HB0.out (by rw [HCC.out];exact Nat.le_refl _))
 have HCO := Lib.hid (Ed.copy_any x v0 HX0.out)
 unfold Ed.copyPost emV at HCO
 go_enter Tryz.func14,Tryz.ntmps14
 go_upto_region 1 with fail
 rw [← hv0,← hC]
 clear hv0 hC
 go_wp2_with fail
 refine HCO.out.mono ?_
 rintro q w1 ⟨y,hye,rfl,hyo,hb⟩
 have HYE := Lib.hid hye;have HYO := Lib.hid hyo;have HW1 := Lib.hid hb
 have HK1 := Lib.hid (HK0.out.below hb)
 have hz1 : C + 3 ≤ w1.heap.size := by have := hb.size;have := HZ0.out;omega
 have hfy := hyo.f
 have hvy := hfy.v;have hty := hfy.t
 clear hye hyo hb HCO hfy x0 x1 x2 a0 a1 a2 a3 a4 a5 a6 a7 lz0 lz1 lz2
 obtain ⟨⟨x0,x1,x2⟩,⟨a0,a1,a2,a3,a4,a5,a6,a7⟩,lz0,lz1,lz2⟩ := HK1.out.cells
 obtain ⟨v1,hv1⟩ : ∃ v1,v1 = w1.alloc (.cells (emA y) 42) := ⟨_,rfl⟩
 obtain ⟨D,hD⟩ : ∃ D,D = w1.heap.size := ⟨_,rfl⟩
 have HDD := Lib.hid hD
 have hDC : C + 3 ≤ D := by omega
 have HB1 : Hid (Below w1.heap.size w1 v1) := by show Below _ _ _;rw [hv1];exact bnew _ _
 have HY1 : Hid (Blk v1 D (emA y) 42) := by show Blk _ _ _ _;rw [hv1,hD];exact Blk.new _ _ _
 have HZ1 : Hid (v1.heap.size = D + 1) := by show _ = _;rw [hv1,hD];simp
 have HK1b := Lib.hid (HK1.out.below HB1.out)
 have HBV : Hid (Below C w v1) := (HB0.out.trans (HW1.out.mono (by have := HZ0.out;omega))).trans (HB1.out.mono (by omega))
 have HR1 : Hid (RL G v1 A c l) := H.out.r.below HBV.out (by have := HCC.out;omega)
 have HX1 : Hid (RE R v1 x) := HX.out.below HBV.out (by have := HCC.out;omega)
 have HF := Lib.hid (put_s HR1.out H.out.m H.out.n (Ep.St.ok H.out.st).bb x HX1.out)
 unfold putS mV emV at HF
 unfold emA at hv1
 have HY1c := HY1.out
 unfold emA at HY1c
 go_upto_region 5 with fail
 rw [← hv1,← hD]
 clear hv1 hD x0 x1 x2 a0 a1 a2 a3 a4 a5 a6 a7 lz0 lz1 lz2
 obtain ⟨⟨x0,x1,x2⟩,⟨a0,a1,a2,a3,a4,a5,a6,a7⟩,lz0,lz1,lz2⟩ := HK1b.out.cells
 obtain ⟨y0,y1,y2,y3,y4,y5,_⟩ := six HY1c
 have ly := HY1c.lt
 go_wp2_with fail
 refine HF.out.mono ?_
 rintro q w2 ⟨A2,c2,l2,B2,d2,m,rfl,hme,hmr,⟨hr2,hm2,hb⟩⟩
 have HR2 := Lib.hid hr2;have HM2 := Lib.hid hm2;have HME := Lib.hid hme;have HMR := Lib.hid hmr;have HW2 := Lib.hid hb
 have hcm2 := Rs.max hmr.r
 unfold maxLen at hcm2
 have HN2 : Hid (l2.length ≤ 1000) := by
  have h1 : l2.length = (putT s x.e).l.length := by rw [← hm2];simp
  have h2 := len_p s x.e
  have h3 := HLL.out
  have h4 : s.l.length = l.length := by rw [← H.out.m];simp
  show _ ≤ _
  omega
 have HK2 := Lib.hid (HK1b.out.below hb)
 have HY2 := Lib.hid (HY1.out.below hb HY1.out.lt)
 have hz2 : D + 1 ≤ w2.heap.size := by have := hb.size;have := HZ1.out;omega
 clear hb HF hr2 hm2 hme hmr HY1c y0 y1 y2 y3 y4 y5 ly x0 x1 x2 a0 a1 a2 a3 a4 a5 a6 a7 lz0 lz1 lz2
 obtain ⟨v2,hv2⟩ : ∃ v2,v2 = w2.alloc (.cells #[.int .i64 s.b,.int .i64 s.e,.slice A2 l2.length c2] 32) := ⟨_,rfl⟩
 obtain ⟨E,hE⟩ : ∃ E,E = w2.heap.size := ⟨_,rfl⟩
 have HEE := Lib.hid hE
 have HB2 : Hid (Below w2.heap.size w2 v2) := by show Below _ _ _;rw [hv2];exact bnew _ _
 have HM0 : Hid (Blk v2 E #[.int .i64 s.b,.int .i64 s.e,.slice A2 l2.length c2] 32) := by show Blk _ _ _ _;rw [hv2,hE];exact Blk.new _ _ _
 have HZ2 : Hid (v2.heap.size = E + 1) := by show _ = _;rw [hv2,hE];simp
 have hDE : D + 1 ≤ E := by omega
 have HK2b := Lib.hid (HK2.out.below HB2.out)
 have HY2b := Lib.hid (HY2.out.below HB2.out HY2.out.lt)
 have HBX : Hid (Below C w v2) := (HBV.out.trans (HW2.out.mono (by have := HZ1.out;omega))).trans (HB2.out.mono (by omega))
 have HFD : Hid (∀ j,F j → j < C) := fun j hj => by have := H.out.f j hj;have := HCC.out;omega
 have HGT : Hid (∀ j,Tn G v1 w2 j → (G j ∨ C + 3 ≤ j) ∧ j < v2.heap.size) := fun j hj => by
  rcases hj with h | ⟨h1,h2⟩
  ·exact ⟨Or.inl h,by have := H.out.t j h;have := HCC.out;have := HZ2.out;omega⟩
  ·exact ⟨Or.inr (by have := HZ1.out;omega),by have := HEE.out;have := HZ2.out;omega⟩
 have HFG : Hid (∀ j,F j → ¬ Tn G v1 w2 j) := fun j hf hg => by
  rcases hg with h | ⟨h1,h2⟩
  ·exact H.out.d j hf h
  ·have := HFD.out j hf;have := HZ1.out;omega
 have HS2 : Hid (St F v2 g s) := H.out.st.below (by rw [← HCC.out];exact HBX.out)
 have HR2b := Lib.hid (HR2.out.below HB2.out (Nat.le_refl _))
 have HYO2 : Hid (OwE v0.heap.size v2 y) := ((HYO.out.below HB1.out).below (HW2.out)).below HB2.out
 have HYL : Hid (∀ j,El.Rows y j → C + 3 ≤ j ∧ j < D) := fun j hj => by
  have := HZ0.out;have := HDD.out
  rcases hj with ⟨a,ha,rfl⟩ | ⟨a,ha,rfl⟩
  ·have := Ej.owe_lt HYO.out a (Or.inl ha);omega
  ·have := Ej.owe_lt HYO.out a (Or.inr ha);omega
 have HG := Lib.hid (Ep.put_re HS2.out HYO2.out.re (fun j hf hg => by have := HFD.out j hf;have := HZ0.out;omega))
 unfold Ep.putPost emV at HG
 have HYK := HYE.out
 go_upto_region 6 with fail
 rw [← hv2,← hE]
 clear hv2 hE
 have HYc := HY2b.out
 unfold emA at HYc
 obtain ⟨y0,y1,y2,y3,y4,y5,_⟩ := six HYc
 have ly := HYc.lt
 clear HYc
 clear HYK
 go_wp2_with fail
 refine HG.out.mono ?_
 rintro q w3 ⟨F1,P,A3,c3,m3,rfl,hke,hkd,gv⟩
 have GV := Lib.hid (HYE.out ▸ gv : Gave F v2 w3 g (putT s x.e) F1 P)
 have HKE : Hid (m3.map Em.e = putG s x.e) := by show _ = _;rw [← HYE.out];exact hke
 have HKD := Lib.hid hkd
 have hcm3 := Rs.max hkd.r.r
 unfold maxLen at hcm3
 have HNE : Hid (putN s y.e = putN s x.e) := by show _ = _;rw [HYE.out]
 clear hke hkd gv HG y0 y1 y2 y3 y4 y5 ly
 rw [HNE.out]
 have HK3 := Lib.hid (HK2b.out.only GV.out.o (fun j hj => Or.inl (HFD.out j hj)))
 have HY3 := Lib.hid (HY2b.out.only GV.out.o (fun hf => by have := HFD.out _ hf;omega))
 have HM3 := Lib.hid (HM0.out.only GV.out.o (fun hf => by have := HFD.out _ hf;omega))
 have HYO3 := Lib.hid (HYO2.out.only GV.out.o (fun j hf hg => by have := HFD.out j hf;have := HZ0.out;omega))
 have HX3 : Hid (RE R w3 x) := HXO.out w3 ((Only.of_below HBX.out (by have := HCC.out;omega) F).trans (GV.out.o.mono (fun j _ h => Or.inl h)))
 have HSA := Lib.hid (same_true HYE.out.symm HYO3.out.re HX3.out)
 unfold emV boolTo at HSA
 have hz3 : v2.heap.size ≤ w3.heap.size := GV.out.o.size
 have hz2s : v2.heap.size = E + 1 := HZ2.out
 have hz2t : E + 1 ≤ v2.heap.size := by omega
 clear hz2s
 have HYc := HY3.out
 unfold emA at HYc
 obtain ⟨y0,y1,y2,y3,y4,y5,_⟩ := six HYc
 have ly := HYc.lt
 clear HYc
 obtain ⟨⟨x0,x1,x2⟩,⟨a0,a1,a2,a3,a4,a5,a6,a7⟩,lz0,lz1,lz2⟩ := HK3.out.cells
 go_wp2_with fail
 refine HSA.out.mono ?_
 rintro q w4 ⟨rfl,hb⟩
 have HB4 := Lib.hid hb
 have HK4 := Lib.hid (HK3.out.below hb)
 have HY4 := Lib.hid (HY3.out.below hb HY3.out.lt)
 have HM4 := Lib.hid (HM3.out.below hb HM3.out.lt)
 have hz4 : w3.heap.size ≤ w4.heap.size := hb.size
 clear hb HSA y0 y1 y2 y3 y4 y5 ly x0 x1 x2 a0 a1 a2 a3 a4 a5 a6 a7 lz0 lz1 lz2
 have HYO4 := Lib.hid (HYO3.out.below HB4.out)
 have HSP := Lib.hid (spoil_re y w4 HYO4.out.re (OwE.wr HYO4.out))
 unfold spoilPost emV at HSP
 have HYc := HY4.out
 unfold emA at HYc
 obtain ⟨y0,y1,y2,y3,y4,y5,_⟩ := six HYc
 have ly := HYc.lt
 clear HYc
 go_wp2_with fail
 refine HSP.out.mono ?_
 rintro q w5 ⟨rfl,ho,hwr⟩
 have HO5 := Lib.hid ho;have HW5 := Lib.hid hwr
 have hz5 : w4.heap.size ≤ w5.heap.size := ho.size
 clear ho hwr HSP y0 y1 y2 y3 y4 y5 ly
 obtain ⟨v6,hv6⟩ : ∃ v6,v6 = w5.drew := ⟨_,rfl⟩
 have B6 : Hid (Below w5.heap.size w5 v6) := by show Below _ _ _;rw [hv6];exact (Below.refl _ _).drew
 have HK5 := Lib.hid (HK4.out.only HO5.out (fun j hj => by have := HYL.out j hj;omega))
 have HM5 := Lib.hid (HM4.out.only HO5.out (fun hj => by have := HYL.out _ hj;omega))
 have HK6 := Lib.hid (HK5.out.below B6.out)
 have HPP : Hid (∀ j,P j → F j ∨ v2.heap.size ≤ j) := fun j hj => GV.out.p j hj
 have HMR6 : Hid (RL (Tn G v1 w2) v6 B2 d2 m) := by
  have k1 := (HMR.out.below HB2.out (Nat.le_refl _)).only GV.out.o HFG.out
  have k2 := (k1.below HB4.out (Nat.le_refl _)).only HO5.out (fun j hj hg => by
   have h1 := HYL.out j hj
   rcases hg with h | ⟨h2,h3⟩
   ·have := H.out.t j h;have := HCC.out;omega
   ·have := HZ1.out;omega)
  exact k2.below B6.out (Nat.le_refl _)
 have HR6 : Hid (RL P v6 A3 c3 m3) := by
  have k2 := (HKD.out.r.below HB4.out (Nat.le_refl _)).only HO5.out (fun j hj hg => by
   have h1 := HYL.out j hj
   rcases HPP.out j hg with h | h
   ·have := HFD.out j h;omega
   ·omega)
  exact k2.below B6.out (Nat.le_refl _)
 have HAL := Lib.hid (lall_true rfl rfl (HME.out.trans HKE.out.symm) HR6.out HMR6.out (fun z hz => ((HW5.out z ((HKD.out.w z hz).below HB4.out)).below B6.out)) HKD.out.a)
 have lz0 : C < w5.heap.size := HK5.out.k.lt
 have lz1 : C + 1 + 1 < w5.heap.size := HK5.out.r.lt
 have lz2 : E < w5.heap.size := HM5.out.lt
 have HRP : Hid (∀ j,RowsL m3 j → P j) := fun j hj => by
  obtain ⟨z,hz,hr⟩ := hj
  exact rows_in' (HKD.out.r.e z hz) hr
 have HRQ : Hid (∀ j,RowsL m3 j → j < C ∨ v2.heap.size ≤ j) := fun j hj => by
  rcases HPP.out j (HRP.out j hj) with h | h
  ·exact Or.inl (HFD.out j h)
  ·exact Or.inr h
 have KM : ∀ v,Only (fun j => RowsL m3 j ∨ j = C + 1 + 1) w5 v → Blk v E #[.int .i64 s.b,.int .i64 s.e,.slice A2 l2.length c2] 32 := fun v hv => HM5.out.only hv (fun hj => by rcases hj with hj | hj;have := HRQ.out _ hj;omega;omega)
 have m0 : ∀ v,Only (fun j => RowsL m3 j ∨ j = C + 1 + 1) w5 v → v.cell? ⟨E,0,none⟩ = some (.int .i64 s.b) := fun v hv => by have := (KM v hv).cell 0;exact this
 have m1 : ∀ v,Only (fun j => RowsL m3 j ∨ j = C + 1 + 1) w5 v → v.cell? ⟨E,1,none⟩ = some (.int .i64 s.e) := fun v hv => by have := (KM v hv).cell 1;exact this
 have m2 : ∀ v,Only (fun j => RowsL m3 j ∨ j = C + 1 + 1) w5 v → v.cell? ⟨E,2,none⟩ = some (.slice A2 l2.length c2) := fun v hv => by have := (KM v hv).cell 2;exact this
 clear KM
 have D6 : Only (fun j => RowsL m3 j ∨ j = C + 1 + 1) w5 v6 := Only.of_below B6.out (Nat.le_refl _) _
 have hnn : (putN s x.e == putN s x.e) = true := by simp
 go_upto_region 9 with fail
 refine wp_region_noPanic ?_
 refine wp_region_held_drew (S := fun v => Only (fun j => RowsL m3 j ∨ j = C + 1 + 1) w5 v) (by kernel_rfl) (by rw [← hv6];exact D6) (fun hHeld => ?_)
 rw [← hv6] at hHeld ⊢
 clear hv6
 refine Rg.th 0 (some 66) (v := ?_) rfl (by kernel_rfl) (fun _ _ _ h => h) (by rfl) (by assumption) ?_ ?_
 rotate_left
 ·intro w h;go_simp;first|done|with_reducible rfl
 try simp only [Ap.sc]
 refine Rg.th 1 (some 67) (v := ?_) rfl (by kernel_rfl) (fun _ _ _ h => h) (by rfl) (by assumption) ?_ ?_
 rotate_left
 ·intro w h;go_simp;first|done|with_reducible rfl
 try simp only [Ap.sc]
 refine Rg.th 2 (some 68) (v := ?_) rfl (by kernel_rfl) (fun _ _ _ h => h) (by rfl) (by assumption) ?_ ?_
 rotate_left
 ·intro w h;go_simp;first|done|with_reducible rfl
 try simp only [Ap.sc]
 refine Rg.th 3 (some 69) (v := ?_) rfl (by kernel_rfl) (fun _ _ _ h => h) (by rfl) (by assumption) ?_ ?_
 rotate_left
 ·intro w h;go_simp;first|done|with_reducible rfl
 try simp only [Ap.sc]
 refine Rg.th 4 (some 70) (v := ?_) rfl (by kernel_rfl) (fun _ _ _ h => h) (by rfl) (by assumption) ?_ ?_
 rotate_left
 ·intro w h;go_simp;first|done|with_reducible rfl
 try simp only [Ap.sc]
 refine Rg.th 5 (some 71) (v := ?_) rfl (by kernel_rfl) (fun _ _ _ h => h) (by rfl) (by assumption) ?_ ?_
 rotate_left
 ·intro w h;go_simp;first|done|with_reducible rfl
 try simp only [Ap.sc]
 refine wpAnyH_ready (rs := [6]) (by kernel_rfl) (by simp) ?_
 refine AllReadyH.cons (o := ⟨some 72,_,_,_,_,_⟩) rfl (fun K hK => ?_) AllReadyH.nil
 go_simp
 with_reducible refine HAL.out.mono ?_
 rintro d u7 ⟨rfl,ho,_⟩
 have HO7 := Lib.hid ho
 have KS : Only (fun j => RowsL m3 j ∨ j = C + 1 + 1) w5 u7 := D6.trans (ho.mono (fun j _ h => Or.inl (Or.inl h)))
 clear ho HAL
 go_simp
 refine hK.out _ _ (KS) (fun hHeld => ?_)
 clear hK K
 try simp only [Ap.sc]
 refine Rg.th 7 (some 73) (v := ?_) rfl (by kernel_rfl) (fun _ _ _ h => h) (by rfl) (by assumption) ?_ ?_
 rotate_left
 ·intro w h;go_simp;first|done|with_reducible rfl
 try simp only [Ap.sc]
 refine Rg.th 8 (some 74) (v := ?_) rfl (by kernel_rfl) (fun _ _ _ h => h) (by rfl) (by assumption) ?_ ?_
 rotate_left
 ·intro w h;go_simp;first|done|with_reducible rfl
 try simp only [Ap.sc]
 refine Rg.th 9 (some 75) (v := ?_) rfl (by kernel_rfl) (fun _ _ _ h => h) (by rfl) (by assumption) ?_ ?_
 rotate_left
 ·intro w h;go_simp;first|done|with_reducible rfl
 try simp only [Ap.sc]
 refine Rg.th 10 (some 76) (v := ?_) rfl (by kernel_rfl) (fun _ _ _ h => h) (by rfl) (by assumption) ?_ ?_
 rotate_left
 ·intro w h;go_simp;first|done|with_reducible rfl
 try simp only [Ap.sc]
 refine Rg.th 11 (some 77) (v := ?_) rfl (by kernel_rfl) (fun _ _ _ h => h) (by rfl) (by assumption) ?_ ?_
 rotate_left
 ·intro w h;go_simp;first|done|with_reducible rfl
 try simp only [Ap.sc]
 refine Rg.th 12 (some 78) (v := ?_) rfl (by kernel_rfl) (fun _ _ _ h => h) (by rfl) (by assumption) ?_ ?_
 rotate_left
 ·intro w h;go_simp;first|done|with_reducible rfl
 try simp only [Ap.sc]
 refine Rg.th 13 (some 6) (v := ?_) rfl (by kernel_rfl) (fun _ _ _ h => h) (by rfl) (by assumption) ?_ ?_
 rotate_left
 ·intro w h;go_simp;first|done|with_reducible rfl
 try simp only [Ap.sc]
 refine wpAnyH_ready (rs := [14]) (by kernel_rfl) (by simp) ?_
 refine AllReadyH.cons (o := ⟨none,_,_,_,_,_⟩) rfl (fun K hK => ?_) AllReadyH.nil
 go_simp
 have HRU := Lib.hid (HK6.out.r.only HO7.out (fun hj => by have := HRQ.out _ hj;omega))
 have HRV := HRU.out
 unfold zS at HRV
 obtain ⟨r0,r1,r2,rf0,rf1,rf2⟩ := HRV.three
 have lr := HRV.lt
 clear HRV
 go_simp
 refine hK.out _ _ (only3 (r := C + 1 + 1) (Q := fun j => RowsL m3 j ∨ j = C + 1 + 1) KS (Or.inr rfl) _ _ _) (fun hHeld => ?_)
 clear hK K
 try simp only [Ap.sc]
 refine Rg.th 15 (some 8) (v := ?_) rfl (by kernel_rfl) (fun _ _ _ h => h) (by rfl) (by assumption) ?_ ?_
 rotate_left
 ·intro w h;go_simp;first|done|with_reducible rfl
 try simp only [Ap.sc]
 refine wpAnyH_done (by kernel_rfl) ?_ _
 refine NoPanic.normal ?_
 obtain ⟨v9,hv9⟩ : ∃ v9,v9 = put3 u7 (C + 1 + 1) (.int .i64 s.b) (.int .i64 s.e) (.slice A2 l2.length c2) := ⟨_,rfl⟩
 have HO9 : Hid (Only (fun j => j = C + 1 + 1) u7 v9) := by show Only _ _ _;rw [hv9];exact put3_only _ _ _ _ _
 have HR9 : Hid (Blk v9 (C + 1 + 1) #[.int .i64 s.b,.int .i64 s.e,.slice A2 l2.length c2] 32) := by show Blk _ _ _ _;rw [hv9];exact put3_blk HRU.out _ _ _
 unfold put3 at hv9
 rw [← hv9]
 clear hv9
 obtain ⟨s0,s1,s2,_⟩ := HR9.out.three
 have ho9 : Only (fun j => El.Rows y j ∨ RowsL m3 j ∨ j = C + 1 + 1) w3 v9 := by
  have k1 := (Only.of_below HB4.out (Nat.le_refl _) (fun j => El.Rows y j ∨ RowsL m3 j ∨ j = C + 1 + 1)).trans (HO5.out.mono (fun j _ h => Or.inl (Or.inl h)))
  have k2 := k1.trans (KS.mono (fun j _ h => Or.inl (by rcases h with h | h;exact Or.inr (Or.inl h);exact Or.inr (Or.inr h))))
  exact k2.trans (HO9.out.mono (fun j _ h => Or.inl (Or.inr (Or.inr h))))
 obtain ⟨F9,G9,h9,o9,f9,g9⟩ := fin_co (v9 := v9) HCC.out H.out HBX.out (by omega) HR2b.out HM2.out HN2.out HGT.out GV.out ho9 (fun j hj => by
  rcases hj with hj | hj | rfl
  ·have h1 := HYL.out j hj
   refine ⟨fun hf => ?_,fun hg => ?_,Or.inr (by omega)⟩
   ·rcases GV.out.f j hf with q | q
    ·have := HFD.out j q;omega
    ·omega
   ·rcases hg with h | ⟨h2,h3⟩
    ·have := H.out.t j h;have := HCC.out;omega
    ·have := HZ1.out;omega
  ·exact q_p HCC.out H.out (by omega) HGT.out GV.out (HRP.out j hj)
  ·exact q_c2 HCC.out H.out (by omega) HGT.out GV.out)
 go_wp2_with fail
 exact bodyPost_ret (v := .tuple #[.pointer (some ⟨g,0,none⟩),.agg #[.int .i64 s.b,.int .i64 s.e,.slice A2 l2.length c2],.bool true]) (by simp [results,Tryz.results14,go_sem,s0,s1,s2]) rfl ⟨F9,G9,_,_,_,rfl,h9,o9,f9,g9⟩
end
end Go.Proofs.YtlmljhnogmfcfaaGreat.Es
