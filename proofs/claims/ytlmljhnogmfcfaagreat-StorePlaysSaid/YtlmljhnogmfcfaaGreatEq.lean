/- Proves what the law's used and is return at a store that is the document's. Conditions: as each theorem names them. -/
import Derived.Test.YtlmljhnogmfcfaaGreatRg
import Derived.Test.YtlmljhnogmfcfaaGreatEp
namespace Go.Proofs.YtlmljhnogmfcfaaGreat.Eq
open Go.RowKit Ap Mi Nw Rg Ea Eb Ec Ed Ee El Ep
open Ef (mV mA)

set_option maxRecDepth 100000 in
theorem used_gen {w : World} {p : Option Addr} (x n : Int) (h : Calls Tryz.prog 38 #[.pointer p] w (vPost w (.tuple #[.int .i64 x, .int .i64 n]))) :
  Calls Tryz.prog 25 #[.pointer p, .int .i64 x, .int .i64 n] w (boolTo true w) := by
 have HF := Lib.hid h
 have hx : (x == x) = true := by simp
 have hn : (n == n) = true := by simp
 unfold vPost at HF
 unfold boolTo
 clear h
 go_enter Tryz.func25, Tryz.ntmps25
 go_wp2_with fail
 refine HF.out.mono ?_
 rintro e w1 ⟨rfl, hb⟩
 have HB := Lib.hid hb
 clear hb HF
 go_wp2_with fail
 go_ret
 exact ⟨rfl, HB.out⟩
theorem rows_in {w : World} {A : Option Addr} {c : Nat} {m : List Em} {N B : Nat} (h : Hd (fun j => N ≤ j) w A c m) (hB : B ≤ N) {j : Nat} (hj : RowsL m j) : B ≤ j := by
 obtain ⟨x, hx, hr⟩ := hj
 have hre := h.r.e x hx
 rcases hr with ⟨a, ha, rfl⟩ | ⟨a, ha, rfl⟩
 ·exact Nat.le_trans hB (hre.gv a ha)
 ·exact Nat.le_trans hB (hre.gt a ha)
set_option maxRecDepth 100000 in
set_option maxHeartbeats 4000000 in
theorem is_any {G F : Nat → Prop} {w : World} {g : Nat} {s : Sx} {A : Option Addr} {c : Nat} {l : List Em} (h : St F w g s) (hl : RL G w A c l) (hm : l.map Em.e = s.l) (hn : l.length ≤ 1000) :
  Calls Tryz.prog 12 #[.pointer (some ⟨g, 0, none⟩), mV s.b s.e A l.length c] w (boolTo true w) := by
 obtain ⟨C, hC⟩ : ∃ C, C = w.heap.size := ⟨_, rfl⟩
 obtain ⟨v0, hv0⟩ : ∃ v0, v0 = w.alloc (.cells (mA s.b s.e A l.length c) 32) := ⟨_, rfl⟩
 have HB0 : Hid (Below w.heap.size w v0) := by show Below _ _ _; rw [hv0]; exact bnew _ _
 have HK0 : Hid (Blk v0 C (mA s.b s.e A l.length c) 32) := by show Blk _ _ _ _; rw [hv0, hC]; exact Blk.new w _ _
 have HS := Lib.hid h; have HL := Lib.hid hl
 have hsl : s.l.length = l.length := by rw [← hm]; simp
 have HSL : Hid (s.l.length ≤ 1000) := by show _ ≤ _; omega
 have hcm := Rs.max hl.r
 have hcl := Rs.le hl.r
 unfold maxLen at hcm
 have HBU := Lib.hid (budget_any (h.below HB0.out))
 unfold vPost at HBU
 have HUL : Hid ((used s.l : Int) = (used (l.map Em.e) : Int) ∧ (s.l.length : Int) = (l.length : Int)) := by show _ ∧ _; rw [hm, hsl]; exact ⟨rfl, rfl⟩
 have HMM : Hid (s.l = l.map Em.e) := hm.symm
 unfold mA at hv0
 have K0 := HK0.out
 unfold mA at K0
 obtain ⟨x0, x1, x2, _⟩ := K0.three
 have lg := K0.lt
 unfold mV boolTo
 have hbb : (s.b == s.b) = true := by simp
 have hee : (s.e == s.e) = true := by simp
 clear h hl hm hsl K0
 go_enter Tryz.func12, Tryz.ntmps12
 go_upto_region 1 with fail
 rw [← hv0, ← hC]
 clear hv0 hC
 go_wp2_with fail
 refine HBU.out.mono ?_
 rintro q v1 ⟨rfl, hb⟩
 have HB1 := Lib.hid (HB0.out.trans (hb.mono HB0.out.size))
 have HK1 := Lib.hid (HK0.out.below hb lg)
 clear hb x0 x1 x2
 have hzC : C < v1.heap.size := HK1.out.lt
 have D1 : Below v1.heap.size v1 v1.drew := (Below.refl _ _).drew
 have HSv : Hid (∀ v, Below v1.heap.size v1 v → St F v g s) := fun v hv => (HS.out.below HB1.out).below hv
 have HLv : Hid (∀ v, Below v1.heap.size v1 v → RL G v A c l) := fun v hv => (HL.out.below HB1.out (Nat.le_refl _)).below hv (Nat.le_refl _)
 have T0 : ∀ v, Below v1.heap.size v1 v → v.cell? ⟨C, 0, none⟩ = some (.int .i64 s.b) := fun v hv => by have := (HK1.out.below hv hzC).cell 0; exact this
 have T1 : ∀ v, Below v1.heap.size v1 v → v.cell? ⟨C, 1, none⟩ = some (.int .i64 s.e) := fun v hv => by have := (HK1.out.below hv hzC).cell 1; exact this
 have T2 : ∀ v, Below v1.heap.size v1 v → v.cell? ⟨C, 2, none⟩ = some (.slice A l.length c) := fun v hv => by have := (HK1.out.below hv hzC).cell 2; exact this
 obtain ⟨U, hU⟩ : ∃ U : Int, U = (used (l.map Em.e) : Int) := ⟨_, rfl⟩
 obtain ⟨NX, hNX⟩ : ∃ NX : Int, NX = nextT s.l := ⟨_, rfl⟩
 obtain ⟨KL, hKL⟩ : ∃ KL, KL = keysL s.l := ⟨_, rfl⟩
 have hnx : (NX == NX) = true := by simp
 have Q14 : Hid (∀ v, Below v1.heap.size v1 v → Calls Tryz.prog 39 #[.slice A l.length c] v (fun d u => d = .returned (.int .i64 U) ∧ Below v1.heap.size v1 u)) := fun v hv => (Ec.used_any A c l v (HLv.out v hv) hn).mono fun _ _ hp => ⟨by rw [hp.1, hU], bstep hv hp.2⟩
 have Q18 : Hid (∀ v, Below v1.heap.size v1 v → Calls Tryz.prog 25 #[.pointer (some ⟨g, 0, none⟩), .int .i64 U, .int .i64 (l.length : Int)] v (fun d u => d = .returned (.bool true) ∧ Below v1.heap.size v1 u)) := fun v hv => (used_gen U (l.length : Int) (by have := used_any (HSv.out v hv); rw [HUL.out.1, HUL.out.2, ← hU] at this; exact this)).mono fun _ _ hp => ⟨hp.1, bstep hv hp.2⟩
 have Q22 : Hid (∀ v, Below v1.heap.size v1 v → Calls Tryz.prog 32 #[.pointer (some ⟨g, 0, none⟩)] v (fun d u => d = .returned (.int .u64 NX) ∧ Below v1.heap.size v1 u)) := fun v hv => (next_any (HSv.out v hv)).mono fun _ _ hp => ⟨by rw [hp.1, hNX], bstep hv hp.2⟩
 have Q24 : Hid (∀ v, Below v1.heap.size v1 v → Calls Tryz.prog 46 #[.agg #[.int .i64 s.b, .int .i64 s.e, .slice A l.length c]] v (fun d u => d = .returned (.int .u64 NX) ∧ Below v1.heap.size v1 u)) := fun v hv => (Ei.next_any s.b s.e (HLv.out v hv)).mono fun _ _ hp => ⟨by rw [hp.1, hNX, HMM.out], bstep hv hp.2⟩
 have Q29 : Hid (∀ v, Below v1.heap.size v1 v → Calls Tryz.prog 33 #[.pointer (some ⟨g, 0, none⟩)] v (fun d u => ∃ X x, d = .returned (.slice X KL.length x) ∧ Rs u 1 X KL.length x (strs KL) ∧ Below v.heap.size v u)) := fun v hv => (keys_any (HSv.out v hv)).mono fun _ _ ⟨X, x, h1, h2, h3⟩ => ⟨X, x, by rw [h1, hKL], by rw [hKL]; exact h2, h3⟩
 have Q31 : Hid (∀ v, Below v1.heap.size v1 v → Calls Tryz.prog 47 #[.agg #[.int .i64 s.b, .int .i64 s.e, .slice A l.length c]] v (fun d u => ∃ X x, d = .returned (.slice X KL.length x) ∧ Rs u 1 X KL.length x (strs KL) ∧ Below v.heap.size v u)) := fun v hv => (Ei.keys_any s.b s.e (HLv.out v hv) hn).mono fun _ _ ⟨X, x, h1, h2, h3⟩ => ⟨X, x, by rw [h1, hKL, HMM.out], by rw [hKL, HMM.out]; exact Rs.mine h2, h3⟩
 have Q36 : Hid (∀ v, Below v1.heap.size v1 v → Calls Tryz.prog 34 #[.pointer (some ⟨g, 0, none⟩)] v (fun d u => ∃ X x m, d = .returned (.slice X m.length x) ∧ m.map Em.e = l.map Em.e ∧ Hd (fun j => v.heap.size ≤ j) u X x m ∧ Below v.heap.size v u)) := fun v hv => (collect_any (HSv.out v hv) HSL.out).mono fun _ _ ⟨X, x, m, h1, h2, h3, h4⟩ => ⟨X, x, m, h1, by rw [h2, HMM.out], h3, h4⟩
 have HKL : Hid (KL = keysL s.l) := hKL
 clear hU hNX hKL
 go_upto_region 2 with fail
 refine wp_region_noPanic ?_
 refine wp_region_held_drew (S := fun v => Below v1.heap.size v1 v) (by kernel_rfl) (D1) (fun hHeld => ?_)
 refine Rg.th 0 (some 12) (v := ?_) rfl (by kernel_rfl) (fun _ _ _ h => h) (by rfl) (by assumption) ?_ ?_
 rotate_left
 ·intro w hSw; go_simp; first | done | with_reducible rfl
 try simp only [Ap.sc]
 refine Rg.th 1 (some 13) (v := ?_) rfl (by kernel_rfl) (fun _ _ _ h => h) (by rfl) (by assumption) ?_ ?_
 rotate_left
 ·intro w hSw; go_simp; first | done | with_reducible rfl
 try simp only [Ap.sc]
 refine Rg.th 2 (some 14) (v := ?_) rfl (by kernel_rfl) (fun _ _ _ h => h) (by rfl) (by assumption) ?_ ?_
 rotate_left
 ·intro w hSw; go_simp; first | done | with_reducible rfl
 try simp only [Ap.sc]
 refine Rg.th 3 (some 15) (v := ?_) rfl (by kernel_rfl) (fun _ _ _ h => h) (by rfl) (by assumption) ?_ ?_
 rotate_left
 ·intro w hSw; go_simp; first | done | with_reducible rfl
 try simp only [Ap.sc]
 refine Rg.th 4 (some 16) (v := ?_) rfl (by kernel_rfl) (fun _ _ _ h => h) (by rfl) (by assumption) ?_ ?_
 rotate_left
 ·intro w hSw; go_simp; first | done | with_reducible rfl
 try simp only [Ap.sc]
 refine Rg.th 5 (some 17) (v := ?_) rfl (by kernel_rfl) (fun _ _ _ h => h) (by rfl) (by assumption) ?_ ?_
 rotate_left
 ·intro w hSw; go_simp; first | done | with_reducible rfl
 try simp only [Ap.sc]
 refine Rg.th 6 (some 18) (v := ?_) rfl (by kernel_rfl) (fun _ _ _ h => h) (by rfl) (by assumption) ?_ ?_
 rotate_left
 ·intro w hSw; go_simp; first | done | with_reducible rfl
 try simp only [Ap.sc]
 refine Rg.th 7 (some 19) (v := ?_) rfl (by kernel_rfl) (fun _ _ _ h => h) (by rfl) (by assumption) ?_ ?_
 rotate_left
 ·intro w hSw; go_simp; first | done | with_reducible rfl
 try simp only [Ap.sc]
 refine Rg.th 8 (some 20) (v := ?_) rfl (by kernel_rfl) (fun _ _ _ h => h) (by rfl) (by assumption) ?_ ?_
 rotate_left
 ·intro w hSw; go_simp; first | done | with_reducible rfl
 try simp only [Ap.sc]
 refine Rg.th 9 (some 21) (v := ?_) rfl (by kernel_rfl) (fun _ _ _ h => h) (by rfl) (by assumption) ?_ ?_
 rotate_left
 ·intro w hSw; go_simp; first | done | with_reducible rfl
 try simp only [Ap.sc]
 refine Rg.th 10 (some 22) (v := ?_) rfl (by kernel_rfl) (fun _ _ _ h => h) (by rfl) (by assumption) ?_ ?_
 rotate_left
 ·intro w hSw; go_simp; first | done | with_reducible rfl
 try simp only [Ap.sc]
 refine Rg.th 11 (some 23) (v := ?_) rfl (by kernel_rfl) (fun _ _ _ h => h) (by rfl) (by assumption) ?_ ?_
 rotate_left
 ·intro w hSw; go_simp; first | done | with_reducible rfl
 try simp only [Ap.sc]
 refine Rg.th 12 (some 24) (v := ?_) rfl (by kernel_rfl) (fun _ _ _ h => h) (by rfl) (by assumption) ?_ ?_
 rotate_left
 ·intro w hSw; go_simp; first | done | with_reducible rfl
 try simp only [Ap.sc]
 refine Rg.th 13 (some 25) (v := ?_) rfl (by kernel_rfl) (fun _ _ _ h => h) (by rfl) (by assumption) ?_ ?_
 rotate_left
 ·intro w hSw; go_simp; first | done | with_reducible rfl
 try simp only [Ap.sc]
 refine Rg.th 15 (some 27) (v := ?_) rfl (by kernel_rfl) (fun _ _ _ h => h) (by rfl) (by assumption) ?_ ?_
 rotate_left
 ·intro w hSw; go_simp; first | done | with_reducible rfl
 try simp only [Ap.sc]
 refine Rg.th 16 (some 28) (v := ?_) rfl (by kernel_rfl) (fun _ _ _ h => h) (by rfl) (by assumption) ?_ ?_
 rotate_left
 ·intro w hSw; go_simp; first | done | with_reducible rfl
 try simp only [Ap.sc]
 refine Rg.th 17 (some 29) (v := ?_) rfl (by kernel_rfl) (fun _ _ _ h => h) (by rfl) (by assumption) ?_ ?_
 rotate_left
 ·intro w hSw; go_simp; first | done | with_reducible rfl
 try simp only [Ap.sc]
 refine wpAnyH_ready (rs := [14]) (by kernel_rfl) (by simp) ?_
 refine AllReadyH.cons (o := ⟨some 26, _, _, _, _, _⟩) rfl (fun K hK => ?_) AllReadyH.nil
 go_simp
 with_reducible refine (Q14.out _ hHeld).mono ?_
 rintro d u14 ⟨rfl, hb⟩
 have Ku14 := hb
 clear hb
 go_simp
 refine hK.out _ _ (Ku14) (fun hHeld => ?_)
 clear hK K
 try simp only [Ap.sc]
 refine wpAnyH_ready (rs := [18]) (by kernel_rfl) (by simp) ?_
 refine AllReadyH.cons (o := ⟨some 30, _, _, _, _, _⟩) rfl (fun K hK => ?_) AllReadyH.nil
 go_simp
 with_reducible refine (Q18.out _ hHeld).mono ?_
 rintro d u18 ⟨rfl, hb⟩
 have Ku18 := hb
 clear hb
 go_simp
 refine hK.out _ _ (Ku18) (fun hHeld => ?_)
 clear hK K
 try simp only [Ap.sc]
 refine Rg.th 19 (some 31) (v := ?_) rfl (by kernel_rfl) (fun _ _ _ h => h) (by rfl) (by assumption) ?_ ?_
 rotate_left
 ·intro w hSw; go_simp; first | done | with_reducible rfl
 try simp only [Ap.sc]
 refine Rg.th 20 (some 32) (v := ?_) rfl (by kernel_rfl) (fun _ _ _ h => h) (by rfl) (by assumption) ?_ ?_
 rotate_left
 ·intro w hSw; go_simp; first | done | with_reducible rfl
 try simp only [Ap.sc]
 refine Rg.th 21 (some 33) (v := ?_) rfl (by kernel_rfl) (fun _ _ _ h => h) (by rfl) (by assumption) ?_ ?_
 rotate_left
 ·intro w hSw; go_simp; first | done | with_reducible rfl
 try simp only [Ap.sc]
 refine Rg.th 23 (some 35) (v := ?_) rfl (by kernel_rfl) (fun _ _ _ h => h) (by rfl) (by assumption) ?_ ?_
 rotate_left
 ·intro w hSw; go_simp; first | done | with_reducible rfl
 try simp only [Ap.sc]
 refine wpAnyH_ready (rs := [22]) (by kernel_rfl) (by simp) ?_
 refine AllReadyH.cons (o := ⟨some 34, _, _, _, _, _⟩) rfl (fun K hK => ?_) AllReadyH.nil
 go_simp
 with_reducible refine (Q22.out _ hHeld).mono ?_
 rintro d u22 ⟨rfl, hb⟩
 have Ku22 := hb
 clear hb
 go_simp
 refine hK.out _ _ (Ku22) (fun hHeld => ?_)
 clear hK K
 try simp only [Ap.sc]
 refine wpAnyH_ready (rs := [24]) (by kernel_rfl) (by simp) ?_
 refine AllReadyH.cons (o := ⟨some 36, _, _, _, _, _⟩) rfl (fun K hK => ?_) AllReadyH.nil
 go_simp
 with_reducible refine (Q24.out _ hHeld).mono ?_
 rintro d u24 ⟨rfl, hb⟩
 have Ku24 := hb
 clear hb
 go_simp
 refine hK.out _ _ (Ku24) (fun hHeld => ?_)
 clear hK K
 try simp only [Ap.sc]
 refine Rg.th 25 (some 37) (v := ?_) rfl (by kernel_rfl) (fun _ _ _ h => h) (by rfl) (by assumption) ?_ ?_
 rotate_left
 ·intro w hSw; go_simp; first | done | with_reducible rfl
 try simp only [Ap.sc]
 refine Rg.th 26 (some 38) (v := ?_) rfl (by kernel_rfl) (fun _ _ _ h => h) (by rfl) (by assumption) ?_ ?_
 rotate_left
 ·intro w hSw; go_simp; first | done | with_reducible rfl
 try simp only [Ap.sc]
 refine Rg.th 27 (some 39) (v := ?_) rfl (by kernel_rfl) (fun _ _ _ h => h) (by rfl) (by assumption) ?_ ?_
 rotate_left
 ·intro w hSw; go_simp; first | done | with_reducible rfl
 try simp only [Ap.sc]
 refine Rg.th 28 (some 40) (v := ?_) rfl (by kernel_rfl) (fun _ _ _ h => h) (by rfl) (by assumption) ?_ ?_
 rotate_left
 ·intro w hSw; go_simp; first | done | with_reducible rfl
 try simp only [Ap.sc]
 refine Rg.th 30 (some 42) (v := ?_) rfl (by kernel_rfl) (fun _ _ _ h => h) (by rfl) (by assumption) ?_ ?_
 rotate_left
 ·intro w hSw; go_simp; first | done | with_reducible rfl
 try simp only [Ap.sc]
 refine wpAnyH_ready (rs := [29]) (by kernel_rfl) (by simp) ?_
 refine AllReadyH.cons (o := ⟨some 41, _, _, _, _, _⟩) rfl (fun K hK => ?_) AllReadyH.nil
 go_simp
 with_reducible refine (Q29.out _ hHeld).mono ?_
 rintro d u29 ⟨X1, c1, rfl, hr1, hb⟩
 have K29 := bstep hHeld hb
 have R1 := Lib.hid hr1
 clear hr1 hb
 go_simp
 refine hK.out _ _ (K29) (fun hHeld => ?_)
 clear hK K
 try simp only [Ap.sc]
 refine wpAnyH_ready (rs := [31]) (by kernel_rfl) (by simp) ?_
 refine AllReadyH.cons (o := ⟨some 43, _, _, _, _, _⟩) rfl (fun K hK => ?_) AllReadyH.nil
 go_simp
 with_reducible refine (Q31.out _ hHeld).mono ?_
 rintro d u31 ⟨X2, c2, rfl, hr2, hb⟩
 have K31 := bstep hHeld hb
 have R2 := Lib.hid hr2
 have R1b := Lib.hid (R1.out.below hb (Nat.le_refl _))
 clear hr2 hb
 go_simp
 refine hK.out _ _ (K31) (fun hHeld => ?_)
 clear hK K
 try simp only [Ap.sc]
 refine wpAnyH_ready (rs := [32]) (by kernel_rfl) (by simp) ?_
 refine AllReadyH.cons (o := ⟨some 44, _, _, _, _, _⟩) rfl (fun K hK => ?_) AllReadyH.nil
 go_simp
 refine (strings_true rfl rfl R1b.out R2.out).mono ?_
 rintro d u32 ⟨rfl, hb⟩
 have K32 := bstep hHeld hb
 clear hb
 go_simp
 refine hK.out _ _ (K32) (fun hHeld => ?_)
 clear hK K
 try simp only [Ap.sc]
 refine Rg.th 33 (some 45) (v := ?_) rfl (by kernel_rfl) (fun _ _ _ h => h) (by rfl) (by assumption) ?_ ?_
 rotate_left
 ·intro w hSw; go_simp; first | done | with_reducible rfl
 try simp only [Ap.sc]
 refine Rg.th 34 (some 46) (v := ?_) rfl (by kernel_rfl) (fun _ _ _ h => h) (by rfl) (by assumption) ?_ ?_
 rotate_left
 ·intro w hSw; go_simp; first | done | with_reducible rfl
 try simp only [Ap.sc]
 refine Rg.th 35 (some 47) (v := ?_) rfl (by kernel_rfl) (fun _ _ _ h => h) (by rfl) (by assumption) ?_ ?_
 rotate_left
 ·intro w hSw; go_simp; first | done | with_reducible rfl
 try simp only [Ap.sc]
 refine Rg.th 37 (some 49) (v := ?_) rfl (by kernel_rfl) (fun _ _ _ h => h) (by rfl) (by assumption) ?_ ?_
 rotate_left
 ·intro w hSw; go_simp; first | done | with_reducible rfl
 try simp only [Ap.sc]
 refine Rg.th 38 (some 50) (v := ?_) rfl (by kernel_rfl) (fun _ _ _ h => h) (by rfl) (by assumption) ?_ ?_
 rotate_left
 ·intro w hSw; go_simp; first | done | with_reducible rfl
 try simp only [Ap.sc]
 refine wpAnyH_ready (rs := [36]) (by kernel_rfl) (by simp) ?_
 refine AllReadyH.cons (o := ⟨some 48, _, _, _, _, _⟩) rfl (fun K hK => ?_) AllReadyH.nil
 go_simp
 with_reducible refine (Q36.out _ hHeld).mono ?_
 rintro d u36 ⟨X3, c3, m3, rfl, hme, hhd, hb⟩
 have K36 := bstep hHeld hb
 have HME := Lib.hid hme
 have HHD := Lib.hid hhd
 have HZH := Lib.hid hHeld.size
 clear hme hhd hb
 go_simp
 refine hK.out _ _ (K36) (fun hHeld => ?_)
 clear hK K
 try simp only [Ap.sc]
 refine wpAnyH_ready (rs := [39]) (by kernel_rfl) (by simp) ?_
 refine AllReadyH.cons (o := ⟨some 51, _, _, _, _, _⟩) rfl (fun K hK => ?_) AllReadyH.nil
 go_simp
 refine (lall_true rfl rfl HME.out.symm HHD.out.r (HLv.out _ hHeld) HHD.out.w HHD.out.a).mono ?_
 rintro d u39 ⟨rfl, ho, _⟩
 have K39 : Below v1.heap.size v1 u39 := hHeld.trans (ho.below (fun j hj => rows_in HHD.out HZH.out hj) (hHeld.size))
 clear ho
 go_simp
 refine hK.out _ _ (K39) (fun hHeld => ?_)
 clear hK K
 try simp only [Ap.sc]
 refine Rg.th 40 (some 52) (v := ?_) rfl (by kernel_rfl) (fun _ _ _ h => h) (by rfl) (by assumption) ?_ ?_
 rotate_left
 ·intro w hSw; go_simp; first | done | with_reducible rfl
 try simp only [Ap.sc]
 refine Rg.th 41 (some 4) (v := ?_) rfl (by kernel_rfl) (fun _ _ _ h => h) (by rfl) (by assumption) ?_ ?_
 rotate_left
 ·intro w hSw; go_simp; first | done | with_reducible rfl
 try simp only [Ap.sc]
 refine wpAnyH_done (by kernel_rfl) ?_ _
 refine NoPanic.normal ?_
 go_wp2_with fail
 go_ret
 exact ⟨rfl, HB1.out.trans (hHeld.mono HB1.out.size)⟩
end Go.Proofs.YtlmljhnogmfcfaaGreat.Eq
