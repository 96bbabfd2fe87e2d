/- Proves that StoreNew and StoreLongs return true at every argument. Conditions: as the rows give them. -/
import Derived.Test.YtlmljhnogmfcfaaGreatEw
namespace Go.Proofs.YtlmljhnogmfcfaaGreat.Ex
open Go.RowKit Ap Mi Nw Rg Ea Eb Ec Ed Ee El Ep Er Ev Ew
open Ef (mV mA)

set_option maxRecDepth 100000 in
theorem new_walk (b e sd : Int) (hsd : 0 ≤ sd ∧ sd < 18446744073709551616) (w : World) :
  Calls Tryz.prog 3 #[.int .i64 b, .int .i64 e, .int .u64 sd] w (boolTo true w) := by
 have HBG : Hid (∀ v, Calls Tryz.prog 10 #[.int .i64 b, .int .i64 e] v fun q w' => q = .returned (.bool (decide (bud b e))) ∧ w' = v) := fun v => budget_any b e v
 have HKN := Lib.hid known_any
 unfold boolTo at HKN ⊢
 by_cases hbu : bud b e
 case neg =>
  have HNO := Lib.hid (new_no hbu sd w)
  rw [decide_eq_false hbu] at HBG
  unfold vPost at HNO
  clear hbu
  go_enter Tryz.func3, Tryz.ntmps3
  go_wp2_with fail
  refine HNO.out.mono ?_
  rintro q w1 ⟨rfl, hb⟩
  have HB1 := Lib.hid hb
  clear hb
  go_wp2_with fail
  refine (HBG.out _).mono ?_
  rintro q w2 ⟨rfl, rfl⟩
  go_wp2_with fail
  refine (HKN.out _).mono ?_
  rintro q w3 ⟨rfl, hb⟩
  have HB3 := Lib.hid (bstep HB1.out hb)
  clear hb
  go_wp2_with fail
  go_ret
  exact ⟨rfl, HB3.out⟩
 rw [decide_eq_true hbu] at HBG
 have HNY := Lib.hid (new_yes hbu sd hsd w)
 unfold newPost at HNY
 clear hbu
 go_enter Tryz.func3, Tryz.ntmps3
 go_wp2_with fail
 refine HNY.out.mono ?_
 rintro q w1 ⟨g, F, rfl, hst, _, hb⟩
 have HB1 := Lib.hid hb
 have HIS := Lib.hid (Go.Proofs.YtlmljhnogmfcfaaGreat.Eq.is_any (G := fun _ => False) hst RL.nil rfl (by simp))
 unfold mV boolTo at HIS
 simp only [List.length_nil] at HIS
 clear hb hst HNY
 go_wp2_with fail
 refine (HBG.out _).mono ?_
 rintro q w2 ⟨rfl, rfl⟩
 go_wp2_with fail
 refine HIS.out.mono ?_
 rintro q w3 ⟨rfl, hb⟩
 have HB3 := Lib.hid (bstep HB1.out hb)
 clear hb
 go_wp2_with fail
 refine (HKN.out _).mono ?_
 rintro q w4 ⟨rfl, hb⟩
 have HB4 := Lib.hid (bstep HB3.out hb)
 clear hb
 go_wp2_with fail
 go_ret
 exact ⟨rfl, HB4.out⟩
theorem cost_ex (k : ByteArray) (n : Nat) (d : Int) : cost (exE k n d) = k.size + n + 64 := by
 unfold cost exE
 simp [sumT]
def kk : ByteArray := ⟨#[107]⟩
theorem long_put {more less : Int} (h : -1 ≤ more ∧ more ≤ 1 ∧ -1 ≤ less ∧ less ≤ 1) {x : En} (hx : x = exE kk (65536 + more).toNat 18446744073709551615) {s : Sx} (hs : s = ⟨65601 + more - less, 2, []⟩) :
  (0 < more → putN s x = 5) ∧ (more ≤ 0 → 0 < less → putN s x = 12) ∧ (more ≤ 0 → less ≤ 0 → putN s x = 0) ∧ (cost x : Int) = 65601 + more := by
 have hc : (cost x : Int) = 65601 + more := by rw [hx, cost_ex]; simp only [show kk.size = 1 from rfl]; omega
 have hv : (x.v.length : Int) = 65536 + more := by rw [hx]; unfold exE; simp; omega
 have hk : keyOk x.k := by rw [hx]; exact (by decide : keyOk kk)
 have ht : okT x.t := by rw [hx]; exact okT_nil
 have hb : s.b = 65601 + more - less := by rw [hs]
 have e : putN s x = putE s.b x := rfl
 rw [e]
 rcases putE_cases s.b x with ⟨_, q⟩ | ⟨_, _, q⟩ | ⟨p, _, _, q⟩ | ⟨p, _, _, q, r⟩ | ⟨p, _, _, q, r⟩
 ·exact absurd hk q
 ·exact absurd ht q
 ·exact ⟨fun _ => p, fun _ _ => by omega, fun _ _ => by omega, hc⟩
 ·exact ⟨fun _ => by omega, fun _ _ => p, fun _ _ => by omega, hc⟩
 ·exact ⟨fun _ => by omega, fun _ _ => by omega, fun _ _ => p, hc⟩
theorem put_no' {s : Sx} {x : En} (h : putN s x ≠ 0) : putT s x = s ∧ putG s x = [] := by
 refine ⟨?_, ?_⟩
 ·unfold putT; rw [if_neg h]
 ·unfold putG; rw [if_neg h]
theorem put_one {b : Int} {x : En} (h : putN ⟨b, 2, []⟩ x = 0) : putT ⟨b, 2, []⟩ x = ⟨b, 2, [x]⟩ ∧ putG ⟨b, 2, []⟩ x = [] := by
 refine ⟨?_, ?_⟩
 ·unfold putT; rw [if_pos h]; rfl
 ·unfold putG; rw [if_pos h]; rfl
theorem look_one {b : Int} {x : En} (h : keyOk x.k) : lookN ⟨b, 2, [x]⟩ x.k = 0 ∧ lookE ⟨b, 2, [x]⟩ x.k = x := by
 have hf : fnd id [x] x.k = some 0 := by unfold fnd; rw [if_pos (show (id x).k = x.k from rfl)]
 have h0 : lookN ⟨b, 2, [x]⟩ x.k = 0 := by unfold lookN; rw [if_neg (fun q => q h), hf]
 refine ⟨h0, ?_⟩
 unfold lookE
 rw [if_pos h0, hf]
 rfl
set_option maxRecDepth 100000 in
set_option maxHeartbeats 4000000 in
theorem longs_walk (more less : Int) (w : World) :
  Calls Tryz.prog 6 #[.int .i64 more, .int .i64 less] w (boolTo true w) := by
 have HKN := Lib.hid known_any
 unfold boolTo at HKN ⊢
 by_cases h0 : more < -1
 case pos =>
  have j1 : decide (more < -1) = true := by simp; omega
  go_enter Tryz.func6, Tryz.ntmps6
  go_wp2_with fail
  refine (HKN.out _).mono ?_
  rintro q w9 ⟨rfl, hb⟩
  have HB9 := Lib.hid (hb)
  clear hb
  go_wp2_with fail
  go_ret
  exact ⟨rfl, HB9.out⟩
 by_cases h1 : 1 < more
 case pos =>
  have j1 : decide (more < -1) = false := by simp; omega
  have j0 : ¬ more < -1 := by omega
  have j2 : more > 1 := by omega
  go_enter Tryz.func6, Tryz.ntmps6
  go_wp2_with fail
  refine (HKN.out _).mono ?_
  rintro q w9 ⟨rfl, hb⟩
  have HB9 := Lib.hid (hb)
  clear hb
  go_wp2_with fail
  go_ret
  exact ⟨rfl, HB9.out⟩
 by_cases h2 : less < -1
 case pos =>
  have j1 : decide (more < -1) = false := by simp; omega
  have j0 : ¬ more < -1 := by omega
  have j2 : decide (more > 1) = false := by simp; omega
  have j3 : ¬ more > 1 := by omega
  have j4 : decide (less < -1) = true := by simp; omega
  go_enter Tryz.func6, Tryz.ntmps6
  go_wp2_with fail
  refine (HKN.out _).mono ?_
  rintro q w9 ⟨rfl, hb⟩
  have HB9 := Lib.hid (hb)
  clear hb
  go_wp2_with fail
  go_ret
  exact ⟨rfl, HB9.out⟩
 by_cases h3 : 1 < less
 case pos =>
  have j1 : decide (more < -1) = false := by simp; omega
  have j0 : ¬ more < -1 := by omega
  have j2 : decide (more > 1) = false := by simp; omega
  have j3 : ¬ more > 1 := by omega
  have j4 : decide (less < -1) = false := by simp; omega
  have j5 : ¬ less < -1 := by omega
  have j6 : less > 1 := by omega
  go_enter Tryz.func6, Tryz.ntmps6
  go_wp2_with fail
  refine (HKN.out _).mono ?_
  rintro q w9 ⟨rfl, hb⟩
  have HB9 := Lib.hid (hb)
  clear hb
  go_wp2_with fail
  go_ret
  exact ⟨rfl, HB9.out⟩
 have hr : -1 ≤ more ∧ more ≤ 1 ∧ -1 ≤ less ∧ less ≤ 1 := ⟨by omega, by omega, by omega, by omega⟩
 have m1 : -1 ≤ more := hr.1
 have m2 : more ≤ 1 := hr.2.1
 have q1 : -1 ≤ less := hr.2.2.1
 have q2 : less ≤ 1 := hr.2.2.2
 have j1 : decide (more < -1) = false := by simp; omega
 have j2 : decide (more > 1) = false := by simp; omega
 have j4 : decide (less < -1) = false := by simp; omega
 have j6 : decide (less > 1) = false := by simp; omega
 clear h0 h1 h2 h3
 have HEN := Lib.hid (entry_int kk (65536 + more) 18446744073709551615 w (by decide) (by omega) (by omega) (by decide))
 unfold entryPost2 at HEN
 have HHR := Lib.hid hr
 clear hr
 go_enter Tryz.func6, Tryz.ntmps6
 go_wp2_with fail
 refine HEN.out.mono ?_
 rintro q w1 ⟨y, rfl, hye, hre, hb⟩
 have HB1 := Lib.hid hb; have HYE := Lib.hid hye; have HRE := Lib.hid hre
 clear hb hye hre HEN
 obtain ⟨hp5, hp12, hp0, hcost⟩ := long_put HHR.out HYE.out (s := ⟨65601 + more - less, 2, []⟩) rfl
 have HP5 := Lib.hid hp5; have HP12 := Lib.hid hp12; have HP0 := Lib.hid hp0
 clear hp5 hp12 hp0
 obtain ⟨v1, hv1⟩ : ∃ v1, v1 = w1.alloc (.cells (emA y) 42) := ⟨_, rfl⟩
 obtain ⟨E, hE⟩ : ∃ E, E = w1.heap.size := ⟨_, rfl⟩
 have HV1 : Hid (Below w1.heap.size w1 v1) := by show Below _ _ _; rw [hv1]; exact bnew _ _
 have HE1 : Hid (Blk v1 E (emA y) 42) := by show Blk _ _ _ _; rw [hv1, hE]; exact Blk.new _ _ _
 have HZ1 : Hid (v1.heap.size = E + 1) := by show _ = _; rw [hv1, hE]; simp
 have HEE := Lib.hid hE
 have HR1 := Lib.hid (HRE.out.below HV1.out (Nat.le_refl _))
 have HBV := Lib.hid (bstep HB1.out HV1.out)
 have HCO := Lib.hid (cost_any y v1 HR1.out)
 rw [hcost] at HCO
 unfold vPost emV at HCO
 clear hcost
 have K1 := HE1.out
 unfold emA at hv1 K1
 obtain ⟨x0, x1, x2, x3, x4, x5, _⟩ := six K1
 have lE := K1.lt
 unfold emV
 clear K1
 go_upto_region 4 with fail
 rw [← hv1, ← hE]
 clear hv1 hE
 go_wp2_with fail
 refine HCO.out.mono ?_
 rintro q w2 ⟨rfl, hb⟩
 have HB2 := Lib.hid hb
 have HE2 := Lib.hid (HE1.out.below hb HE1.out.lt)
 have HR2 := Lib.hid (HR1.out.below hb (Nat.le_refl _))
 clear hb HCO x0 x1 x2 x3 x4 x5 lE
 have HBU : Hid (bud (65601 + more - less) 2) := ⟨by omega, by omega, by omega, by omega⟩
 have HNW := Lib.hid (new_yes HBU.out 0 (by omega) w2)
 unfold newPost at HNW
 go_wp2_with fail
 refine HNW.out.mono ?_
 rintro q w3 ⟨g, F, rfl, hst, hf, hb⟩
 have HB3 := Lib.hid hb; have HS3 := Lib.hid hst; have HF3 := Lib.hid hf
 have HE3 := Lib.hid (HE2.out.below hb HE2.out.lt)
 have HR3 := Lib.hid (HR2.out.below hb (Nat.le_refl _))
 clear hb hst hf HNW
 have HFG : Hid (∀ j, F j → ¬ (w.heap.size ≤ j ∧ j < w1.heap.size)) := fun j h1 h2 => by have := HF3.out j h1; have := HB2.out.size; have := HV1.out.size; omega
 have HB03 : Hid (Below w.heap.size w w3) := bstep (bstep HBV.out HB2.out) HB3.out
 have HPT : Hid (∀ no, putN ⟨65601 + more - less, 2, []⟩ y.e = no → Calls Tryz.prog 17 #[.pointer (some ⟨g, 0, none⟩), emV y, .slice none 0 0, .int .i64 no] w3 (putsPost F w3 g (putT ⟨65601 + more - less, 2, []⟩ y.e))) := fun no hno => by
  refine puts_true HS3.out HR3.out HFG.out (m := []) (Rs.nil _ _) (fun a e => by cases e) ?_ hno
  by_cases h : putN ⟨65601 + more - less, 2, []⟩ y.e = 0
  ·rw [(put_one h).2]; rfl
  ·rw [(put_no' h).2]; rfl
 unfold emV putsPost at HPT
 have K1 := HE3.out
 unfold emA at K1
 obtain ⟨x0, x1, x2, x3, x4, x5, _⟩ := six K1
 have lE := K1.lt
 clear K1
 by_cases hm : 0 < more
 case pos =>
  by_cases hl : 0 < less
  case pos =>
   have t1 : less > 0 := hl
   have t2 : more > 0 := hm
   have hno := HP5.out hm
   have HQ := Lib.hid (HPT.out 5 hno)
   rw [(put_no' (by rw [hno]; decide)).1] at HQ
   clear hno HPT
   go_wp2_with fail
   refine HQ.out.mono ?_
   rintro q w4 ⟨rfl, F4, hs4, hf4, ho4⟩
   have HB4 : Hid (Below w.heap.size w w4) := HB03.out.trans (ho4.below (fun j hj => by have := HF3.out j hj; have := HBV.out.size; have := HB2.out.size; omega) HB03.out.size)
   have HU := Lib.hid (Go.Proofs.YtlmljhnogmfcfaaGreat.Eq.used_gen 0 0 (used_any hs4))
   unfold boolTo at HU
   clear hs4 hf4 ho4 x0 x1 x2 x3 x4 x5 lE
   go_wp2_with fail
   refine HU.out.mono ?_
   rintro q w5 ⟨rfl, hb⟩
   have HB5 := Lib.hid (bstep HB4.out hb)
   clear hb
   go_wp2_with fail
   refine (HKN.out _).mono ?_
   rintro q w9 ⟨rfl, hb⟩
   have HB9 := Lib.hid (bstep HB5.out hb)
   clear hb
   go_wp2_with fail
   go_ret
   exact ⟨rfl, HB9.out⟩
  case neg =>
   have t1 : ¬ less > 0 := hl
   have t2 : more > 0 := hm
   have hno := HP5.out hm
   have HQ := Lib.hid (HPT.out 5 hno)
   rw [(put_no' (by rw [hno]; decide)).1] at HQ
   clear hno HPT
   go_wp2_with fail
   refine HQ.out.mono ?_
   rintro q w4 ⟨rfl, F4, hs4, hf4, ho4⟩
   have HB4 : Hid (Below w.heap.size w w4) := HB03.out.trans (ho4.below (fun j hj => by have := HF3.out j hj; have := HBV.out.size; have := HB2.out.size; omega) HB03.out.size)
   have HU := Lib.hid (Go.Proofs.YtlmljhnogmfcfaaGreat.Eq.used_gen 0 0 (used_any hs4))
   unfold boolTo at HU
   clear hs4 hf4 ho4 x0 x1 x2 x3 x4 x5 lE
   go_wp2_with fail
   refine HU.out.mono ?_
   rintro q w5 ⟨rfl, hb⟩
   have HB5 := Lib.hid (bstep HB4.out hb)
   clear hb
   go_wp2_with fail
   refine (HKN.out _).mono ?_
   rintro q w9 ⟨rfl, hb⟩
   have HB9 := Lib.hid (bstep HB5.out hb)
   clear hb
   go_wp2_with fail
   go_ret
   exact ⟨rfl, HB9.out⟩
 by_cases hl : 0 < less
 case pos =>
  have t1 : less > 0 := hl
  have t2 : ¬ more > 0 := hm
  have hno := HP12.out (by omega) hl
  have HQ := Lib.hid (HPT.out 12 hno)
  rw [(put_no' (by rw [hno]; decide)).1] at HQ
  clear hno HPT
  go_wp2_with fail
  refine HQ.out.mono ?_
  rintro q w4 ⟨rfl, F4, hs4, hf4, ho4⟩
  have HB4 : Hid (Below w.heap.size w w4) := HB03.out.trans (ho4.below (fun j hj => by have := HF3.out j hj; have := HBV.out.size; have := HB2.out.size; omega) HB03.out.size)
  have HU := Lib.hid (Go.Proofs.YtlmljhnogmfcfaaGreat.Eq.used_gen 0 0 (used_any hs4))
  unfold boolTo at HU
  clear hs4 hf4 ho4 x0 x1 x2 x3 x4 x5 lE
  go_wp2_with fail
  refine HU.out.mono ?_
  rintro q w5 ⟨rfl, hb⟩
  have HB5 := Lib.hid (bstep HB4.out hb)
  clear hb
  go_wp2_with fail
  refine (HKN.out _).mono ?_
  rintro q w9 ⟨rfl, hb⟩
  have HB9 := Lib.hid (bstep HB5.out hb)
  clear hb
  go_wp2_with fail
  go_ret
  exact ⟨rfl, HB9.out⟩
 have t1 : ¬ less > 0 := hl
 have t2 : ¬ more > 0 := hm
 have hno := HP0.out (by omega) (by omega)
 have HQ := Lib.hid (HPT.out 0 hno)
 rw [(put_one hno).1] at HQ
 clear hno HPT
 go_wp2_with fail
 refine HQ.out.mono ?_
 rintro q w4 ⟨rfl, F4, hs4, hf4, ho4⟩
 have HB4 : Hid (Below w.heap.size w w4) := HB03.out.trans (ho4.below (fun j hj => by have := HF3.out j hj; have := HBV.out.size; have := HB2.out.size; omega) HB03.out.size)
 have HE4 := Lib.hid (HE3.out.only ho4 (fun hf => by have := HF3.out _ hf; have := HB2.out.size; have := HZ1.out; omega))
 have HR4 := Lib.hid (HR3.out.only ho4 HFG.out)
 have HS4 := Lib.hid hs4
 have HFG4 : Hid (∀ j, F4 j → ¬ (w.heap.size ≤ j ∧ j < w1.heap.size) ∧ w.heap.size ≤ j ∧ j ≠ E) := fun j hj => by
  have e1 := HBV.out.size; have e2 := HB2.out.size; have e3 := HV1.out.size; have e4 := HB3.out.size; have e5 := HZ1.out; have e6 := HEE.out; have e7 := HB1.out.size
  rcases hf4 j hj with k | k
  ·have := HF3.out j k; exact ⟨by omega, by omega, by omega⟩
  ·exact ⟨by omega, by omega, by omega⟩
 have hye := HYE.out
 have hkk : y.e.k = kk := by rw [hye]; rfl
 have hlk := look_one (b := 65601 + more - less) (x := y.e) (by rw [hkk]; decide)
 rw [hkk] at hlk
 have HFI := Lib.hid (find_any HS4.out kk (by decide))
 rw [hlk.1, hlk.2] at HFI
 unfold Ep.gotPost emV at HFI
 clear hs4 hf4 ho4 hye hkk hlk x0 x1 x2 x3 x4 x5 lE HQ
 go_wp2_with fail
 refine HFI.out.mono ?_
 rintro q w5 ⟨F5, P, z, rfl, hze, hzr, _, gv⟩
 have HE5 := Lib.hid (HE4.out.only gv.o (fun hf => (HFG4.out _ hf).2.2 rfl))
 have HR5 := Lib.hid (HR4.out.only gv.o (fun j hf => (HFG4.out j hf).1))
 have HB5 : Hid (Below w.heap.size w w5) := HB4.out.trans (gv.o.below (fun j hj => (HFG4.out j hj).2.1) HB4.out.size)
 have HZR := Lib.hid hzr; have HZE := Lib.hid hze
 clear hze hzr gv HFI
 obtain ⟨v6, hv6⟩ : ∃ v6, v6 = w5.alloc (.cells (emA z) 42) := ⟨_, rfl⟩
 obtain ⟨D, hD⟩ : ∃ D, D = w5.heap.size := ⟨_, rfl⟩
 have HV6 : Hid (Below w5.heap.size w5 v6) := by show Below _ _ _; rw [hv6]; exact bnew _ _
 have HD6 : Hid (Blk v6 D (emA z) 42) := by show Blk _ _ _ _; rw [hv6, hD]; exact Blk.new _ _ _
 have HE6 := Lib.hid (HE5.out.below HV6.out HE5.out.lt)
 have HSA := Lib.hid (same_true HZE.out (HR5.out.below HV6.out (Nat.le_refl _)) (HZR.out.below HV6.out (Nat.le_refl _)))
 unfold boolTo emV at HSA
 have K1 := HE6.out
 have K2 := HD6.out
 unfold emA at hv6 K1 K2
 obtain ⟨x0, x1, x2, x3, x4, x5, _⟩ := six K1
 have lE := K1.lt
 obtain ⟨z0, z1, z2, z3, z4, z5, _⟩ := six K2
 have lD := K2.lt
 clear K1 K2
 go_upto_region 17 with fail
 rw [← hv6, ← hD]
 clear hv6 hD
 go_wp2_with fail
 refine HSA.out.mono ?_
 rintro q w7 ⟨rfl, hb⟩
 have HB7 := Lib.hid (bstep (bstep HB5.out HV6.out) hb)
 clear hb
 go_wp2_with fail
 refine (HKN.out _).mono ?_
 rintro q w9 ⟨rfl, hb⟩
 have HB9 := Lib.hid (bstep HB7.out hb)
 clear hb
 go_wp2_with fail
 go_ret
 exact ⟨rfl, HB9.out⟩
end Go.Proofs.YtlmljhnogmfcfaaGreat.Ex
