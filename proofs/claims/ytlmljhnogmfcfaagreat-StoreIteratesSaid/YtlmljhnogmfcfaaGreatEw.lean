/- Proves that the law's known returns true. No condition. -/
import Derived.Test.YtlmljhnogmfcfaaGreatEv
namespace Go.Proofs.YtlmljhnogmfcfaaGreat.Ew
open Go.RowKit Ap Mi Nw Rg Ea Eb Ec Ed Ee El Ep Er Ev

theorem putE_ok {b : Int} {x : En} (h1 : keyOk x.k) (h2 : okT x.t) (h3 : x.v.length ≤ 65536) (h4 : (cost x : Int) ≤ b) : putE b x = 0 := by
 rcases putE_cases b x with ⟨_, h⟩ | ⟨_, _, h⟩ | ⟨_, _, _, h⟩ | ⟨_, _, _, _, h⟩ | ⟨h, _⟩
 ·exact absurd h1 h
 ·exact absurd h2 h
 ·omega
 ·omega
 ·exact h
theorem okT_nil : okT [] := ⟨by decide, fun i hi => by simp at hi⟩
theorem ex_put {l r : List En} {x : En} {n : Nat} (hk : keyOk x.k) (ht : x.t = []) (hv : x.v.length ≤ 65536) (hc : (cost x : Int) ≤ 300) (hr : rest id l x.k = r) (hn : evN 300 3 (cost x) r = n) :
  putN ⟨300, 3, l⟩ x = 0 ∧ putT ⟨300, 3, l⟩ x = ⟨300, 3, r.drop n ++ [x]⟩ ∧ putG ⟨300, 3, l⟩ x = r.take n := by
 have h0 : putN ⟨300, 3, l⟩ x = 0 := putE_ok hk (by rw [ht]; exact okT_nil) hv hc
 refine ⟨h0, ?_, ?_⟩
 ·unfold putT; rw [if_pos h0]; simp only [hr, hn]
 ·unfold putG; rw [if_pos h0]; simp only [hr, hn]
theorem ex_big {l : List En} {x : En} (hk : keyOk x.k) (ht : x.t = []) (hv : x.v.length ≤ 65536) (hc : 300 < (cost x : Int)) : putN ⟨300, 3, l⟩ x = 12 ∧ putT ⟨300, 3, l⟩ x = ⟨300, 3, l⟩ ∧ putG ⟨300, 3, l⟩ x = [] := by
 have h0 : putN ⟨300, 3, l⟩ x = 12 := by
  show putE 300 x = 12
  rcases putE_cases 300 x with ⟨_, h⟩ | ⟨_, _, h⟩ | ⟨_, _, _, h⟩ | ⟨h, _⟩ | ⟨_, _, _, _, h⟩
  ·exact absurd hk h
  ·exact absurd (by rw [ht]; exact okT_nil) h
  ·omega
  ·exact h
  ·omega
 refine ⟨h0, ?_, ?_⟩
 ·unfold putT; rw [if_neg (by rw [h0]; decide)]
 ·unfold putG; rw [if_neg (by rw [h0]; decide)]
theorem ex_arg {l : List En} {x : En} (hk : ¬ keyOk x.k) : putN ⟨300, 3, l⟩ x = 2 ∧ putT ⟨300, 3, l⟩ x = ⟨300, 3, l⟩ ∧ putG ⟨300, 3, l⟩ x = [] := by
 have h0 : putN ⟨300, 3, l⟩ x = 2 := by
  show putE 300 x = 2
  rcases putE_cases 300 x with ⟨h, _⟩ | ⟨h, _⟩ | ⟨_, h, _⟩ | ⟨_, h, _⟩ | ⟨_, h, _⟩
  ·exact h
  ·exact h
  ·exact absurd h hk
  ·exact absurd h hk
  ·exact absurd h hk
 refine ⟨h0, ?_, ?_⟩
 ·unfold putT; rw [if_neg (by rw [h0]; decide)]
 ·unfold putG; rw [if_neg (by rw [h0]; decide)]
theorem ex_some {l : List En} {k : ByteArray} {i : Nat} (hk : keyOk k) (hf : fnd id l k = some i) : lookN ⟨300, 3, l⟩ k = 0 ∧ lookE ⟨300, 3, l⟩ k = l.getD i zeroE ∧ useT ⟨300, 3, l⟩ k = ⟨300, 3, wo l i ++ [l.getD i zeroE]⟩ ∧ ∀ d, touT ⟨300, 3, l⟩ k d = ⟨300, 3, wo l i ++ [{ l.getD i zeroE with d := d }]⟩ := by
 have h0 : lookN ⟨300, 3, l⟩ k = 0 := by unfold lookN; rw [if_neg (fun h => h hk), hf]
 have h1 : lookE ⟨300, 3, l⟩ k = l.getD i zeroE := by unfold lookE; rw [if_pos h0, hf]; rfl
 refine ⟨h0, h1, ?_, fun d => ?_⟩
 ·unfold useT; rw [if_pos h0, h1, hf]; rfl
 ·unfold touT; rw [if_pos h0, h1, hf]; rfl
theorem ex_none {l : List En} {k : ByteArray} (hk : keyOk k) (hf : fnd id l k = none) : lookN ⟨300, 3, l⟩ k = 9 ∧ remT ⟨300, 3, l⟩ k = ⟨300, 3, l⟩ := by
 have h0 : lookN ⟨300, 3, l⟩ k = 9 := by unfold lookN; rw [if_neg (fun h => h hk), hf]
 refine ⟨h0, ?_⟩
 unfold remT; rw [if_neg (by rw [h0]; decide)]
theorem one_of {l : List Em} {x : En} (h : l.map Em.e = [x]) : ∃ m, l = [m] ∧ m.e = x := by
 cases l with
 | nil => cases h
 | cons y r =>
  cases r with
  | nil => exact ⟨y, rfl, by injection h⟩
  | cons z r => simp at h
def a1 : En := exE ⟨#[97]⟩ 1 18446744073709551615
def b1 : En := exE ⟨#[98]⟩ 1 18446744073709551615
def c1 : En := exE ⟨#[99]⟩ 1 9
def d1 : En := exE ⟨#[100]⟩ 1 18446744073709551615
def a2 : En := exE ⟨#[97]⟩ 200 18446744073709551615
def a3 : En := { a2 with d := 5 }
def e1 : En := exE ⟨#[101]⟩ 236 18446744073709551615
def z1 : En := exE ⟨#[]⟩ 0 18446744073709551615
abbrev S (l : List En) : Sx := ⟨300, 3, l⟩
theorem f1 : putN (S []) a1 = 0 ∧ putT (S []) a1 = S [a1] ∧ putG (S []) a1 = [] := ex_put (n := 0) (r := []) (by decide) rfl (by decide +kernel) (by decide +kernel) rfl rfl
theorem f2 : putN (S [a1]) b1 = 0 ∧ putT (S [a1]) b1 = S [a1, b1] ∧ putG (S [a1]) b1 = [] := ex_put (n := 0) (r := [a1]) (by decide) rfl (by decide +kernel) (by decide +kernel) (by kernel_rfl) (by decide +kernel)
theorem f3 : putN (S [a1, b1]) c1 = 0 ∧ putT (S [a1, b1]) c1 = S [a1, b1, c1] ∧ putG (S [a1, b1]) c1 = [] := ex_put (n := 0) (r := [a1, b1]) (by decide) rfl (by decide +kernel) (by decide +kernel) (by kernel_rfl) (by decide +kernel)
theorem f4 : lookN (S [a1, b1, c1]) ⟨#[97]⟩ = 0 ∧ lookE (S [a1, b1, c1]) ⟨#[97]⟩ = a1 ∧ useT (S [a1, b1, c1]) ⟨#[97]⟩ = S [b1, c1, a1] := by
 have h := ex_some (l := [a1, b1, c1]) (k := ⟨#[97]⟩) (i := 0) (by decide) (by kernel_rfl)
 exact ⟨h.1, h.2.1, h.2.2.1⟩
theorem f5 : putN (S [b1, c1, a1]) d1 = 0 ∧ putT (S [b1, c1, a1]) d1 = S [c1, a1, d1] ∧ putG (S [b1, c1, a1]) d1 = [b1] := ex_put (n := 1) (r := [b1, c1, a1]) (by decide) rfl (by decide +kernel) (by decide +kernel) (by kernel_rfl) (by decide +kernel)
theorem f6 : lookN (S [c1, a1, d1]) ⟨#[98]⟩ = 9 ∧ remT (S [c1, a1, d1]) ⟨#[98]⟩ = S [c1, a1, d1] := ex_none (l := [c1, a1, d1]) (k := ⟨#[98]⟩) (by decide) (by decide +kernel)
theorem f7 : putN (S [c1, a1, d1]) a2 = 0 ∧ putT (S [c1, a1, d1]) a2 = S [a2] ∧ putG (S [c1, a1, d1]) a2 = [c1, d1] := ex_put (n := 2) (r := [c1, d1]) (by decide) rfl (by decide +kernel) (by decide +kernel) (by kernel_rfl) (by decide +kernel)
theorem f8 : lookN (S [a2]) ⟨#[97]⟩ = 0 ∧ touT (S [a2]) ⟨#[97]⟩ 5 = S [a3] := by
 have h := ex_some (l := [a2]) (k := ⟨#[97]⟩) (i := 0) (by decide) (by kernel_rfl)
 exact ⟨h.1, h.2.2.2 5⟩
theorem f9 : lookN (S []) ⟨#[97]⟩ = 9 ∧ remT (S []) ⟨#[97]⟩ = S [] := ex_none (l := []) (k := ⟨#[97]⟩) (by decide) rfl
theorem f10 : putN (S []) e1 = 12 ∧ putT (S []) e1 = S [] ∧ putG (S []) e1 = [] := ex_big (by decide) rfl (by decide +kernel) (by decide +kernel)
theorem f11 : putN (S []) z1 = 2 ∧ putT (S []) z1 = S [] ∧ putG (S []) z1 = [] := ex_arg (by decide)
theorem f12 : expG id 4 (S [a3]).l = [] := by decide +kernel
theorem f13 : expG id 5 (S [a3]).l = [a3] := by kernel_rfl
theorem f14 : expT (S [a3]) 4 = S [a3] := by kernel_rfl
theorem f15 : expT (S [a3]) 5 = S [] := by kernel_rfl
theorem f16 : (used (S [a2]).l : Int) = 265 := by decide +kernel
set_option maxRecDepth 100000 in
set_option maxHeartbeats 4000000 in
theorem known_any (w0 : World) : Calls Tryz.prog 11 #[] w0 (boolTo true w0) := by
 have HN1 := Lib.hid (new_yes (b := 300) (e := 3) (by decide) 1 (by omega) w0)
 have HE0 : Hid (∀ w v, Below w.heap.size w v → Below w.heap.size w v) := fun _ _ h => h
 unfold newPost at HN1
 unfold boolTo
 go_enter Tryz.func11, Tryz.ntmps11
 go_wp2_with fail
 refine HN1.out.mono ?_
 rintro q w1 ⟨g, F0, rfl, hst, hf0, hb⟩
 have K1 : Hid (Kp w0 w1 g (S [])) := ⟨_, hst.tight, fun j hj => ⟨hf0 j hj.1, hj.2⟩, hb⟩
 clear hst hf0 hb HN1
 go_wp2_with fail
 refine (entry_any ⟨#[97]⟩ 1 18446744073709551615 w1 (by decide) (by decide) (by decide)).mono ?_
 rintro q w2 ⟨y, rfl, hye, hre, hb⟩
 have HY := Lib.hid hye; have HRE := Lib.hid hre; have HB := Lib.hid hb
 clear hye hre hb
 go_wp2_with fail
 refine (kp_puts K1.out HB.out HRE.out (m := []) rfl (Rs.nil _ _) (fun a e => by cases e) (e := a1) HY.out f1.2.1 (by rw [f1.2.2]; rfl) f1.1).mono ?_
 rintro q w3 ⟨rfl, k⟩
 have K3 := Lib.hid k
 clear k HY HRE HB
 go_wp2_with fail
 refine (entry_any ⟨#[98]⟩ 1 18446744073709551615 w3 (by decide) (by decide) (by decide)).mono ?_
 rintro q w4 ⟨y, rfl, hye, hre, hb⟩
 have HY := Lib.hid hye; have HRE := Lib.hid hre; have HB := Lib.hid hb
 clear hye hre hb
 go_wp2_with fail
 refine (kp_puts K3.out HB.out HRE.out (m := []) rfl (Rs.nil _ _) (fun a e => by cases e) (e := b1) HY.out f2.2.1 (by rw [f2.2.2]; rfl) f2.1).mono ?_
 rintro q w5 ⟨rfl, k⟩
 have K5 := Lib.hid k
 clear k HY HRE HB
 go_wp2_with fail
 refine (entry_any ⟨#[99]⟩ 1 9 w5 (by decide) (by decide) (by decide)).mono ?_
 rintro q w6 ⟨y, rfl, hye, hre, hb⟩
 have HY := Lib.hid hye; have HRE := Lib.hid hre; have HB := Lib.hid hb
 clear hye hre hb
 go_wp2_with fail
 refine (kp_puts K5.out HB.out HRE.out (m := []) rfl (Rs.nil _ _) (fun a e => by cases e) (e := c1) HY.out f3.2.1 (by rw [f3.2.2]; rfl) f3.1).mono ?_
 rintro q w7 ⟨rfl, k⟩
 have K7 := Lib.hid k
 clear k HY HRE HB
 go_wp2_with fail
 refine (kp_use K7.out ⟨#[97]⟩ (by decide) f4.2.2 f4.2.1 f4.1).mono ?_
 rintro q w8 ⟨y, rfl, hye, k⟩
 have K8 := Lib.hid k
 clear k
 unfold emV
 obtain ⟨w9, hv⟩ : ∃ v, v = w8.alloc (.cells #[.string y.e.k, .slice y.A y.e.v.length y.a, .slice y.B y.e.t.length y.b, .int .u64 y.e.d, .int .u64 y.e.n, .int .u64 y.e.s] 42) := ⟨_, rfl⟩
 have hyk : y.e.k = ⟨#[97]⟩ := by rw [hye]; rfl
 have K9 : Hid (Kp w0 w9 g (S [b1, c1, a1])) := by show Kp _ _ _ _; rw [hv]; exact Kp.below K8.out (bnew _ _)
 have HBK : Blk w9 w8.heap.size #[.string y.e.k, .slice y.A y.e.v.length y.a, .slice y.B y.e.t.length y.b, .int .u64 y.e.d, .int .u64 y.e.n, .int .u64 y.e.s] 42 := by rw [hv]; exact Blk.new _ _ _
 obtain ⟨x0, _⟩ := six HBK
 have lx := HBK.lt
 rw [hyk] at x0
 clear hyk hye HBK
 go_upto_region 5 with fail
 rw [← hv]
 clear hv
 go_wp2_with fail
 refine (entry_any ⟨#[100]⟩ 1 18446744073709551615 w9 (by decide) (by decide) (by decide)).mono ?_
 rintro q w10 ⟨y, rfl, hye, hre, hb⟩
 have HY := Lib.hid hye; have HRE := Lib.hid hre; have HB := Lib.hid hb
 clear hye hre hb
 obtain ⟨v10, hv⟩ : ∃ v, v = w10.alloc (.cells #[.string ⟨#[98]⟩] 9) := ⟨_, rfl⟩
 have HR : Hid (Rs v10 1 (some ⟨w10.heap.size, 0, none⟩) 1 1 (strs [⟨#[98]⟩])) := by show Rs _ _ _ _ _ _; rw [hv]; exact Rs.mine (mine_laid (sz := 1) w10 #[.string ⟨#[98]⟩] _ 9 1 rfl rfl (by omega))
 have HV : Hid (Below w10.heap.size w10 v10) := by show Below _ _ _; rw [hv]; exact bnew _ _
 go_wp2_with fail
 rw [← hv]
 clear hv
 refine (kp_puts K9.out (HB.out.trans (HV.out.mono HB.out.size)) (HRE.out.below HV.out (Nat.le_refl _)) (m := [⟨#[98]⟩]) rfl HR.out (fun a e => by cases e; exact HB.out.size) (e := d1) HY.out f5.2.1 (by rw [f5.2.2]; rfl) f5.1).mono ?_
 rintro q w11 ⟨rfl, k⟩
 have K11 := Lib.hid k
 clear k HY HRE HB HR HV
 clear x0 lx
 go_wp2_with fail
 refine (kp_keys K11.out (l := [⟨#[99]⟩, ⟨#[97]⟩, ⟨#[100]⟩]) rfl).mono ?_
 rintro q w12 ⟨A, c, rfl, hr, k⟩
 have K12 := Lib.hid k
 clear k
 have HRK := Lib.hid hr
 clear hr
 obtain ⟨v12, hv⟩ : ∃ v, v = w12.alloc (.cells #[.string ⟨#[99]⟩, .string ⟨#[97]⟩, .string ⟨#[100]⟩] 9) := ⟨_, rfl⟩
 have HR : Hid (Rs v12 1 (some ⟨w12.heap.size, 0, none⟩) 3 3 (strs [⟨#[99]⟩, ⟨#[97]⟩, ⟨#[100]⟩])) := by show Rs _ _ _ _ _ _; rw [hv]; exact Rs.mine (mine_laid (sz := 1) w12 #[.string ⟨#[99]⟩, .string ⟨#[97]⟩, .string ⟨#[100]⟩] _ 9 3 rfl rfl (by omega))
 have HV : Hid (Below w12.heap.size w12 v12) := by show Below _ _ _; rw [hv]; exact bnew _ _
 go_wp2_with fail
 rw [← hv]
 clear hv
 refine (Ee.strings_true (l := [⟨#[99]⟩, ⟨#[97]⟩, ⟨#[100]⟩]) rfl rfl (HRK.out.below HV.out (Nat.le_refl _)) HR.out).mono ?_
 rintro q w13 ⟨rfl, hb⟩
 have K13 := Lib.hid ((Kp.below K12.out HV.out).below hb)
 clear hb HR HV HRK
 go_wp2_with fail
 refine (kp_find K13.out ⟨#[98]⟩ (by decide) f6.1).mono ?_
 rintro q w14 ⟨y, rfl, k⟩
 have K14 := Lib.hid k
 clear k
 go_wp2_with fail
 refine (entry_any ⟨#[97]⟩ 200 18446744073709551615 w14 (by decide) (by decide) (by decide)).mono ?_
 rintro q w15 ⟨y, rfl, hye, hre, hb⟩
 have HY := Lib.hid hye; have HRE := Lib.hid hre; have HB := Lib.hid hb
 clear hye hre hb
 obtain ⟨v15, hv⟩ : ∃ v, v = w15.alloc (.cells #[.string ⟨#[99]⟩, .string ⟨#[100]⟩] 9) := ⟨_, rfl⟩
 have HR : Hid (Rs v15 1 (some ⟨w15.heap.size, 0, none⟩) 2 2 (strs [⟨#[99]⟩, ⟨#[100]⟩])) := by show Rs _ _ _ _ _ _; rw [hv]; exact Rs.mine (mine_laid (sz := 1) w15 #[.string ⟨#[99]⟩, .string ⟨#[100]⟩] _ 9 2 rfl rfl (by omega))
 have HV : Hid (Below w15.heap.size w15 v15) := by show Below _ _ _; rw [hv]; exact bnew _ _
 go_wp2_with fail
 rw [← hv]
 clear hv
 refine (kp_puts K14.out (HB.out.trans (HV.out.mono HB.out.size)) (HRE.out.below HV.out (Nat.le_refl _)) (m := [⟨#[99]⟩, ⟨#[100]⟩]) rfl HR.out (fun a e => by cases e; exact HB.out.size) (e := a2) HY.out f7.2.1 (by rw [f7.2.2]; rfl) f7.1).mono ?_
 rintro q w16 ⟨rfl, k⟩
 have K16 := Lib.hid k
 clear k HY HRE HB HR HV
 go_wp2_with fail
 refine (kp_keys K16.out (l := [⟨#[97]⟩]) rfl).mono ?_
 rintro q w17 ⟨A, c, rfl, hr, k⟩
 have K17 := Lib.hid k
 clear k
 have HRK := Lib.hid hr
 clear hr
 obtain ⟨v17, hv⟩ : ∃ v, v = w17.alloc (.cells #[.string ⟨#[97]⟩] 9) := ⟨_, rfl⟩
 have HR : Hid (Rs v17 1 (some ⟨w17.heap.size, 0, none⟩) 1 1 (strs [⟨#[97]⟩])) := by show Rs _ _ _ _ _ _; rw [hv]; exact Rs.mine (mine_laid (sz := 1) w17 #[.string ⟨#[97]⟩] _ 9 1 rfl rfl (by omega))
 have HV : Hid (Below w17.heap.size w17 v17) := by show Below _ _ _; rw [hv]; exact bnew _ _
 go_wp2_with fail
 rw [← hv]
 clear hv
 refine (Ee.strings_true (l := [⟨#[97]⟩]) rfl rfl (HRK.out.below HV.out (Nat.le_refl _)) HR.out).mono ?_
 rintro q w18 ⟨rfl, hb⟩
 have K18 := Lib.hid ((Kp.below K17.out HV.out).below hb)
 clear hb HR HV HRK
 go_wp2_with fail
 refine (kp_used K18.out (x := 265) (n := 1) f16 rfl).mono ?_
 rintro q w19 ⟨rfl, k⟩
 have K19 := Lib.hid k
 clear k
 go_wp2_with fail
 refine (kp_tou K19.out ⟨#[97]⟩ (by decide) 5 (by decide) f8.2 f8.1).mono ?_
 rintro q w20 ⟨rfl, k⟩
 have K20 := Lib.hid k
 clear k
 go_wp2_with fail
 refine (kp_next K20.out (n := 5) (by decide +kernel)).mono ?_
 rintro q w21 ⟨rfl, k⟩
 have K21 := Lib.hid k
 clear k
 go_wp2_with fail
 refine (kp_exp K21.out 4 (by decide) f14 f12).mono ?_
 rintro q w22 ⟨P, A, c, l, rfl, hl, _, k⟩
 have K22 := Lib.hid k
 clear k
 obtain rfl : l = [] := List.map_eq_nil_iff.1 hl
 clear hl
 go_wp2_with fail
 refine (kp_exq K22.out 5 (by decide) f15 f13).mono ?_
 rintro q w23 ⟨P, A, c, l, rfl, hl, hr, k⟩
 have K23 := Lib.hid k
 clear k
 obtain ⟨m, rfl, hme⟩ := one_of hl
 have HME := Lib.hid hme; have HRL := Lib.hid hr
 clear hl hme hr
 go_wp2_with fail
 refine (kp_rep K23.out HRL.out ⟨#[97]⟩ (by decide) f9.2 f9.1).mono ?_
 rintro q w24 ⟨y, rfl, hr, k⟩
 have K24 := Lib.hid k
 clear k
 have HRM := Lib.hid hr
 clear hr HRL
 go_wp2_with fail
 refine (new_no (b := 0) (e := 1) (by decide) 0 _).mono ?_
 rintro q w25 ⟨rfl, hb⟩
 have K25 := Lib.hid (Kp.below K24.out hb)
 have HRN := Lib.hid (HRM.out.below hb (Nat.le_refl _))
 clear hb HRM
 go_wp2_with fail
 refine (new_no (b := 1) (e := 1048577) (by decide) 0 _).mono ?_
 rintro q w26 ⟨rfl, hb⟩
 have K26 := Lib.hid (Kp.below K25.out hb)
 have HRO := Lib.hid (HRN.out.below hb (Nat.le_refl _))
 clear hb HRN
 obtain ⟨b, o, rfl, lb, c0, _⟩ := rs6_at HRO.out.r (k := 0) (by simp)
 have hk0 : [m][0].e.k = ⟨#[97]⟩ := by show m.e.k = _; rw [HME.out]; rfl
 rw [hk0] at c0
 have hcm := Rs.max HRO.out.r
 have hcl := Rs.le HRO.out.r
 unfold maxLen at hcm
 have hl1 : ([m] : List Em).length = 1 := rfl
 rw [Nat.zero_mul, Nat.add_zero] at c0
 clear hk0
 go_wp2_with fail
 refine (kp_used K26.out (x := 0) (n := 0) rfl rfl).mono ?_
 rintro q w27 ⟨rfl, k⟩
 have K27 := Lib.hid k
 clear k
 go_wp2_with fail
 refine (entry_any ⟨#[101]⟩ 236 18446744073709551615 w27 (by decide) (by decide) (by decide)).mono ?_
 rintro q w28 ⟨y, rfl, hye, hre, hb⟩
 have HY := Lib.hid hye; have HRE := Lib.hid hre; have HB := Lib.hid hb
 clear hye hre hb
 go_wp2_with fail
 refine (kp_puts K27.out HB.out HRE.out (m := []) rfl (Rs.nil _ _) (fun a e => by cases e) (e := e1) HY.out f10.2.1 (by rw [f10.2.2]; rfl) f10.1).mono ?_
 rintro q w29 ⟨rfl, k⟩
 have K29 := Lib.hid k
 clear k HY HRE HB
 go_wp2_with fail
 refine (entry_any ⟨#[]⟩ 0 18446744073709551615 w29 (by decide) (by decide) (by decide)).mono ?_
 rintro q w30 ⟨y, rfl, hye, hre, hb⟩
 have HY := Lib.hid hye; have HRE := Lib.hid hre; have HB := Lib.hid hb
 clear hye hre hb
 go_wp2_with fail
 refine (kp_puts K29.out HB.out HRE.out (m := []) rfl (Rs.nil _ _) (fun a e => by cases e) (e := z1) HY.out f11.2.1 (by rw [f11.2.2]; rfl) f11.1).mono ?_
 rintro q w31 ⟨rfl, k⟩
 have K31 := Lib.hid k
 clear k HY HRE HB
 go_wp2_with fail
 go_ret
 exact ⟨rfl, K31.out.bl⟩
end Go.Proofs.YtlmljhnogmfcfaaGreat.Ew
