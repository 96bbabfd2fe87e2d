/- Proves what the law's entry and puts return. Conditions: as each theorem names them. -/
import Derived.Test.YtlmljhnogmfcfaaGreatEs
import Derived.Laws.MakeOwn
import Derived.BigQuiet
namespace Go.Proofs.YtlmljhnogmfcfaaGreat.Ev
open Go.RowKit Ap Mi Nw Rg Ea Eb Ec Ed Ee El Ep Er

theorem make_row (n : Nat) (w : World) (h : n ≤ 1000000) : ∃ w1, (Instr.makeSlice 38 (.int .i64 (n : Int)) (.int .i64 (n : Int))).run Tryz.prog w = .ok (.slice (some ⟨w.heap.size, 0, none⟩) n n) w1 ∧ Rs w1 1 (some ⟨w.heap.size, 0, none⟩) n n (byV (List.replicate n 0)) ∧ Below w.heap.size w w1 ∧ w1.heap.size = w.heap.size + 1 := by
 have hi : (Tryz.prog.info? 5).map (fun i => (i.zero, i.size, i.bytes)) = some (some (.int .u8 0), 1, 1) := by kernel_rfl
 rw [Option.map_eq_some_iff] at hi
 obtain ⟨i, hi1, hi2⟩ := hi
 simp only [Prod.mk.injEq] at hi2
 obtain ⟨hz, hs, hb⟩ := hi2
 have hr := run_make (P := Tryz.prog) w 38 5 i (.int .u8 0) Tryz.underlying38 hi1 hz .i64 .i64 (n : Int) (n : Int) (by omega) (Int.le_refl _) (by rw [hb]; omega) (by omega)
 rw [Int.toNat_natCast, hs, Nat.mul_one] at hr
 refine ⟨_, hr, Rs.mine (mine_laid w _ _ _ n ?_ (by rw [byV_len]; simp) (by omega)), bnew _ _, by simp⟩
 refine List.ext_getElem (by rw [byV_len, Array.length_toList, size_madeCells]; simp) (fun j h1 h2 => ?_)
 simp [madeCells, byV, Value.cells, Nat.mod_one]
def exE (k : ByteArray) (n : Nat) (d : Int) : En := ⟨k, List.replicate n 0, [], d, 0, 0⟩
def entryPost (w : World) (x : En) : Ending → World → Prop := fun q w' => ∃ y : Em, q = .returned (emV y) ∧ y.e = x ∧ RE (fun j => w.heap.size ≤ j) w' y ∧ Below w.heap.size w w'
def entryPost2 (w : World) (x : En) : Ending → World → Prop := fun q w' => ∃ y : Em, q = .returned (emV y) ∧ y.e = x ∧ RE (fun j => w.heap.size ≤ j ∧ j < w'.heap.size) w' y ∧ Below w.heap.size w w'
set_option maxRecDepth 100000 in
theorem entry_any2 (k : ByteArray) (n : Nat) (d : Int) (w : World) (hk : k.size ≤ 1000000) (hn : n ≤ 1000000) (hd : 0 ≤ d ∧ d < 18446744073709551616) :
  Calls Tryz.prog 23 #[.string k, .int .i64 (n : Int), .int .u64 d] w (entryPost2 w (exE k n d)) := by
 obtain ⟨v0, hv0⟩ : ∃ v0, v0 = w.alloc (.cells zA 42) := ⟨_, rfl⟩
 have HB0 : Hid (Below w.heap.size w v0) := by show Below _ _ _; rw [hv0]; exact bnew _ _
 have HK0 : Hid (Blk v0 w.heap.size zA 42) := by show Blk _ _ _ _; rw [hv0]; exact Blk.new w _ _
 have HZ0 : Hid (v0.heap.size = w.heap.size + 1) := by show _ = _; rw [hv0]; simp
 obtain ⟨w1, hmk, hr1, hb1, hz1⟩ := make_row n v0 hn
 have HR1 := Lib.hid hr1; have HB1 := Lib.hid hb1
 have HK1 := Lib.hid (HK0.out.below hb1 HK0.out.lt)
 have hK1 := HK1.out
 obtain ⟨D, hD⟩ : ∃ D, D = v0.heap.size := ⟨_, rfl⟩
 rw [← hD] at hmk HR1
 have HD := Lib.hid hD; have HZ1 : Hid (w1.heap.size = v0.heap.size + 1) := hz1
 unfold zA at hv0 hK1
 obtain ⟨r0, r1, r2, r3, r4, r5, rf⟩ := six hK1
 have rf0 := rf 0; have rf1 := rf 1; have rf2 := rf 2; have rf3 := rf 3; have rf4 := rf 4; have rf5 := rf 5
 have lr := hK1.lt
 have hnI : (n : Int) ≤ 1000000 := by omega
 have HKF := Lib.hid hk; have HDF := Lib.hid hd
 unfold entryPost2
 clear rf hK1 hr1 hb1 hz1 hD hk hd
 go_enter Tryz.func23, Tryz.ntmps23
 go_upto_region 1 with fail
 rw [← hv0]
 clear hv0
 go_wp2_with fail
 obtain ⟨v9, hv9⟩ : ∃ v9, v9 = put6 w1 w.heap.size (.string k) (.slice (some ⟨D, 0, none⟩) n n) (.slice none 0 0) (.int .u64 d) (.int .u64 0) (.int .u64 0) := ⟨_, rfl⟩
 have HP9 : Hid (Only (fun j => j = w.heap.size) w1 v9) := by show Only _ _ _; rw [hv9]; exact put6_only _ _ _ _ _ _ _ _
 have HR9 : Hid (Blk v9 w.heap.size #[.string k, .slice (some ⟨D, 0, none⟩) n n, .slice none 0 0, .int .u64 d, .int .u64 0, .int .u64 0] 42) := by show Blk _ _ _ _; rw [hv9]; exact put6_blk HK1.out _ _ _ _ _ _
 unfold put6 at hv9
 rw [← hv9]
 clear hv9
 obtain ⟨t0, t1, t2, t3, t4, t5, _⟩ := six HR9.out
 have hre : RE (fun j => w.heap.size ≤ j ∧ j < v9.heap.size) v9 ⟨exE k n d, some ⟨D, 0, none⟩, n, none, 0⟩ := by
  refine ⟨⟨HKF.out, ?_, by show (0 : Nat) ≤ 1000; omega, by simp [exE], HDF.out, (by decide : (0 : Int) ≤ 0 ∧ (0 : Int) < 18446744073709551616), (by decide : (0 : Int) ≤ 0 ∧ (0 : Int) < 18446744073709551616)⟩, ?_, Rs.nil _ _, fun a e => ?_, fun a e => by cases e⟩
  ·show (List.replicate n (0 : UInt8)).length ≤ _; simp; omega
  ·have := HR1.out.only HP9.out (fun a e hj => by cases e; have := HD.out; have := HZ0.out; have hj2 : D = w.heap.size := hj; omega)
   show Rs v9 1 _ (List.replicate n (0 : UInt8)).length n (byV (List.replicate n 0))
   rw [List.length_replicate]; exact this
  ·cases e; have := HD.out; have := HZ0.out; have := HP9.out.size; have := HZ1.out; show w.heap.size ≤ D ∧ D < v9.heap.size; omega
 have hbl : Below w.heap.size w v9 := (HB0.out.trans (HB1.out.mono HB0.out.size)).trans (HP9.out.below (fun j hj => by rw [hj]; exact Nat.le_refl _) (Nat.le_trans HB0.out.size HB1.out.size))
 exact bodyPost_ret (v := .agg #[.string k, .slice (some ⟨D, 0, none⟩) n n, .slice none 0 0, .int .u64 d, .int .u64 0, .int .u64 0]) (by simp [results, Tryz.results23, go_sem, t0, t1, t2, t3, t4, t5]) rfl ⟨⟨exE k n d, some ⟨D, 0, none⟩, n, none, 0⟩, by unfold emV exE; simp, rfl, hre, hbl⟩
theorem entry_any (k : ByteArray) (n : Nat) (d : Int) (w : World) (hk : k.size ≤ 1000000) (hn : n ≤ 1000000) (hd : 0 ≤ d ∧ d < 18446744073709551616) :
  Calls Tryz.prog 23 #[.string k, .int .i64 (n : Int), .int .u64 d] w (entryPost w (exE k n d)) :=
 (entry_any2 k n d w hk hn hd).mono fun _ _ ⟨y, h1, h2, h3, h4⟩ => ⟨y, h1, h2, h3.mono (fun _ h => h.1), h4⟩
section
variable {F G : Nat → Prop} {w : World} {g : Nat} {s : Sx}
def putsPost (F : Nat → Prop) (w : World) (g : Nat) (s' : Sx) : Ending → World → Prop := fun q w' => q = .returned (.bool true) ∧ ∃ F', St F' w' g s' ∧ (∀ j, F' j → More F w j) ∧ Only F w w'
set_option maxRecDepth 100000 in
theorem puts_true (h : St F w g s) {x : Em} (hx : RE G w x) (hn : ∀ j, F j → ¬ G j) {A : Option Addr} {c : Nat} {m : List ByteArray} (hm : Rs w 1 A m.length c (strs m)) (hA : ∀ a, A = some a → ¬ F a.block) (hk : (putG s x.e).map (·.k) = m) {no : Int} (hno : putN s x.e = no) :
  Calls Tryz.prog 17 #[.pointer (some ⟨g, 0, none⟩), emV x, .slice A m.length c, .int .i64 no] w (putsPost F w g (putT s x.e)) := by
 obtain ⟨C, hC⟩ : ∃ C, C = w.heap.size := ⟨_, rfl⟩
 obtain ⟨v0, hv0⟩ : ∃ v0, v0 = w.alloc (.cells (emA x) 42) := ⟨_, rfl⟩
 have HB0 : Hid (Below w.heap.size w v0) := by show Below _ _ _; rw [hv0]; exact bnew _ _
 have HK0 : Hid (Blk v0 C (emA x) 42) := by show Blk _ _ _ _; rw [hv0, hC]; exact Blk.new w _ _
 have HPU := Lib.hid (put_re (h.below HB0.out) (hx.below HB0.out (Nat.le_refl _)) hn)
 have HM := Lib.hid (hm.below HB0.out (Nat.le_refl _))
 have HA := Lib.hid hA
 have HK := Lib.hid hk
 have hcm := Rs.max hm
 have hcl := Rs.le hm
 unfold maxLen at hcm
 have K0 := HK0.out
 unfold emA at hv0 K0
 obtain ⟨x0, x1, x2, x3, x4, x5, _⟩ := six K0
 have lg := K0.lt
 rw [hno] at HPU
 have hnn : (no == no) = true := by simp
 have hnn2 : (no != no) = false := by simp
 unfold Ep.putPost emV at HPU
 unfold emV putsPost
 clear h hx hn hm hA hk hno K0
 go_enter Tryz.func17, Tryz.ntmps17
 go_upto_region 1 with fail
 rw [← hv0, ← hC]
 clear hv0 hC
 go_wp2_with fail
 refine HPU.out.mono ?_
 rintro q w1 ⟨F1, P, B, d, l, rfl, hle, hhd, gv⟩
 have HHD := Lib.hid hhd; have GV := Lib.hid gv
 have hlm : l.length = m.length := by rw [← HK.out, ← hle]; simp
 have HLE : Hid (∀ i (h : i < l.length) (h2 : i < m.length), l[i].e.k = m[i]) := fun i h h2 => by
  have e1 : (l.map Em.e).map (·.k) = m := by rw [hle]; exact HK.out
  have e2 : ((l.map Em.e).map (·.k))[i]? = m[i]? := by rw [e1]
  rw [List.getElem?_eq_getElem h2, List.map_map, List.getElem?_map, List.getElem?_eq_getElem h] at e2
  injection e2
 have HM1 : Hid (Rs w1 1 A m.length c (strs m)) := HM.out.only gv.o HA.out
 have hcm3 := Rs.max hhd.r.r
 have hcl3 := Rs.le hhd.r.r
 unfold maxLen at hcm3
 have HR : Hid (putsPost F w g (putT s x.e) (.returned (.bool true)) w1) := ⟨rfl, F1, gv.s, fun j hj => by
  rcases gv.f j hj with k | k
  ·exact Or.inl k
  ·exact Or.inr (Nat.le_trans HB0.out.size k), (Only.of_below HB0.out (Nat.le_refl _) _).trans (gv.o.mono (fun j _ h => Or.inl h))⟩
 have hln : ((l.length : Int) != (m.length : Int)) = false := by rw [hlm]; simp
 have hlI : (l.length : Int) = (m.length : Int) := by rw [hlm]
 have HLM := Lib.hid hlm
 clear hle hhd gv hlm x0 x1 x2 x3 x4 x5 lg HPU
 have HPL : Hid (∀ K (h : K < l.length), ∃ b o, B = some ⟨b, o, none⟩ ∧ b < w1.heap.size ∧ w1.cell? ⟨b, o + K * 6, none⟩ = some (.string l[K].e.k)) := fun K hK => by
  obtain ⟨b, o, e1, e2, e3, _⟩ := rs6_at HHD.out.r.r hK
  exact ⟨b, o, e1, e2, e3⟩
 have HPM : Hid (∀ K (h : K < m.length), ∃ b o, A = some ⟨b, o, none⟩ ∧ b < w1.heap.size ∧ w1.cell? ⟨b, o + K, none⟩ = some (.string m[K])) := fun K hK => Rs_str HM1.out hK
 have HD' : Hid (∀ n, putsPost F w g (putT s x.e) (.returned (.bool true)) (w1.drewN n)) := fun n => by
  obtain ⟨h1, F', h2, h3, h4⟩ := HR.out
  exact ⟨h1, F', h2.below (drawn (Below.refl _ _) _), h3, h4.drewN n⟩
 go_wp2_with fail
 go_loopw [11] (fun i wr => ∃ K : Nat, K ≤ l.length ∧ i = .int .i64 (K : Int) ∧ ∃ n, wr = w1.drewN n) (fun i _ => l.length - (intOf i).toNat)
 case atStart => exact ⟨0, Nat.zero_le _, rfl, 0, rfl⟩
 case round =>
  obtain ⟨K, hK, rfl, nq0, rfl⟩ := hrel
  by_cases hlt : K < l.length
  ·have j1 : (K : Int) < (l.length : Int) := by omega
   have hlm : K < m.length := by rw [← HLM.out]; exact hlt
   have j2 : (K : Int) < (m.length : Int) := by omega
   obtain ⟨b, o, rfl, lb, a0⟩ := HPL.out K hlt
   obtain ⟨b2, o2, rfl, lb2, a2⟩ := HPM.out K hlm
   obtain ⟨t, ht⟩ : ∃ t, t = m[K] := ⟨_, rfl⟩
   rw [HLE.out K hlt hlm] at a0
   rw [← ht] at a0 a2
   have het := str_yes (rfl : t = t)
   have het2 : (!(t.toList == t.toList)) = false := by rw [het]; rfl
   clear ht hln hlI
   go_wp2_with fail
   go_quiet (fail)
   go_wp2_with fail
   go_roundw
   case rel => exact ⟨K + 1, by omega, by go_num, by first | exact ⟨_, rfl⟩ | exact ⟨_, by rw [World.drewN_drewN]⟩⟩
   case measure => simp [intOf]; omega
  ·obtain rfl : K = l.length := by omega
   have hnn : ¬ (l.length : Int) < l.length := by omega
   clear hlt
   go_wp2_with fail
   go_ret
   exact HD'.out _
def Kp (w0 w : World) (g : Nat) (s : Sx) : Prop := ∃ F : Nat → Prop, St F w g s ∧ (∀ j, F j → w0.heap.size ≤ j ∧ j < w.heap.size) ∧ Below w0.heap.size w0 w
variable {w0 w1 : World}
theorem Kp.bl (h : Kp w0 w g s) : Below w0.heap.size w0 w := by obtain ⟨_, _, _, h⟩ := h; exact h
theorem Kp.below (h : Kp w0 w g s) (hb : Below w.heap.size w w1) : Kp w0 w1 g s := by
 obtain ⟨F, h1, h2, h3⟩ := h
 exact ⟨F, h1.below hb, fun j hj => ⟨(h2 j hj).1, Nat.lt_of_lt_of_le (h2 j hj).2 hb.size⟩, bstep h3 hb⟩
theorem kp_more (h3 : Below w0.heap.size w0 w) {F : Nat → Prop} (hF : ∀ j, F j → w0.heap.size ≤ j ∧ j < w.heap.size) {F' : Nat → Prop} {w2 : World} (hs : St F' w2 g s) (hf : ∀ j, F' j → More F w j) (ho : Only F w w2) : Kp w0 w2 g s :=
 ⟨_, hs.tight, fun j hj => ⟨by
  rcases hf j hj.1 with h | h
  ·exact (hF j h).1
  ·exact Nat.le_trans h3.size h, hj.2⟩, h3.trans (ho.below (fun j hj => (hF j hj).1) h3.size)⟩
theorem kp_puts (h : Kp w0 w g s) (hb : Below w.heap.size w w1) {x : Em} (hx : RE (fun j => w.heap.size ≤ j) w1 x) {A : Option Addr} {c n : Nat} {m : List ByteArray} (hmn : m.length = n) (hm : Rs w1 1 A n c (strs m)) (hA : ∀ a, A = some a → w.heap.size ≤ a.block) {e : En} (he : x.e = e) {s' : Sx} (hs : putT s e = s') (hk : (putG s e).map (·.k) = m) {no : Int} (hno : putN s e = no) :
  Calls Tryz.prog 17 #[.pointer (some ⟨g, 0, none⟩), emV x, .slice A n c, .int .i64 no] w1 (fun q w2 => q = .returned (.bool true) ∧ Kp w0 w2 g s') := by
 subst hmn; subst he; subst hs
 obtain ⟨F, h1, h2, h3⟩ := h
 refine (puts_true (h1.below hb) hx (fun j hf hg => by have := (h2 j hf).2; omega) hm (fun a ha hf => by have := (h2 _ hf).2; have := hA a ha; omega) hk hno).mono ?_
 rintro q w2 ⟨rfl, F', hs, hf, ho⟩
 exact ⟨rfl, kp_more (bstep h3 hb) (fun j hj => ⟨(h2 j hj).1, Nat.lt_of_lt_of_le (h2 j hj).2 hb.size⟩) hs hf ho⟩
theorem kp_use (h : Kp w0 w g s) (k : ByteArray) (hk : k.size ≤ 1000000) {s' : Sx} (hs : useT s k = s') {e : En} (he : lookE s k = e) {n : Int} (hn : lookN s k = n) :
  Calls Tryz.prog 20 #[.pointer (some ⟨g, 0, none⟩), .string k] w (fun q w2 => ∃ y, q = .returned (.tuple #[emV y, .int .i64 n]) ∧ y.e = e ∧ Kp w0 w2 g s') := by
 subst hs; subst he; subst hn
 obtain ⟨F, h1, h2, h3⟩ := h
 refine (use_any h1 k hk).mono ?_
 rintro q w2 ⟨F', P, y, rfl, he, _, _, gv⟩
 exact ⟨y, rfl, he, kp_more h3 h2 gv.s gv.f gv.o⟩
theorem kp_find (h : Kp w0 w g s) (k : ByteArray) (hk : k.size ≤ 1000000) {n : Int} (hn : lookN s k = n) :
  Calls Tryz.prog 26 #[.pointer (some ⟨g, 0, none⟩), .string k] w (fun q w2 => ∃ y, q = .returned (.tuple #[emV y, .int .i64 n]) ∧ Kp w0 w2 g s) := by
 subst hn
 obtain ⟨F, h1, h2, h3⟩ := h
 refine (find_any h1 k hk).mono ?_
 rintro q w2 ⟨F', P, y, rfl, he, _, _, gv⟩
 exact ⟨y, rfl, kp_more h3 h2 gv.s gv.f gv.o⟩
theorem kp_tou (h : Kp w0 w g s) (k : ByteArray) (hk : k.size ≤ 1000000) (d : Int) (hd : 0 ≤ d ∧ d < 18446744073709551616) {s' : Sx} (hs : touT s k d = s') {n : Int} (hn : lookN s k = n) :
  Calls Tryz.prog 30 #[.pointer (some ⟨g, 0, none⟩), .string k, .int .u64 d] w (fun q w2 => q = .returned (.int .i64 n) ∧ Kp w0 w2 g s') := by
 subst hs; subst hn
 obtain ⟨F, h1, h2, h3⟩ := h
 refine (tou_any h1 k hk d hd).mono ?_
 rintro q w2 ⟨F', rfl, gv⟩
 exact ⟨rfl, kp_more h3 h2 gv.s gv.f gv.o⟩
theorem kp_exp (h : Kp w0 w g s) (d : Int) (hd : 0 ≤ d ∧ d < 18446744073709551616) {s' : Sx} (hs : expT s d = s') {L : List En} (hL : expG id d s.l = L) :
  Calls Tryz.prog 31 #[.pointer (some ⟨g, 0, none⟩), .int .u64 d] w (fun q w2 => ∃ P A c l, q = .returned (.slice A l.length c) ∧ l.map Em.e = L ∧ RL P w2 A c l ∧ Kp w0 w2 g s') := by
 subst hs; subst hL
 obtain ⟨F, h1, h2, h3⟩ := h
 refine (exp_any h1 d hd).mono ?_
 rintro q w2 ⟨F', P, A, c, l, rfl, he, hh, gv⟩
 exact ⟨P, A, c, l, rfl, he, hh.r, kp_more h3 h2 gv.s gv.f gv.o⟩
def Kq (w0 w : World) (g : Nat) (s : Sx) (P : Nat → Prop) : Prop := ∃ F : Nat → Prop, St F w g s ∧ (∀ j, F j → w0.heap.size ≤ j ∧ j < w.heap.size) ∧ Below w0.heap.size w0 w ∧ ∀ j, F j → ¬ P j
theorem kp_exq (h : Kp w0 w g s) (d : Int) (hd : 0 ≤ d ∧ d < 18446744073709551616) {s' : Sx} (hs : expT s d = s') {L : List En} (hL : expG id d s.l = L) :
  Calls Tryz.prog 31 #[.pointer (some ⟨g, 0, none⟩), .int .u64 d] w (fun q w2 => ∃ P A c l, q = .returned (.slice A l.length c) ∧ l.map Em.e = L ∧ RL P w2 A c l ∧ Kq w0 w2 g s' P) := by
 subst hs; subst hL
 obtain ⟨F, h1, h2, h3⟩ := h
 refine (exp_any h1 d hd).mono ?_
 rintro q w2 ⟨F', P, A, c, l, rfl, he, hh, gv⟩
 refine ⟨P, A, c, l, rfl, he, hh.r, _, gv.s.tight, fun j hj => ⟨?_, hj.2⟩, h3.trans (gv.o.below (fun j hj => (h2 j hj).1) h3.size), fun j hj hp => gv.d j hp hj.1⟩
 rcases gv.f j hj.1 with k | k
 ·exact (h2 j k).1
 ·exact Nat.le_trans h3.size k
theorem kp_rep {P : Nat → Prop} {A : Option Addr} {c : Nat} {l : List Em} (h : Kq w0 w g s P) (hr : RL P w A c l) (k : ByteArray) (hk : k.size ≤ 1000000) {s' : Sx} (hs : remT s k = s') {n : Int} (hn : lookN s k = n) :
  Calls Tryz.prog 21 #[.pointer (some ⟨g, 0, none⟩), .string k] w (fun q w2 => ∃ y, q = .returned (.tuple #[emV y, .int .i64 n]) ∧ RL P w2 A c l ∧ Kp w0 w2 g s') := by
 subst hs; subst hn
 obtain ⟨F, h1, h2, h3, h4⟩ := h
 refine (rem_any h1 k hk).mono ?_
 rintro q w2 ⟨F', P', y, rfl, he, _, _, gv⟩
 exact ⟨y, rfl, hr.only gv.o h4, kp_more h3 h2 gv.s gv.f gv.o⟩
theorem kp_next (h : Kp w0 w g s) {n : Int} (hn : nextT s.l = n) : Calls Tryz.prog 32 #[.pointer (some ⟨g, 0, none⟩)] w (fun q w2 => q = .returned (.int .u64 n) ∧ Kp w0 w2 g s) := by
 subst hn
 obtain ⟨F, h1, h2, h3⟩ := h
 refine (next_any h1).mono ?_
 rintro q w2 ⟨rfl, hb⟩
 exact ⟨rfl, Kp.below ⟨F, h1, h2, h3⟩ hb⟩
theorem kp_keys (h : Kp w0 w g s) {l : List ByteArray} (hl : keysL s.l = l) : Calls Tryz.prog 33 #[.pointer (some ⟨g, 0, none⟩)] w (fun q w2 => ∃ A c, q = .returned (.slice A l.length c) ∧ Rs w2 1 A l.length c (strs l) ∧ Kp w0 w2 g s) := by
 subst hl
 obtain ⟨F, h1, h2, h3⟩ := h
 refine (keys_any h1).mono ?_
 rintro q w2 ⟨A, c, rfl, hr, hb⟩
 exact ⟨A, c, rfl, hr, Kp.below ⟨F, h1, h2, h3⟩ hb⟩
theorem kp_used (h : Kp w0 w g s) {x n : Int} (hx : (used s.l : Int) = x) (hn : (s.l.length : Int) = n) : Calls Tryz.prog 25 #[.pointer (some ⟨g, 0, none⟩), .int .i64 x, .int .i64 n] w (fun q w2 => q = .returned (.bool true) ∧ Kp w0 w2 g s) := by
 subst hx; subst hn
 obtain ⟨F, h1, h2, h3⟩ := h
 refine (Go.Proofs.YtlmljhnogmfcfaaGreat.Eq.used_gen _ _ (used_any h1)).mono ?_
 rintro q w2 ⟨rfl, hb⟩
 exact ⟨rfl, Kp.below ⟨F, h1, h2, h3⟩ hb⟩
end
end Go.Proofs.YtlmljhnogmfcfaaGreat.Ev
