/- Proves that the law's check of the chapter's examples returns true. Conditions: none. -/
import Derived.Test.YthlfahblnpijaaaDoorSk
import Derived.Lib.SlBytesConst
import Derived.Deep.RegionHeld3
namespace Go.Proofs.YthlfahblnpijaaaDoor.Sl
open Go.RowKit Vm Ap Vw Va Gc Mi Mb Qm Sm Se So Sn Sp Sx Fm Fw Sk

theorem writes_at (x : Res) (xv : Value) (fc : UInt8) (F : Option Addr) (fp : Bs) (n fk : Nat) (no xc : Int) (w : World) (hx : resV x = xv) (hn : fp.length = n) (hxc : (fc.toNat : Int) = xc) (hr : RRc w x) (hb : BndS x) (hF : Rb w F fp) (h : wrB x.r fc fp no = true) :
    Calls Tryd.prog 10 #[xv, .agg #[.int .u8 xc, .slice F n fk], .int .i64 no] w (boolOf true w) := by
  subst hn; subst hxc; subst hx
  have := writes_any x fc F fp fk no w hr hb hF
  rw [h] at this; exact this
theorem reads_at (fc : UInt8) (F : Option Addr) (fp : Bs) (n fk : Nat) (xc : Int) (w : World) (hn : fp.length = n) (hxc : (fc.toNat : Int) = xc) (hF : Rb w F fp) (hp : fp.length ≤ 2000000) (h : (readF fc.toNat fp).isNone = true) :
    Calls Tryd.prog 8 #[.agg #[.int .u8 xc, .slice F n fk], .agg #[.int .i64 0, .int .i64 0, .slice none 0 0, .int .u64 0, .int .i64 0, .slice none 0 0], .int .i64 6] w (boolOf true w) := by
  subst hn; subst hxc
  have := reads_any fc F fp fk (startS 0 0) 6 w hF hp (RRc.start w 0 0) (gotS_zero 0 w).bnd
  have e : rdB fc.toNat fp (startS 0 0).r 6 = true := by
    unfold rdB
    rw [Option.isNone_iff_eq_none.1 h]
    rfl
  rw [e] at this; exact this
theorem wr_yes {r : Rsp} {fc : UInt8} {fp : Bs} (hv : validS r = true) (hc : 64 + r.op = (fc.toNat : Int)) (hp : payS r = fp) : wrB r fc fp 0 = true :=
  wrB_true (by unfold wrC; rw [if_pos hv, hc]) (by unfold wrP; rw [if_pos hv, hp]) (by unfold wrE; rw [if_pos hv])
theorem wr_no {r : Rsp} (hv : validS r = false) : wrB r 0 [] 2 = true :=
  wrB_true (by unfold wrC; simp [hv]) (by unfold wrP; simp [hv]) (by unfold wrE; simp [hv])
def i1 : Itm := ⟨1, [120], 7, 18446744073709551615⟩
def i2 : Itm := ⟨2, [], 1, 5⟩
def i3 : Itm := ⟨0, [], 1, 0⟩
def r1 : Rsp := ⟨1, 0, [], 300, 2, []⟩
def r2 : Rsp := ⟨4, 2, [], 0, 0, []⟩
def r3 : Rsp := ⟨4, 0, [i1], 0, 0, []⟩
def r4 : Rsp := ⟨5, 0, [zeroI, i2], 0, 0, []⟩
def r5 : Rsp := ⟨15, 0, [], 0, 0, [1, 200]⟩
def r6 : Rsp := ⟨0, 6, [], 0, 0, []⟩
def r7 : Rsp := ⟨0, 0, [], 0, 0, []⟩
def r8 : Rsp := ⟨4, 0, [], 0, 0, []⟩
def r9 : Rsp := ⟨7, 0, [], 0, -1, []⟩
def r10 : Rsp := ⟨4, 0, [i3], 0, 0, []⟩
theorem e1 : wrB r1 65 [0, 172, 2, 2] 0 = true := wr_yes (by decide +kernel) (by decide) (by simp [payS, headS, need, r1, encN])
theorem e2 : wrB r2 68 [2] 0 = true := wr_yes (by decide +kernel) (by decide) (by simp [payS, r2, encN])
theorem e3 : wrB r3 68 [0, 1, 7, 255, 255, 255, 255, 255, 255, 255, 255, 255, 1, 1, 120] 0 = true := wr_yes (by decide +kernel) (by decide) (by simp [payS, headS, need, r3, encI, i1, encS, encN])
theorem e4 : wrB r4 69 [0, 2, 0, 2, 1, 5, 0] 0 = true := wr_yes (by decide +kernel) (by decide) (by simp [payS, headS, need, r4, encI, zeroI, i2, encS, encN])
theorem e5 : wrB r5 79 [0, 2, 1, 200, 1] 0 = true := wr_yes (by decide +kernel) (by decide) (by simp [payS, headS, need, r5, encN])
theorem e6 : wrB r6 64 [6] 0 = true := wr_yes (by decide +kernel) (by decide) (by simp [payS, r6, encN])
theorem e7 : wrB r7 0 [] 2 = true := wr_no (by decide +kernel)
theorem e8 : wrB r8 0 [] 2 = true := wr_no (by decide +kernel)
theorem e9 : wrB r9 0 [] 2 = true := wr_no (by decide +kernel)
theorem e10 : wrB r10 0 [] 2 = true := wr_no (by decide +kernel)
theorem d1 : (readF 4 [0]).isNone = true := by decide +kernel
theorem d2 : (readF 68 []).isNone = true := by decide +kernel
theorem d3 : (readF 68 [0]).isNone = true := by decide +kernel
theorem d4 : (readF 71 [0, 5, 0]).isNone = true := by decide +kernel
theorem d5 : (readF 68 [0, 3, 1, 5, 0]).isNone = true := by decide +kernel
/-- A response without lists; with items; with numbers. -/
def plain (r : Rsp) : Res := { op := r.op, err := r.err, items := [], IA := none, ik := 0, version := r.version, count := r.count, numbers := [], NA := none, nk := 0 }
theorem rc_plain (w : World) (r : Rsp) : RRc w (plain r) := ⟨RI.nil _ _, fun _ => rfl, (fun y hy => by cases hy), (fun y hy => by cases hy), RN.nil _ _, fun _ => rfl⟩
theorem bnd_plain (r : Rsp) (h1 : -9223372036854775808 ≤ r.op ∧ r.op ≤ 9223372036854775807) (h2 : -9223372036854775808 ≤ r.err ∧ r.err ≤ 9223372036854775807) (h3 : -9223372036854775808 ≤ r.count ∧ r.count ≤ 9223372036854775807) (h4 : r.version < 18446744073709551616) : BndS (plain r) :=
  ⟨h1.1, h1.2, h2.1, h2.2, h3.1, h3.2, h4, by simp [plain], by simp [plain], (fun y hy => by cases hy), (fun n hn => by cases hn)⟩
def withI (r : Rsp) (ys : List Im) (p n : Nat) : Res := { plain r with items := ys, IA := some ⟨p, 0, none⟩, ik := n }
def okB (i : Itm) : Bool := decide (-9223372036854775808 ≤ i.mark) && (decide (i.mark ≤ 9223372036854775807) && (decide (i.value.length ≤ 1000000) && (decide (i.version < 18446744073709551616) && decide (i.dead < 18446744073709551616))))
theorem bnd_withI {r : Rsp} (h : BndS (plain r)) {ys : List Im} (h1 : ys.length ≤ 1000) (h2 : ∀ y ∈ ys, okB y.i = true) (p n : Nat) : BndS (withI r ys p n) :=
  ⟨h.op1, h.op2, h.err1, h.err2, h.count1, h.count2, h.version, h1, h.numbers, fun y hy => by
    have := h2 y hy
    unfold okB at this
    simp only [Bool.and_eq_true, decide_eq_true_eq] at this
    exact ⟨⟨this.1, this.2.1⟩, this.2.2.1, this.2.2.2.1, this.2.2.2.2⟩, h.nums⟩
theorem rc_withI {w : World} {r : Rsp} {ys : List Im} {p : Nat} {cs : Array Value} {n : Nat} (hp : w.heap.size = p) (hn : ys.length = n) (hcs : cs.toList = imL ys) (hm : ys.length ≤ 1000) (hy : ∀ y ∈ ys, Rb w y.A y.i.value ∧ (y.A = none → y.k = 0)) : RRc (w.alloc (.cells cs 49)) (withI r ys p n) := by
  subst hp; subst hn
  have hb := alloc_below w (.cells cs 49)
  have hsz : cs.size = ys.length * 4 := by have := congrArg List.length hcs; rw [imL_len] at this; simpa using this
  have hM := Mine.lit w cs 49 ys.length hsz (by unfold maxLen; omega)
  rw [hcs] at hM
  exact ⟨ri_mine hM, hM.non, fun y h => (hy y h).1.below hb (Nat.le_refl _), fun y h => (hy y h).2, RN.nil _ _, fun _ => rfl⟩
theorem rb_new (w : World) (l : Bs) (cs : Array Value) (b : Nat) (hb : w.heap.size = b) (hcs : (l.map byteV).toArray = cs) (hl : l.length ≤ 1000) : Rb (w.alloc (.cells cs 5)) (some ⟨b, 0, none⟩) l := by
  subst hb; subst hcs; exact Rb.lit w l (by omega)
theorem call1 (w : World) (r : Rsp) (xv : Value) (fc : UInt8) (xc : Int) (fp : Bs) (n : Nat) (cs : Array Value) (p : Nat) (h1 : w.heap.size = p) (hx : resV (plain r) = xv) (hxc : (fc.toNat : Int) = xc) (hn : fp.length = n) (hcs : (fp.map byteV).toArray = cs) (hl : fp.length ≤ 1000) (hb : BndS (plain r)) (hr : (plain r).r = r) (h : wrB r fc fp 0 = true) :
    Calls Tryd.prog 10 #[xv, .agg #[.int .u8 xc, .slice (some ⟨p, 0, none⟩) n n], .int .i64 0] (w.alloc (.cells cs 5)) (boolOf true (w.alloc (.cells cs 5))) :=
  writes_at (plain r) xv fc _ fp n n 0 xc _ hx hn hxc (rc_plain _ r) hb (rb_new w fp cs p h1 hcs hl) (by rw [hr]; exact h)
theorem call0 (w : World) (r : Rsp) (xv : Value) (hx : resV (plain r) = xv) (hb : BndS (plain r)) (hr : (plain r).r = r) (h : wrB r 0 [] 2 = true) :
    Calls Tryd.prog 10 #[xv, .agg #[.int .u8 0, .slice none 0 0], .int .i64 2] w (boolOf true w) :=
  writes_at (plain r) xv 0 none [] 0 0 2 0 w hx rfl rfl (rc_plain _ r) hb (Rb.nil _ _) (by rw [hr]; exact h)
theorem callI (w : World) (r : Rsp) (ys : List Im) (m : Nat) (xv : Value) (fc : UInt8) (xc : Int) (fp : Bs) (n : Nat) (cs1 cs : Array Value) (p q : Nat) (h1 : w.heap.size = p) (h2 : w.heap.size + 1 = q) (hx : resV (withI r ys p m) = xv) (hm : ys.length = m) (hc1 : cs1.toList = imL ys) (hml : ys.length ≤ 1000) (hy : ∀ y ∈ ys, Rb w y.A y.i.value ∧ (y.A = none → y.k = 0)) (hxc : (fc.toNat : Int) = xc) (hn : fp.length = n) (hcs : (fp.map byteV).toArray = cs) (hl : fp.length ≤ 1000) (hb : BndS (withI r ys p m)) (hr : (withI r ys p m).r = r) (h : wrB r fc fp 0 = true) :
    Calls Tryd.prog 10 #[xv, .agg #[.int .u8 xc, .slice (some ⟨q, 0, none⟩) n n], .int .i64 0] ((w.alloc (.cells cs1 49)).alloc (.cells cs 5)) (boolOf true ((w.alloc (.cells cs1 49)).alloc (.cells cs 5))) :=
  writes_at (withI r ys p m) xv fc _ fp n n 0 xc _ hx hn hxc ((rc_withI h1 hm hc1 hml hy).below (alloc_below _ _) (Nat.le_refl _)) hb (rb_new _ fp cs q (by simp; omega) hcs hl) (by rw [hr]; exact h)
theorem callI0 (w : World) (r : Rsp) (ys : List Im) (m : Nat) (xv : Value) (cs1 : Array Value) (p : Nat) (h1 : w.heap.size = p) (hx : resV (withI r ys p m) = xv) (hm : ys.length = m) (hc1 : cs1.toList = imL ys) (hml : ys.length ≤ 1000) (hy : ∀ y ∈ ys, Rb w y.A y.i.value ∧ (y.A = none → y.k = 0)) (hb : BndS (withI r ys p m)) (hr : (withI r ys p m).r = r) (h : wrB r 0 [] 2 = true) :
    Calls Tryd.prog 10 #[xv, .agg #[.int .u8 0, .slice none 0 0], .int .i64 2] (w.alloc (.cells cs1 49)) (boolOf true (w.alloc (.cells cs1 49))) :=
  writes_at (withI r ys p m) xv 0 none [] 0 0 2 0 _ hx rfl rfl (rc_withI h1 hm hc1 hml hy) hb (Rb.nil _ _) (by rw [hr]; exact h)
def withN (p : Nat) : Res := { op := 15, err := 0, items := [], IA := none, ik := 0, version := 0, count := 0, numbers := [1, 200], NA := some ⟨p, 0, none⟩, nk := 2 }
theorem bp (r : Rsp) (h : (decide (-9223372036854775808 ≤ r.op) && decide (r.op ≤ 9223372036854775807) && decide (-9223372036854775808 ≤ r.err) && decide (r.err ≤ 9223372036854775807) && decide (-9223372036854775808 ≤ r.count) && decide (r.count ≤ 9223372036854775807) && decide (r.version < 18446744073709551616)) = true) : BndS (plain r) := by
  simp only [Bool.and_eq_true, decide_eq_true_eq] at h
  obtain ⟨⟨⟨⟨⟨⟨a, b⟩, c⟩, d⟩, e⟩, f⟩, g⟩ := h
  exact bnd_plain r ⟨a, b⟩ ⟨c, d⟩ ⟨e, f⟩ g
theorem bnd_withN (p : Nat) : BndS (withN p) := by
  have h := bp ⟨15, 0, [], 0, 0, []⟩ (by decide)
  exact ⟨h.op1, h.op2, h.err1, h.err2, h.count1, h.count2, h.version, h.items, (by show 2 ≤ 1000; decide), h.each, (fun n hn => by simp [withN] at hn; omega)⟩
theorem callN (w : World) (p q : Nat) (h1 : w.heap.size = p) (h2 : w.heap.size + 1 = q) :
    Calls Tryd.prog 10 #[.agg #[.int .i64 15, .int .i64 0, .slice none 0 0, .int .u64 0, .int .i64 0, .slice (some ⟨p, 0, none⟩) 2 2], .agg #[.int .u8 79, .slice (some ⟨q, 0, none⟩) 5 5], .int .i64 0] ((w.alloc (.cells #[.int .u64 1, .int .u64 200] 25)).alloc (.cells #[.int .u8 0, .int .u8 2, .int .u8 1, .int .u8 200, .int .u8 1] 5)) (boolOf true ((w.alloc (.cells #[.int .u64 1, .int .u64 200] 25)).alloc (.cells #[.int .u8 0, .int .u8 2, .int .u8 1, .int .u8 200, .int .u8 1] 5))) := by
  subst h1
  have hM := Mine.lit (sz := 1) w #[.int .u64 1, .int .u64 200] 25 2 rfl (by unfold maxLen; omega)
  have hN : NuO w.heap.size (w.alloc (.cells #[.int .u64 1, .int .u64 200] 25)) (some ⟨w.heap.size, 0, none⟩) 2 [1, 200] := hM
  exact writes_at (withN w.heap.size) _ 79 _ [0, 2, 1, 200, 1] 5 5 0 79 _ rfl rfl rfl ⟨RI.nil _ _, fun _ => rfl, (fun y hy => by cases hy), (fun y hy => by cases hy), (rn_mine hN).below (alloc_below _ _) (Nat.le_refl _), fun e => by cases e⟩
    (bnd_withN _) (rb_new _ [0, 2, 1, 200, 1] _ q (by simp; omega) rfl (by simp)) e5
set_option maxRecDepth 100000 in
set_option maxHeartbeats 8000000 in
theorem known_any (w : World) : Calls Tryd.prog 5 #[] w (boolOf true w) := by
  have kc := fun (w : World) (C : Array Value) (n c : Nat) => Lib.run_convert_bytes_const (P := Tryd.prog) w 29 5 C n c Tryd.underlying29 Tryd.underlying5
  go_enter Tryd.func5, Tryd.ntmps5
  go_upto_region 2 with fail
  obtain ⟨wA, hwA⟩ : ∃ wA, wA = w.alloc (.cells #[.int .u8 120] 5 (1, 2)) := ⟨_, rfl⟩
  have bA : Below w.heap.size w wA := by rw [hwA]; exact alloc_below _ _
  have hsA : wA.heap.size = w.heap.size + 1 := by rw [hwA]; simp
  have rA : Rb wA (some ⟨w.heap.size, 0, none⟩) [120] := by rw [hwA]; exact Rb.marked w [120] (1, 2)
  obtain ⟨y, hy⟩ : ∃ y : Im, y = ⟨i1, some ⟨w.heap.size, 0, none⟩, 1⟩ := ⟨_, rfl⟩
  obtain ⟨w1, hw1⟩ : ∃ w1, w1 = wA.alloc (.cells #[.int .i64 1, .slice (some ⟨w.heap.size, 0, none⟩) 1 1, .int .u64 7, .int .u64 18446744073709551615] 49) := ⟨_, rfl⟩
  have bB : Below wA.heap.size wA w1 := by rw [hw1]; exact alloc_below _ _
  have HB1 : Hid (Below w.heap.size w w1) := bA.trans (bB.mono bA.size)
  have HYR : Hid (∀ W, Below w1.heap.size w1 W → Rb W y.A y.i.value ∧ (y.A = none → y.k = 0)) := fun W h => ⟨by rw [hy]; exact (rA.below bB (Nat.le_refl _)).below h (Nat.le_refl _), by rw [hy]; intro e; cases e⟩
  have HD : Hid (BoxI w1 wA.heap.size y) := by show BoxI _ _ _; rw [hw1, hy]; exact BoxI.new wA ⟨i1, some ⟨w.heap.size, 0, none⟩, 1⟩
  obtain ⟨pA, hpA⟩ : ∃ pA, pA = w.heap.size := ⟨_, rfl⟩
  obtain ⟨D, hDD⟩ : ∃ D, D = w.heap.size + 1 := ⟨_, rfl⟩
  rw [← hpA] at hy
  have HY := Lib.hid hy
  rw [hsA, ← hDD] at HD
  have HT : Hid (∀ W, Below w1.heap.size w1 W → W.cell? ⟨D, 0, none⟩ = some (.int .i64 1) ∧ W.cell? ⟨D, 1, none⟩ = some (.slice (some ⟨pA, 0, none⟩) 1 1) ∧ W.cell? ⟨D, 2, none⟩ = some (.int .u64 7) ∧ W.cell? ⟨D, 3, none⟩ = some (.int .u64 18446744073709551615)) := fun W h => by
    have hd := HD.out.below h (Nat.le_refl _)
    rw [hy] at hd
    exact ⟨hd.c0, hd.c1, hd.c2, hd.c3⟩
  have HX1 : Hid (Below w1.heap.size w1 w1) := Below.refl _ _
  rw [← hpA] at hw1 hDD ⊢
  rw [← hwA]
  first | rw [← hw1, ← hDD] | rw [← hw1]
  clear hw1 hwA hsA rA bA bB hy hDD hpA
  go_wp2_with fail
  refine (call1 w1 r1 _ 65 65 [0, 172, 2, 2] 4 _ _ rfl rfl rfl rfl rfl (by simp) (bp r1 (by decide)) rfl e1).mono ?_
  rintro e w2 ⟨rfl, b⟩
  have HX2 := Lib.hid (step1 HX1.out b)
  clear b HX1
  go_wp2_with fail
  refine (Sc.fail_any 4 2 w2).mono ?_
  rintro e w3 ⟨rfl, b⟩
  have HX3 := Lib.hid (step0 HX2.out b)
  clear b HX2
  go_wp2_with fail
  refine (call1 w3 r2 _ 68 68 [2] 1 _ _ rfl rfl rfl rfl rfl (by simp) (bp r2 (by decide)) rfl e2).mono ?_
  rintro e w4 ⟨rfl, b⟩
  have HX4 := Lib.hid (step1 HX3.out b)
  clear b HX3
  obtain ⟨t0, t1, t2, t3⟩ := HT.out w4 HX4.out
  go_wp2_with fail
  have hyv := HY.out
  subst hyv
  refine (callI w4 r3 [⟨i1, some ⟨pA, 0, none⟩, 1⟩] 1 _ 68 68 [0, 1, 7, 255, 255, 255, 255, 255, 255, 255, 255, 255, 1, 1, 120] 15 _ _ _ _ rfl rfl rfl rfl rfl (by simp) (fun q hq => by rw [List.mem_singleton.1 hq]; exact HYR.out w4 HX4.out) rfl rfl rfl (by simp) (bnd_withI (bp r3 (by decide)) (by simp) (fun q hq => by rw [List.mem_singleton.1 hq]; show okB i1 = true; decide) _ _) rfl e3).mono ?_
  rintro e w5 ⟨rfl, b⟩
  have HX5 := Lib.hid (step2 HX4.out b)
  clear b HX4 t0 t1 t2 t3
  go_wp2_with fail
  refine (callI w5 r4 [zeroM, ⟨i2, none, 0⟩] 2 _ 69 69 [0, 2, 0, 2, 1, 5, 0] 7 _ _ _ _ rfl rfl rfl rfl rfl (by simp) (fun q hq => by simp only [List.mem_cons, List.not_mem_nil, or_false] at hq; rcases hq with rfl | rfl <;> exact ⟨Rb.nil _ _, fun _ => rfl⟩) rfl rfl rfl (by simp) (bnd_withI (bp r4 (by decide)) (by simp) (fun q hq => by simp only [List.mem_cons, List.not_mem_nil, or_false] at hq; rcases hq with rfl | rfl <;> decide) _ _) rfl e4).mono ?_
  rintro e w6 ⟨rfl, b⟩
  have HX6 := Lib.hid (step2 HX5.out b)
  clear b HX5
  go_wp2_with fail
  refine (callN w6 _ _ rfl rfl).mono ?_
  rintro e w7 ⟨rfl, b⟩
  have HX7 := Lib.hid (step2 HX6.out b)
  clear b HX6
  go_wp2_with fail
  refine (Sc.fail_any 0 6 w7).mono ?_
  rintro e w8 ⟨rfl, b⟩
  have HX8 := Lib.hid (step0 HX7.out b)
  clear b HX7
  go_wp2_with fail
  refine (call1 w8 r6 _ 64 64 [6] 1 _ _ rfl rfl rfl rfl rfl (by simp) (bp r6 (by decide)) rfl e6).mono ?_
  rintro e w9 ⟨rfl, b⟩
  have HX9 := Lib.hid (step1 HX8.out b)
  clear b HX8 kc
  go_upto_region 9 with fail
  obtain ⟨wa, hwa⟩ : ∃ wa, wa = w9.alloc (.cells #[.int .u8 0, .slice none 0 0] 31) := ⟨_, rfl⟩
  have HXa : Hid (Below w1.heap.size w1 wa) := by show Below _ _ _; rw [hwa]; exact HX9.out.alloc HX9.out.size _
  have CEa : Hid (Cel wa w9.heap.size (.int .u8 0) (.slice none 0 0)) := by show Cel _ _ _ _; rw [hwa]; exact Cel.new _ _ _ _
  rw [← hwa]
  clear hwa
  generalize w9.heap.size = g at *
  have k0 : ∀ v, Below wa.heap.size wa v → v.cell? ⟨g, 0, none⟩ = some (.int .u8 0) := fun v h => (CEa.out.below h (Nat.le_refl _)).c0
  have k1 : ∀ v, Below wa.heap.size wa v → v.cell? ⟨g, 1, none⟩ = some (.slice none 0 0) := fun v h => (CEa.out.below h (Nat.le_refl _)).c1
  clear HX9
  go_wp2_with fail
  refine wp_region_noPanic ?_
  refine wp_region_held_drew (S := fun v => Below wa.heap.size wa v) (by kernel_rfl) ((Below.refl _ _).drew) (fun hHeld => ?_)
  refine wpAnyH_take (i := 1) (oi := ⟨some 52, _, _, _, _, _⟩) (v := ?_) rfl (by kernel_rfl) (by kernel_rfl) (by kernel_rfl) (fun _ _ _ h => h) (Or.inl ⟨by rfl, ?_⟩) (by assumption) ?_
  rotate_left
  · intro w hSw; go_simp; first | done | with_reducible rfl
  try simp only [Act.put, List.setIfInBounds_toArray, List.set_cons_zero, List.set_cons_succ]
  refine wpAnyH_ready (rs := [0]) (by kernel_rfl) (by simp) ?_
  refine AllReadyH.cons (o := ⟨some 51, _, _, _, _, _⟩) rfl (fun K hK => ?_) AllReadyH.nil
  go_simp
  refine (Sc.fail_any 0 0 _).mono ?_
  rintro e u1 ⟨rfl, bx⟩
  have HU1 : Hid (Below wa.heap.size wa u1) := hHeld.trans (bx.mono hHeld.size)
  clear bx
  go_simp
  refine hK.out _ _ (HU1.out) (fun hHeld => ?_)
  clear hK K
  try simp only [Act.put, List.setIfInBounds_toArray, List.set_cons_zero, List.set_cons_succ]
  refine wpAnyH_ready (rs := [2]) (by kernel_rfl) (by simp) ?_
  refine AllReadyH.cons (o := ⟨some 53, _, _, _, _, _⟩) rfl (fun K hK => ?_) AllReadyH.nil
  go_simp
  refine (call0 _ r7 _ rfl (bp r7 (by decide)) rfl e7).mono ?_
  rintro e u2 ⟨rfl, bx⟩
  have HU2 : Hid (Below wa.heap.size wa u2) := hHeld.trans (bx.mono hHeld.size)
  clear bx
  go_simp
  refine hK.out _ _ (HU2.out) (fun hHeld => ?_)
  clear hK K
  try simp only [Act.put, List.setIfInBounds_toArray, List.set_cons_zero, List.set_cons_succ]
  refine wpAnyH_take (i := 3) (oi := ⟨some 54, _, _, _, _, _⟩) (v := ?_) rfl (by kernel_rfl) (by kernel_rfl) (by kernel_rfl) (fun _ _ _ h => h) (Or.inl ⟨by rfl, ?_⟩) (by assumption) ?_
  rotate_left
  · intro w hSw; go_simp; first | done | with_reducible rfl
  try simp only [Act.put, List.setIfInBounds_toArray, List.set_cons_zero, List.set_cons_succ]
  refine wpAnyH_take (i := 4) (oi := ⟨some 55, _, _, _, _, _⟩) (v := ?_) rfl (by kernel_rfl) (by kernel_rfl) (by kernel_rfl) (fun _ _ _ h => h) (Or.inl ⟨by rfl, ?_⟩) (by assumption) ?_
  rotate_left
  · intro w hSw; go_simp; first | done | with_reducible rfl
  try simp only [Act.put, List.setIfInBounds_toArray, List.set_cons_zero, List.set_cons_succ]
  refine wpAnyH_take (i := 5) (oi := ⟨some 56, _, _, _, _, _⟩) (v := ?_) rfl (by kernel_rfl) (by kernel_rfl) (by kernel_rfl) (fun _ _ _ h => h) (Or.inl ⟨by rfl, ?_⟩) (by assumption) ?_
  rotate_left
  · intro w hSw; go_simp; first | done | with_reducible rfl
  try simp only [Act.put, List.setIfInBounds_toArray, List.set_cons_zero, List.set_cons_succ]
  refine wpAnyH_take (i := 6) (oi := ⟨some 57, _, _, _, _, _⟩) (v := ?_) rfl (by kernel_rfl) (by kernel_rfl) (by kernel_rfl) (fun _ _ _ h => h) (Or.inl ⟨by rfl, ?_⟩) (by assumption) ?_
  rotate_left
  · intro w hSw; go_simp; first | done | with_reducible rfl
  try simp only [Act.put, List.setIfInBounds_toArray, List.set_cons_zero, List.set_cons_succ]
  refine wpAnyH_ready (rs := [7]) (by kernel_rfl) (by simp) ?_
  refine AllReadyH.cons (o := ⟨some 58, _, _, _, _, _⟩) rfl (fun K hK => ?_) AllReadyH.nil
  go_simp
  refine (call0 _ r8 _ rfl (bp r8 (by decide)) rfl e8).mono ?_
  rintro e u3 ⟨rfl, bx⟩
  have HU3 : Hid (Below wa.heap.size wa u3) := hHeld.trans (bx.mono hHeld.size)
  clear bx
  go_simp
  refine hK.out _ _ (HU3.out) (fun hHeld => ?_)
  clear hK K
  try simp only [Act.put, List.setIfInBounds_toArray, List.set_cons_zero, List.set_cons_succ]
  refine wpAnyH_take (i := 8) (oi := ⟨some 59, _, _, _, _, _⟩) (v := ?_) rfl (by kernel_rfl) (by kernel_rfl) (by kernel_rfl) (fun _ _ _ h => h) (Or.inl ⟨by rfl, ?_⟩) (by assumption) ?_
  rotate_left
  · intro w hSw; go_simp; first | done | with_reducible rfl
  try simp only [Act.put, List.setIfInBounds_toArray, List.set_cons_zero, List.set_cons_succ]
  refine wpAnyH_take (i := 9) (oi := ⟨some 60, _, _, _, _, _⟩) (v := ?_) rfl (by kernel_rfl) (by kernel_rfl) (by kernel_rfl) (fun _ _ _ h => h) (Or.inl ⟨by rfl, ?_⟩) (by assumption) ?_
  rotate_left
  · intro w hSw; go_simp; first | done | with_reducible rfl
  try simp only [Act.put, List.setIfInBounds_toArray, List.set_cons_zero, List.set_cons_succ]
  refine wpAnyH_take (i := 10) (oi := ⟨some 61, _, _, _, _, _⟩) (v := ?_) rfl (by kernel_rfl) (by kernel_rfl) (by kernel_rfl) (fun _ _ _ h => h) (Or.inl ⟨by rfl, ?_⟩) (by assumption) ?_
  rotate_left
  · intro w hSw; go_simp; first | done | with_reducible rfl
  try simp only [Act.put, List.setIfInBounds_toArray, List.set_cons_zero, List.set_cons_succ]
  refine wpAnyH_take (i := 11) (oi := ⟨some 62, _, _, _, _, _⟩) (v := ?_) rfl (by kernel_rfl) (by kernel_rfl) (by kernel_rfl) (fun _ _ _ h => h) (Or.inl ⟨by rfl, ?_⟩) (by assumption) ?_
  rotate_left
  · intro w hSw; go_simp; first | done | with_reducible rfl
  try simp only [Act.put, List.setIfInBounds_toArray, List.set_cons_zero, List.set_cons_succ]
  refine wpAnyH_take (i := 12) (oi := ⟨some 63, _, _, _, _, _⟩) (v := ?_) rfl (by kernel_rfl) (by kernel_rfl) (by kernel_rfl) (fun _ _ _ h => h) (Or.inl ⟨by rfl, ?_⟩) (by assumption) ?_
  rotate_left
  · intro w hSw; go_simp; first | done | with_reducible rfl
  try simp only [Act.put, List.setIfInBounds_toArray, List.set_cons_zero, List.set_cons_succ]
  refine wpAnyH_ready (rs := [13]) (by kernel_rfl) (by simp) ?_
  refine AllReadyH.cons (o := ⟨some 64, _, _, _, _, _⟩) rfl (fun K hK => ?_) AllReadyH.nil
  go_simp
  refine (call0 _ r9 _ rfl (bp r9 (by decide)) rfl e9).mono ?_
  rintro e u4 ⟨rfl, bx⟩
  have HU4 : Hid (Below wa.heap.size wa u4) := hHeld.trans (bx.mono hHeld.size)
  clear bx
  go_simp
  refine hK.out _ _ (HU4.out) (fun hHeld => ?_)
  clear hK K
  try simp only [Act.put, List.setIfInBounds_toArray, List.set_cons_zero, List.set_cons_succ]
  refine wpAnyH_take (i := 14) (oi := ⟨some 65, _, _, _, _, _⟩) (v := ?_) rfl (by kernel_rfl) (by kernel_rfl) (by kernel_rfl) (fun _ _ _ h => h) (Or.inl ⟨by rfl, ?_⟩) (by assumption) ?_
  rotate_left
  · intro w hSw; go_simp; first | done | with_reducible rfl
  try simp only [Act.put, List.setIfInBounds_toArray, List.set_cons_zero, List.set_cons_succ]
  refine wpAnyH_take (i := 15) (oi := ⟨some 66, _, _, _, _, _⟩) (v := ?_) rfl (by kernel_rfl) (by kernel_rfl) (by kernel_rfl) (fun _ _ _ h => h) (Or.inl ⟨by rfl, ?_⟩) (by assumption) ?_
  rotate_left
  · intro w hSw; go_simp; first | done | with_reducible rfl
  try simp only [Act.put, List.setIfInBounds_toArray, List.set_cons_zero, List.set_cons_succ]
  refine wpAnyH_take (i := 16) (oi := ⟨some 67, _, _, _, _, _⟩) (v := ?_) rfl (by kernel_rfl) (by kernel_rfl) (by kernel_rfl) (fun _ _ _ h => h) (Or.inl ⟨by rfl, ?_⟩) (by assumption) ?_
  rotate_left
  · intro w hSw; go_simp; first | done | with_reducible rfl
  try simp only [Act.put, List.setIfInBounds_toArray, List.set_cons_zero, List.set_cons_succ]
  refine wpAnyH_take (i := 17) (oi := ⟨some 68, _, _, _, _, _⟩) (v := ?_) rfl (by kernel_rfl) (by kernel_rfl) (by kernel_rfl) (fun _ _ _ h => h) (Or.inl ⟨by rfl, ?_⟩) (by assumption) ?_
  rotate_left
  · intro w hSw; go_simp; first | done | with_reducible rfl
  try simp only [Act.put, List.setIfInBounds_toArray, List.set_cons_zero, List.set_cons_succ]
  refine wpAnyH_take (i := 20) (oi := ⟨some 71, _, _, _, _, _⟩) (v := ?_) rfl (by kernel_rfl) (by kernel_rfl) (by kernel_rfl) (fun _ _ _ h => h) (Or.inl ⟨by rfl, ?_⟩) (by assumption) ?_
  rotate_left
  · intro w hSw; go_simp; first | done | with_reducible rfl
  try simp only [Act.put, List.setIfInBounds_toArray, List.set_cons_zero, List.set_cons_succ]
  refine wpAnyH_ready (rs := [18]) (by kernel_rfl) (by simp) ?_
  refine AllReadyH.cons (o := ⟨some 69, _, _, _, _, _⟩) rfl (fun K hK => ?_) AllReadyH.nil
  go_simp
  refine hK.out _ _ (hHeld.alloc hHeld.size _) (fun hHeld => ?_)
  clear hK K
  try simp only [Act.put, List.setIfInBounds_toArray, List.set_cons_zero, List.set_cons_succ]
  refine wpAnyH_take (i := 19) (oi := ⟨some 70, _, _, _, _, _⟩) (v := ?_) rfl (by kernel_rfl) (by kernel_rfl) (by kernel_rfl) (fun _ _ _ h => h) (Or.inl ⟨by rfl, ?_⟩) (by assumption) ?_
  rotate_left
  · intro w hSw; go_simp; first | done | with_reducible rfl
  try simp only [Act.put, List.setIfInBounds_toArray, List.set_cons_zero, List.set_cons_succ]
  refine wpAnyH_ready (rs := [21]) (by kernel_rfl) (by simp) ?_
  refine AllReadyH.cons (o := ⟨some 72, _, _, _, _, _⟩) rfl (fun K hK => ?_) AllReadyH.nil
  go_simp
  refine (callI0 u4 r10 [⟨i3, none, 0⟩] 1 _ _ _ rfl rfl rfl rfl (by simp) (fun q hq => by rw [List.mem_singleton.1 hq]; exact ⟨Rb.nil _ _, fun _ => rfl⟩) (bnd_withI (bp r10 (by decide)) (by simp) (fun q hq => by rw [List.mem_singleton.1 hq]; show okB i3 = true; decide) _ _) rfl e10).mono ?_
  rintro e u5 ⟨rfl, bx⟩
  have HU5 : Hid (Below wa.heap.size wa u5) := hHeld.trans (bx.mono hHeld.size)
  clear bx
  go_simp
  refine hK.out _ _ (HU5.out) (fun hHeld => ?_)
  clear hK K
  try simp only [Act.put, List.setIfInBounds_toArray, List.set_cons_zero, List.set_cons_succ]
  refine wpAnyH_take (i := 22) (oi := ⟨some 73, _, _, _, _, _⟩) (v := ?_) rfl (by kernel_rfl) (by kernel_rfl) (by kernel_rfl) (fun _ _ _ h => h) (Or.inl ⟨by rfl, ?_⟩) (by assumption) ?_
  rotate_left
  · intro w hSw; go_simp; first | done | with_reducible rfl
  try simp only [Act.put, List.setIfInBounds_toArray, List.set_cons_zero, List.set_cons_succ]
  refine wpAnyH_take (i := 23) (oi := ⟨some 74, _, _, _, _, _⟩) (v := ?_) rfl (by kernel_rfl) (by kernel_rfl) (by kernel_rfl) (fun _ _ _ h => h) (Or.inl ⟨by rfl, ?_⟩) (by assumption) ?_
  rotate_left
  · intro w hSw; go_simp; first | done | with_reducible rfl
  try simp only [Act.put, List.setIfInBounds_toArray, List.set_cons_zero, List.set_cons_succ]
  refine wpAnyH_done (by kernel_rfl) ?_ _
  refine NoPanic.normal ?_
  have HXb := Lib.hid (HB1.out.trans ((HXa.out.trans (HU5.out.mono HXa.out.size)).mono HB1.out.size))
  clear HXa HU5 k0 k1 CEa HT HYR HD HB1
  go_upto_region 12 with fail
  obtain ⟨a1, ha1⟩ : ∃ a, a = u5.alloc (.cells #[.int .u8 0] 5) := ⟨_, rfl⟩
  have l1 : Below u5.heap.size u5 a1 := by rw [ha1]; exact alloc_below _ _
  have s1 : a1.heap.size = u5.heap.size + 1 := by rw [ha1]; simp
  have q1 := rb_new u5 [0] #[.int .u8 0] u5.heap.size rfl rfl (by simp)
  rw [← ha1] at q1 ⊢
  obtain ⟨a2, ha2⟩ : ∃ a, a = a1.alloc (.cells #[.int .u8 0] 5) := ⟨_, rfl⟩
  have l2 : Below a1.heap.size a1 a2 := by rw [ha2]; exact alloc_below _ _
  have s2 : a2.heap.size = u5.heap.size + 1 + 1 := by rw [ha2]; simp [s1]
  have q2 := rb_new a1 [0] #[.int .u8 0] a1.heap.size rfl rfl (by simp)
  rw [← ha2] at q2 ⊢
  obtain ⟨a3, ha3⟩ : ∃ a, a = a2.alloc (.cells #[.int .u8 0, .int .u8 5, .int .u8 0] 5) := ⟨_, rfl⟩
  have l3 : Below a2.heap.size a2 a3 := by rw [ha3]; exact alloc_below _ _
  have s3 : a3.heap.size = u5.heap.size + 1 + 1 + 1 := by rw [ha3]; simp [s2]
  have q3 := rb_new a2 [0, 5, 0] #[.int .u8 0, .int .u8 5, .int .u8 0] a2.heap.size rfl rfl (by simp)
  rw [← ha3] at q3 ⊢
  obtain ⟨a4, ha4⟩ : ∃ a, a = a3.alloc (.cells #[.int .u8 0, .int .u8 3, .int .u8 1, .int .u8 5, .int .u8 0] 5) := ⟨_, rfl⟩
  have l4 : Below a3.heap.size a3 a4 := by rw [ha4]; exact alloc_below _ _
  have s4 : a4.heap.size = u5.heap.size + 1 + 1 + 1 + 1 := by rw [ha4]; simp [s3]
  have q4 := rb_new a3 [0, 3, 1, 5, 0] #[.int .u8 0, .int .u8 3, .int .u8 1, .int .u8 5, .int .u8 0] a3.heap.size rfl rfl (by simp)
  rw [← ha4] at q4 ⊢
  rw [s1] at q2; rw [s2] at q3; rw [s3] at q4
  have HBA4 : Hid (Below w.heap.size w a4) := by
    have h1 := HXb.out.trans (l1.mono HXb.out.size)
    have h2 := h1.trans (l2.mono h1.size)
    have h3 := h2.trans (l3.mono h2.size)
    exact h3.trans (l4.mono h3.size)
  generalize u5.heap.size = z at *
  obtain ⟨wF, hwF⟩ : ∃ q, q = a4.alloc (.cells #[.int .u8 4, .slice (some ⟨z, 0, none⟩) 1 1, .int .u8 68, .slice none 0 0, .int .u8 68, .slice (some ⟨z + 1, 0, none⟩) 1 1, .int .u8 71, .slice (some ⟨z + 1 + 1, 0, none⟩) 3 3, .int .u8 68, .slice (some ⟨z + 1 + 1 + 1, 0, none⟩) 5 5] 31) := ⟨_, rfl⟩
  have l5 : Below a4.heap.size a4 wF := by rw [hwF]; exact alloc_below _ _
  have HQ1 := Lib.hid ((((q1.below l2 (Nat.le_refl _)).below l3 (Nat.le_refl _)).below l4 (Nat.le_refl _)).below l5 (Nat.le_refl _))
  have HQ2 := Lib.hid (((q2.below l3 (Nat.le_refl _)).below l4 (Nat.le_refl _)).below l5 (Nat.le_refl _))
  have HQ3 := Lib.hid ((q3.below l4 (Nat.le_refl _)).below l5 (Nat.le_refl _))
  have HQ4 := Lib.hid (q4.below l5 (Nat.le_refl _))
  have HBF : Hid (Below w.heap.size w wF) := HBA4.out.trans (l5.mono HBA4.out.size)
  have hrow := heap_alloc_new a4 (.cells #[.int .u8 4, .slice (some ⟨z, 0, none⟩) 1 1, .int .u8 68, .slice none 0 0, .int .u8 68, .slice (some ⟨z + 1, 0, none⟩) 1 1, .int .u8 71, .slice (some ⟨z + 1 + 1, 0, none⟩) 3 3, .int .u8 68, .slice (some ⟨z + 1 + 1 + 1, 0, none⟩) 5 5] 31)
  rw [← hwF, s4] at hrow
  have hbl : z + 1 + 1 + 1 + 1 < wF.heap.size := (Array.getElem?_eq_some_iff.1 hrow).1
  rw [← hwF]
  generalize z + 1 + 1 + 1 + 1 = fb at *
  have F0 : Hid (∀ v, Below wF.heap.size wF v → v.cell? ⟨fb, 0, none⟩ = some (.int .u8 4)) := fun v h => by rw [h.cell (p := ⟨fb, 0, none⟩) hbl, cell_of_row _ _ _ _ _ (0, 0) hrow]; rfl
  have F1 : Hid (∀ v, Below wF.heap.size wF v → v.cell? ⟨fb, 1, none⟩ = some (.slice (some ⟨z, 0, none⟩) 1 1)) := fun v h => by rw [h.cell (p := ⟨fb, 1, none⟩) hbl, cell_of_row _ _ _ _ _ (0, 0) hrow]; rfl
  have F2 : Hid (∀ v, Below wF.heap.size wF v → v.cell? ⟨fb, 2, none⟩ = some (.int .u8 68)) := fun v h => by rw [h.cell (p := ⟨fb, 2, none⟩) hbl, cell_of_row _ _ _ _ _ (0, 0) hrow]; rfl
  have F3 : Hid (∀ v, Below wF.heap.size wF v → v.cell? ⟨fb, 3, none⟩ = some (.slice none 0 0)) := fun v h => by rw [h.cell (p := ⟨fb, 3, none⟩) hbl, cell_of_row _ _ _ _ _ (0, 0) hrow]; rfl
  have F4 : Hid (∀ v, Below wF.heap.size wF v → v.cell? ⟨fb, 4, none⟩ = some (.int .u8 68)) := fun v h => by rw [h.cell (p := ⟨fb, 4, none⟩) hbl, cell_of_row _ _ _ _ _ (0, 0) hrow]; rfl
  have F5 : Hid (∀ v, Below wF.heap.size wF v → v.cell? ⟨fb, 5, none⟩ = some (.slice (some ⟨z + 1, 0, none⟩) 1 1)) := fun v h => by rw [h.cell (p := ⟨fb, 5, none⟩) hbl, cell_of_row _ _ _ _ _ (0, 0) hrow]; rfl
  have F6 : Hid (∀ v, Below wF.heap.size wF v → v.cell? ⟨fb, 6, none⟩ = some (.int .u8 71)) := fun v h => by rw [h.cell (p := ⟨fb, 6, none⟩) hbl, cell_of_row _ _ _ _ _ (0, 0) hrow]; rfl
  have F7 : Hid (∀ v, Below wF.heap.size wF v → v.cell? ⟨fb, 7, none⟩ = some (.slice (some ⟨z + 1 + 1, 0, none⟩) 3 3)) := fun v h => by rw [h.cell (p := ⟨fb, 7, none⟩) hbl, cell_of_row _ _ _ _ _ (0, 0) hrow]; rfl
  have F8 : Hid (∀ v, Below wF.heap.size wF v → v.cell? ⟨fb, 8, none⟩ = some (.int .u8 68)) := fun v h => by rw [h.cell (p := ⟨fb, 8, none⟩) hbl, cell_of_row _ _ _ _ _ (0, 0) hrow]; rfl
  have F9 : Hid (∀ v, Below wF.heap.size wF v → v.cell? ⟨fb, 9, none⟩ = some (.slice (some ⟨z + 1 + 1 + 1, 0, none⟩) 5 5)) := fun v h => by rw [h.cell (p := ⟨fb, 9, none⟩) hbl, cell_of_row _ _ _ _ _ (0, 0) hrow]; rfl
  clear ha1 ha2 ha3 ha4 l1 l2 l3 l4 l5 q1 q2 q3 q4 s1 s2 s3 s4 hwF hrow
  go_wp2_with fail
  go_loopw [86] (fun i wr => ∃ (k : Nat), k ≤ 5 ∧ i = .int .i64 (k : Int) ∧ Below wF.heap.size wF wr) (fun i _ => 5 - (intOf i).toNat)
  case atStart => exact ⟨0, by omega, rfl, Below.refl _ _⟩
  case round =>
    obtain ⟨k, hk, rfl, hbw⟩ := hrel
    obtain ⟨wo, rfl⟩ : ∃ wo : World, wo = wr := ⟨_, rfl⟩
    have HBW := Lib.hid hbw
    clear hbw
    have hk6 : k = 0 ∨ k = 1 ∨ k = 2 ∨ k = 3 ∨ k = 4 ∨ k = 5 := by omega
    rcases hk6 with rfl | rfl | rfl | rfl | rfl | rfl
    · have f0 := F0.out wo HBW.out
      have f1 := F1.out wo HBW.out
      have hR := Lib.hid (HQ1.out.below HBW.out (Nat.le_refl _))
      obtain ⟨D, hD⟩ : ∃ D, D = wo.heap.size := ⟨_, rfl⟩
      obtain ⟨w4, hw4⟩ : ∃ w4, w4 = wo.alloc (.cells #[.int .u8 4, .slice (some ⟨z, 0, none⟩) 1 1] 31) := ⟨_, rfl⟩
      have b4 : Below wo.heap.size wo w4 := by rw [hw4]; exact alloc_below _ _
      have ce : Cel w4 D (.int .u8 4) (.slice (some ⟨z, 0, none⟩) 1 1) := by rw [hw4, hD]; exact Cel.new _ _ _ _
      have HR4 := Lib.hid (hR.out.below b4 (Nat.le_refl _))
      have HB4 := Lib.hid (HBW.out.trans (b4.mono HBW.out.size))
      obtain ⟨x0, x1, _, _⟩ := ce
      go_upto_region 14 with fail
      rw [← hw4, ← hD]
      clear hw4 hD b4 f0 f1 hR
      go_wp2_with fail
      refine (reads_at 4 _ [0] 1 1 4 w4 rfl rfl HR4.out (by simp) d1).mono ?_
      rintro e w5 ⟨rfl, b5⟩
      have HB5 := Lib.hid (HB4.out.trans (b5.mono HB4.out.size))
      clear b5 x0 x1
      go_wp2_with fail
      go_roundw
      case rel => exact ⟨1, by omega, by go_num, HB5.out⟩
      case measure => simp [intOf]
    · have f0 := F2.out wo HBW.out
      have f1 := F3.out wo HBW.out
      have hR := Lib.hid (Rb.nil wo none)
      obtain ⟨D, hD⟩ : ∃ D, D = wo.heap.size := ⟨_, rfl⟩
      obtain ⟨w4, hw4⟩ : ∃ w4, w4 = wo.alloc (.cells #[.int .u8 68, .slice none 0 0] 31) := ⟨_, rfl⟩
      have b4 : Below wo.heap.size wo w4 := by rw [hw4]; exact alloc_below _ _
      have ce : Cel w4 D (.int .u8 68) (.slice none 0 0) := by rw [hw4, hD]; exact Cel.new _ _ _ _
      have HR4 := Lib.hid (hR.out.below b4 (Nat.le_refl _))
      have HB4 := Lib.hid (HBW.out.trans (b4.mono HBW.out.size))
      obtain ⟨x0, x1, _, _⟩ := ce
      go_upto_region 14 with fail
      rw [← hw4, ← hD]
      clear hw4 hD b4 f0 f1 hR
      go_wp2_with fail
      refine (reads_at 68 _ [] 0 0 68 w4 rfl rfl HR4.out (by simp) d2).mono ?_
      rintro e w5 ⟨rfl, b5⟩
      have HB5 := Lib.hid (HB4.out.trans (b5.mono HB4.out.size))
      clear b5 x0 x1
      go_wp2_with fail
      go_roundw
      case rel => exact ⟨2, by omega, by go_num, HB5.out⟩
      case measure => simp [intOf]
    · have f0 := F4.out wo HBW.out
      have f1 := F5.out wo HBW.out
      have hR := Lib.hid (HQ2.out.below HBW.out (Nat.le_refl _))
      obtain ⟨D, hD⟩ : ∃ D, D = wo.heap.size := ⟨_, rfl⟩
      obtain ⟨w4, hw4⟩ : ∃ w4, w4 = wo.alloc (.cells #[.int .u8 68, .slice (some ⟨z + 1, 0, none⟩) 1 1] 31) := ⟨_, rfl⟩
      have b4 : Below wo.heap.size wo w4 := by rw [hw4]; exact alloc_below _ _
      have ce : Cel w4 D (.int .u8 68) (.slice (some ⟨z + 1, 0, none⟩) 1 1) := by rw [hw4, hD]; exact Cel.new _ _ _ _
      have HR4 := Lib.hid (hR.out.below b4 (Nat.le_refl _))
      have HB4 := Lib.hid (HBW.out.trans (b4.mono HBW.out.size))
      obtain ⟨x0, x1, _, _⟩ := ce
      go_upto_region 14 with fail
      rw [← hw4, ← hD]
      clear hw4 hD b4 f0 f1 hR
      go_wp2_with fail
      refine (reads_at 68 _ [0] 1 1 68 w4 rfl rfl HR4.out (by simp) d3).mono ?_
      rintro e w5 ⟨rfl, b5⟩
      have HB5 := Lib.hid (HB4.out.trans (b5.mono HB4.out.size))
      clear b5 x0 x1
      go_wp2_with fail
      go_roundw
      case rel => exact ⟨3, by omega, by go_num, HB5.out⟩
      case measure => simp [intOf]
    · have f0 := F6.out wo HBW.out
      have f1 := F7.out wo HBW.out
      have hR := Lib.hid (HQ3.out.below HBW.out (Nat.le_refl _))
      obtain ⟨D, hD⟩ : ∃ D, D = wo.heap.size := ⟨_, rfl⟩
      obtain ⟨w4, hw4⟩ : ∃ w4, w4 = wo.alloc (.cells #[.int .u8 71, .slice (some ⟨z + 1 + 1, 0, none⟩) 3 3] 31) := ⟨_, rfl⟩
      have b4 : Below wo.heap.size wo w4 := by rw [hw4]; exact alloc_below _ _
      have ce : Cel w4 D (.int .u8 71) (.slice (some ⟨z + 1 + 1, 0, none⟩) 3 3) := by rw [hw4, hD]; exact Cel.new _ _ _ _
      have HR4 := Lib.hid (hR.out.below b4 (Nat.le_refl _))
      have HB4 := Lib.hid (HBW.out.trans (b4.mono HBW.out.size))
      obtain ⟨x0, x1, _, _⟩ := ce
      go_upto_region 14 with fail
      rw [← hw4, ← hD]
      clear hw4 hD b4 f0 f1 hR
      go_wp2_with fail
      refine (reads_at 71 _ [0, 5, 0] 3 3 71 w4 rfl rfl HR4.out (by simp) d4).mono ?_
      rintro e w5 ⟨rfl, b5⟩
      have HB5 := Lib.hid (HB4.out.trans (b5.mono HB4.out.size))
      clear b5 x0 x1
      go_wp2_with fail
      go_roundw
      case rel => exact ⟨4, by omega, by go_num, HB5.out⟩
      case measure => simp [intOf]
    · have f0 := F8.out wo HBW.out
      have f1 := F9.out wo HBW.out
      have hR := Lib.hid (HQ4.out.below HBW.out (Nat.le_refl _))
      obtain ⟨D, hD⟩ : ∃ D, D = wo.heap.size := ⟨_, rfl⟩
      obtain ⟨w4, hw4⟩ : ∃ w4, w4 = wo.alloc (.cells #[.int .u8 68, .slice (some ⟨z + 1 + 1 + 1, 0, none⟩) 5 5] 31) := ⟨_, rfl⟩
      have b4 : Below wo.heap.size wo w4 := by rw [hw4]; exact alloc_below _ _
      have ce : Cel w4 D (.int .u8 68) (.slice (some ⟨z + 1 + 1 + 1, 0, none⟩) 5 5) := by rw [hw4, hD]; exact Cel.new _ _ _ _
      have HR4 := Lib.hid (hR.out.below b4 (Nat.le_refl _))
      have HB4 := Lib.hid (HBW.out.trans (b4.mono HBW.out.size))
      obtain ⟨x0, x1, _, _⟩ := ce
      go_upto_region 14 with fail
      rw [← hw4, ← hD]
      clear hw4 hD b4 f0 f1 hR
      go_wp2_with fail
      refine (reads_at 68 _ [0, 3, 1, 5, 0] 5 5 68 w4 rfl rfl HR4.out (by simp) d5).mono ?_
      rintro e w5 ⟨rfl, b5⟩
      have HB5 := Lib.hid (HB4.out.trans (b5.mono HB4.out.size))
      clear b5 x0 x1
      go_wp2_with fail
      go_roundw
      case rel => exact ⟨5, by omega, by go_num, HB5.out⟩
      case measure => simp [intOf]
    · have HBE := Lib.hid (HBF.out.trans (HBW.out.mono HBF.out.size))
      go_wp2_with fail
      go_ret
      exact ⟨rfl, HBE.out⟩
end Go.Proofs.YthlfahblnpijaaaDoor.Sl
