/- Proves that the law's check of the chapter's examples returns true. Condition: the table is laid. -/
import Derived.Test.YtefadkdngcbpiaaDoorQk
import Derived.Test.YtefadkdngcbpiaaDoorQo
import Derived.Lib.SlBytesConst
namespace Go.Proofs.YtefadkdngcbpiaaDoor.Ql
open Go.RowKit Vm Ap Vw Va Gc Mi Mb Qm Qs Qe Qc Qf Qg Fm Fw Qk Qo

theorem writes_at (x : Com) (fc : UInt8) (F : Option Addr) (fp : Bs) (n fk : Nat) (no xc : Int) (w : World) (hn : fp.length = n) (hxc : (fc.toNat : Int) = xc) (he : Env w) (hr : Rc w x) (hb : Bnd x.c) (hK : x.c.keys.length ≤ 40) (hT : x.c.tags.length ≤ 40) (hF : Rb w F fp) (h : wrB x.c fc fp no = true) :
    Calls Tryd.prog 19 #[comV x, .agg #[.int .u8 xc, .slice F n fk], .int .i64 no] w (boolOf true w) := by
  subst hn; subst hxc
  have := writes_any x fc F fp fk no w he hr hb hK hT hF
  rw [h] at this; exact this
theorem reads_at (fc : UInt8) (F : Option Addr) (fp : Bs) (n fk : Nat) (xc : Int) (w : World) (hn : fp.length = n) (hxc : (fc.toNat : Int) = xc) (he : Env w) (hF : Rb w F fp) (hp : fp.length ≤ 2000000) (h : (readR (fc.toNat : Int) fp).isNone = true) :
    Calls Tryd.prog 25 #[.agg #[.int .u8 xc, .slice F n fk], comV zeroC, .int .i64 6] w (boolOf true w) := by
  subst hn; subst hxc
  have := reads_any fc F fp fk zeroC 6 w he hF hp (got_zero 0 w).rc (got_zero 0 w).bnd
  have e : rdB (fc.toNat : Int) fp zeroC.c 6 = true := by
    unfold rdB
    rw [Option.isNone_iff_eq_none.1 h]
    rfl
  rw [e] at this; exact this
/-- A command without lists. -/
def plain (c : Cmd) : Com := { c := c, KA := none, kc := 0, VA := none, vc := 0, TA := none, tc := 0 }
theorem rc_plain (w : World) (c : Cmd) (h1 : c.keys = []) (h2 : c.value = []) (h3 : c.tags = []) : Rc w (plain c) :=
  ⟨by show Rd w none c.keys; rw [h1]; exact Rd.nil _ _, fun _ => rfl, by show Rb w none c.value; rw [h2]; exact Rb.nil _ _, fun _ => rfl, by show Rd w none c.tags; rw [h3]; exact Rd.nil _ _, fun _ => rfl⟩
def c1 : Cmd := ⟨4, [97], [], [], [], 0, 0, [], [], []⟩
def c2 : Cmd := ⟨1, [97], [], [120, 121], [[116]], 300, 0, [], [], []⟩
def c3 : Cmd := ⟨3, [107], [], [], [], 18446744073709551615, 5, [], [], []⟩
def c4 : Cmd := ⟨5, [], [[97], [98, 99]], [], [], 0, 0, [], [], []⟩
def c5 : Cmd := ⟨14, [], [], [], [], 0, 0, [], [], []⟩
def c6 : Cmd := ⟨4, [], [], [], [], 0, 0, [], [], []⟩
def c7 : Cmd := ⟨1, [97], [], [], [], 0, 0, [], [], []⟩
def c8 : Cmd := ⟨4, [97], [], [], [], 0, 0, [116], [], []⟩
theorem b1 : Bnd c1 := ⟨by decide, by decide, by decide, by decide, by decide, by decide, by decide, by decide, by decide, by simp [c1], by simp [c1], by decide, by decide⟩
theorem b2 : Bnd c2 := ⟨by decide, by decide, by decide, by decide, by decide, by decide, by decide, by decide, by decide, by simp [c2], by simp [c2], by decide, by decide⟩
theorem b3 : Bnd c3 := ⟨by decide, by decide, by decide, by decide, by decide, by decide, by decide, by decide, by decide, by simp [c3], by simp [c3], by decide, by decide⟩
theorem b4 : Bnd c4 := ⟨by decide, by decide, by decide, by decide, by decide, by decide, by decide, by decide, by decide, by simp [c4], by simp [c4], by decide, by decide⟩
theorem b5 : Bnd c5 := ⟨by decide, by decide, by decide, by decide, by decide, by decide, by decide, by decide, by decide, by simp [c5], by simp [c5], by decide, by decide⟩
theorem b6 : Bnd c6 := ⟨by decide, by decide, by decide, by decide, by decide, by decide, by decide, by decide, by decide, by simp [c6], by simp [c6], by decide, by decide⟩
theorem b7 : Bnd c7 := ⟨by decide, by decide, by decide, by decide, by decide, by decide, by decide, by decide, by decide, by simp [c7], by simp [c7], by decide, by decide⟩
theorem b8 : Bnd c8 := ⟨by decide, by decide, by decide, by decide, by decide, by decide, by decide, by decide, by decide, by simp [c8], by simp [c8], by decide, by decide⟩
theorem wr_yes {c : Cmd} {fc : UInt8} {fp : Bs} (hv : validG c = true) (hc : c.op = (fc.toNat : Int)) (hp : payR c = fp) : wrB c fc fp 0 = true :=
  wrB_true (by unfold wrC; rw [if_pos hv, hc]) (by unfold wrP; rw [if_pos hv, hp]) (by unfold wrE; rw [if_pos hv])
theorem wr_no {c : Cmd} (hv : validG c = false) : wrB c 0 [] 2 = true :=
  wrB_true (by unfold wrC; simp [hv]) (by unfold wrP; simp [hv]) (by unfold wrE; simp [hv])
theorem e1 : wrB c1 4 [1, 97] 0 = true := wr_yes (by decide +kernel) (by decide) (by simp [payR, needs, inOp, kx, c1, needsN, bytesR, encS, encN])
theorem e2 : wrB c2 1 [1, 97, 2, 120, 121, 1, 1, 116, 172, 2] 0 = true := wr_yes (by decide +kernel) (by decide) (by simp [payR, needs, inOp, kx, c2, needsN, bytesR, encS, encL, encN])
theorem e3 : wrB c3 3 [1, 107, 0, 0, 255, 255, 255, 255, 255, 255, 255, 255, 255, 1, 5] 0 = true := wr_yes (by decide +kernel) (by decide) (by simp [payR, needs, inOp, kx, c3, needsN, bytesR, encS, encL, encN])
theorem e4 : wrB c4 5 [2, 1, 97, 2, 98, 99] 0 = true := wr_yes (by decide +kernel) (by decide) (by simp [payR, needs, inOp, kx, c4, needsN, bytesR, encS, encL, encN])
theorem e5 : wrB c5 14 [] 0 = true := wr_yes (by decide +kernel) (by decide) (by simp [payR, needs, inOp, kx, c5, needsN])
theorem e6 : wrB c6 0 [] 2 = true := wr_no (by decide +kernel)
theorem e7 : wrB c7 0 [] 2 = true := wr_no (by decide +kernel)
theorem e8 : wrB c8 0 [] 2 = true := wr_no (by decide +kernel)
theorem r1 : (readR 4 [1, 97, 0]).isNone = true := by decide +kernel
theorem r2 : (readR 0 []).isNone = true := by decide +kernel
theorem r3 : (readR 6 [1, 97, 0]).isNone = true := by decide +kernel
theorem r4 : (readR 5 [0]).isNone = true := by decide +kernel
theorem rb_new (w : World) (l : Bs) (cs : Array Value) (b : Nat) (hb : w.heap.size = b) (hcs : (l.map byteV).toArray = cs) (hl : l.length ≤ 1000) : Rb (w.alloc (.cells cs 5)) (some ⟨b, 0, none⟩) l := by
  subst hb; subst hcs; exact Rb.lit w l (by omega)
/-- The call with all parts of a set. -/
theorem call2 (w : World) (p q r : Nat) (h1 : w.heap.size = p) (h2 : w.heap.size + 1 = q) (h3 : w.heap.size + 1 + 1 = r) (he : Env w) :
    Calls Tryd.prog 19 #[.agg #[.int .i64 1, .string ⟨#[97]⟩, .slice none 0 0, .slice (some ⟨p, 0, none⟩) 2 2, .slice (some ⟨q, 0, none⟩) 1 1, .int .u64 300, .int .u64 0, .string ⟨#[]⟩, .string ⟨#[]⟩, .string ⟨#[]⟩], .agg #[.int .u8 1, .slice (some ⟨r, 0, none⟩) 10 10], .int .i64 0]
      (((w.alloc (.cells #[.int .u8 120, .int .u8 121] 5 (2, 3))).alloc (.cells #[.string ⟨#[116]⟩] 9)).alloc (.cells #[.int .u8 1, .int .u8 97, .int .u8 2, .int .u8 120, .int .u8 121, .int .u8 1, .int .u8 1, .int .u8 116, .int .u8 172, .int .u8 2] 5))
      (boolOf true (((w.alloc (.cells #[.int .u8 120, .int .u8 121] 5 (2, 3))).alloc (.cells #[.string ⟨#[116]⟩] 9)).alloc (.cells #[.int .u8 1, .int .u8 97, .int .u8 2, .int .u8 120, .int .u8 121, .int .u8 1, .int .u8 1, .int .u8 116, .int .u8 172, .int .u8 2] 5))) := by
  subst h1; subst h2; subst h3
  have m1 : Rb (w.alloc (.cells #[.int .u8 120, .int .u8 121] 5 (2, 3))) (some ⟨w.heap.size, 0, none⟩) [120, 121] := Rb.marked w [120, 121] (2, 3)
  obtain ⟨u, hu⟩ : ∃ u, u = w.alloc (.cells #[.int .u8 120, .int .u8 121] 5 (2, 3)) := ⟨_, rfl⟩
  have s1 : u.heap.size = w.heap.size + 1 := by rw [hu]; simp
  have ee : Env u := by rw [hu]; exact he.below (alloc_below _ _) (Nat.le_refl _)
  rw [← hu] at m1 ⊢
  clear hu he
  have m2 : Rd (u.alloc (.cells #[.string ⟨#[116]⟩] 9)) (some ⟨u.heap.size, 0, none⟩) [[116]] := Rd.lit u [[116]]
  have m1' := m1.below (alloc_below u (.cells #[.string ⟨#[116]⟩] 9)) (Nat.le_refl _)
  obtain ⟨v, hv⟩ : ∃ v, v = u.alloc (.cells #[.string ⟨#[116]⟩] 9) := ⟨_, rfl⟩
  have s2 : v.heap.size = w.heap.size + 1 + 1 := by rw [hv]; simp [s1]
  have e2' : Env v := by rw [hv]; exact ee.below (alloc_below _ _) (Nat.le_refl _)
  rw [← hv] at m2 m1' ⊢
  clear hv ee
  have m3 := rb_new v [1, 97, 2, 120, 121, 1, 1, 116, 172, 2] #[.int .u8 1, .int .u8 97, .int .u8 2, .int .u8 120, .int .u8 121, .int .u8 1, .int .u8 1, .int .u8 116, .int .u8 172, .int .u8 2] v.heap.size rfl rfl (by simp)
  have hb := alloc_below v (.cells #[.int .u8 1, .int .u8 97, .int .u8 2, .int .u8 120, .int .u8 121, .int .u8 1, .int .u8 1, .int .u8 116, .int .u8 172, .int .u8 2] 5)
  rw [s1] at m2
  rw [s2] at m3
  exact writes_at ⟨c2, none, 0, some ⟨w.heap.size, 0, none⟩, 2, some ⟨w.heap.size + 1, 0, none⟩, 1⟩ 1 _ [1, 97, 2, 120, 121, 1, 1, 116, 172, 2] 10 10 0 1 _ rfl rfl (e2'.below hb (Nat.le_refl _))
    ⟨Rd.nil _ _, fun _ => rfl, m1'.below hb (Nat.le_refl _), (fun e => by cases e), m2.below hb (Nat.le_refl _), (fun e => by cases e)⟩ b2 (by show c2.keys.length ≤ 40; decide) (by show c2.tags.length ≤ 40; decide) m3 e2
theorem call4 (w : World) (p q : Nat) (h1 : w.heap.size = p) (h2 : w.heap.size + 1 = q) (he : Env w) :
    Calls Tryd.prog 19 #[.agg #[.int .i64 5, .string ⟨#[]⟩, .slice (some ⟨p, 0, none⟩) 2 2, .slice none 0 0, .slice none 0 0, .int .u64 0, .int .u64 0, .string ⟨#[]⟩, .string ⟨#[]⟩, .string ⟨#[]⟩], .agg #[.int .u8 5, .slice (some ⟨q, 0, none⟩) 6 6], .int .i64 0]
      ((w.alloc (.cells #[.string ⟨#[97]⟩, .string ⟨#[98, 99]⟩] 9)).alloc (.cells #[.int .u8 2, .int .u8 1, .int .u8 97, .int .u8 2, .int .u8 98, .int .u8 99] 5))
      (boolOf true ((w.alloc (.cells #[.string ⟨#[97]⟩, .string ⟨#[98, 99]⟩] 9)).alloc (.cells #[.int .u8 2, .int .u8 1, .int .u8 97, .int .u8 2, .int .u8 98, .int .u8 99] 5))) := by
  subst h1; subst h2
  have m2 : Rd (w.alloc (.cells #[.string ⟨#[97]⟩, .string ⟨#[98, 99]⟩] 9)) (some ⟨w.heap.size, 0, none⟩) [[97], [98, 99]] := Rd.lit w [[97], [98, 99]]
  obtain ⟨v, hv⟩ : ∃ v, v = w.alloc (.cells #[.string ⟨#[97]⟩, .string ⟨#[98, 99]⟩] 9) := ⟨_, rfl⟩
  have s2 : v.heap.size = w.heap.size + 1 := by rw [hv]; simp
  have e2' : Env v := by rw [hv]; exact he.below (alloc_below _ _) (Nat.le_refl _)
  rw [← hv] at m2 ⊢
  clear hv
  have m3 := rb_new v [2, 1, 97, 2, 98, 99] #[.int .u8 2, .int .u8 1, .int .u8 97, .int .u8 2, .int .u8 98, .int .u8 99] v.heap.size rfl rfl (by simp)
  have hb := alloc_below v (.cells #[.int .u8 2, .int .u8 1, .int .u8 97, .int .u8 2, .int .u8 98, .int .u8 99] 5)
  rw [s2] at m3
  exact writes_at ⟨c4, some ⟨w.heap.size, 0, none⟩, 2, none, 0, none, 0⟩ 5 _ [2, 1, 97, 2, 98, 99] 6 6 0 5 _ rfl rfl (e2'.below hb (Nat.le_refl _))
    ⟨m2.below hb (Nat.le_refl _), (fun e => by cases e), Rb.nil _ _, fun _ => rfl, Rd.nil _ _, fun _ => rfl⟩ b4 (by show c4.keys.length ≤ 40; decide) (by show c4.tags.length ≤ 40; decide) m3 e4
theorem call1 (w : World) (c : Cmd) (xv : Value) (fc : UInt8) (xc : Int) (fp : Bs) (n : Nat) (cs : Array Value) (p : Nat) (h1 : w.heap.size = p) (hx : comV (plain c) = xv) (hxc : (fc.toNat : Int) = xc) (hn : fp.length = n) (hcs : (fp.map byteV).toArray = cs) (hl : fp.length ≤ 1000) (he : Env w) (hk : c.keys = []) (hv : c.value = []) (ht : c.tags = []) (hb : Bnd c) (h : wrB c fc fp 0 = true) :
    Calls Tryd.prog 19 #[xv, .agg #[.int .u8 xc, .slice (some ⟨p, 0, none⟩) n n], .int .i64 0] (w.alloc (.cells cs 5)) (boolOf true (w.alloc (.cells cs 5))) := by
  subst hx
  exact writes_at (plain c) fc _ fp n n 0 xc _ hn hxc (he.below (alloc_below _ _) (Nat.le_refl _)) (rc_plain _ c hk hv ht) hb (by show c.keys.length ≤ 40; rw [hk]; simp) (by show c.tags.length ≤ 40; rw [ht]; simp) (rb_new w fp cs p h1 hcs hl) h
theorem call0 (w : World) (c : Cmd) (xv : Value) (fc : UInt8) (xc no : Int) (hx : comV (plain c) = xv) (hxc : (fc.toNat : Int) = xc) (he : Env w) (hk : c.keys = []) (hv : c.value = []) (ht : c.tags = []) (hb : Bnd c) (h : wrB c fc [] no = true) :
    Calls Tryd.prog 19 #[xv, .agg #[.int .u8 xc, .slice none 0 0], .int .i64 no] w (boolOf true w) := by
  subst hx
  exact writes_at (plain c) fc none [] 0 0 no xc _ rfl hxc he (rc_plain _ c hk hv ht) hb (by show c.keys.length ≤ 40; rw [hk]; simp) (by show c.tags.length ≤ 40; rw [ht]; simp) (Rb.nil _ _) h
abbrev zeroV : Value := .agg #[.int .i64 0, .string ⟨#[]⟩, .slice none 0 0, .slice none 0 0, .slice none 0 0, .int .u64 0, .int .u64 0, .string ⟨#[]⟩, .string ⟨#[]⟩, .string ⟨#[]⟩]
theorem rcall (w : World) (fc : UInt8) (xc : Int) (fp : Bs) (n : Nat) (cs : Array Value) (p : Nat) (h1 : w.heap.size = p) (hxc : (fc.toNat : Int) = xc) (hn : fp.length = n) (hcs : (fp.map byteV).toArray = cs) (hl : fp.length ≤ 1000) (he : Env w) (h : (readR (fc.toNat : Int) fp).isNone = true) :
    Calls Tryd.prog 25 #[.agg #[.int .u8 xc, .slice (some ⟨p, 0, none⟩) n n], zeroV, .int .i64 6] (w.alloc (.cells cs 5)) (boolOf true (w.alloc (.cells cs 5))) :=
  reads_at fc _ fp n n xc _ hn hxc (he.below (alloc_below _ _) (Nat.le_refl _)) (rb_new w fp cs p h1 hcs hl) (by omega) h
theorem word_at (op : Int) (v : Value) (w : World) (he : Env w) (h : wordR op = v) : Calls Tryd.prog 16 #[.int .i64 op] w fun e w' => e = .returned v ∧ w = w' := by rw [← h]; exact word_any op w he
theorem op_at (l : Bs) (n e0 : Int) (w : World) (he : Env w) (h : opN l = n) (h' : opE l = e0) : Calls Tryd.prog 18 #[.string ⟨l.toArray⟩] w fun e w' => e = .returned (.tuple #[.int .i64 n, .int .i64 e0]) ∧ Below w.heap.size w w' := by subst h; subst h'; exact op_any l w he

set_option maxRecDepth 100000 in
set_option maxHeartbeats 8000000 in
theorem known_any (w : World) (he : Env w) : Calls Tryd.prog 10 #[] w (boolOf true w) := by
  have HB0 : Hid (Below w.heap.size w w) := Below.refl _ _
  have HE := Lib.hid (fun W (h : Below w.heap.size w W) => he.below h (Nat.le_refl _))
  have kc := fun (w : World) (C : Array Value) (n c : Nat) => Lib.run_convert_bytes_const (P := Tryd.prog) w 24 5 C n c Tryd.underlying24 Tryd.underlying5
  clear he
  go_enter Tryd.func10, Tryd.ntmps10
  go_wp2_with fail
  refine (call1 w c1 _ 4 4 [1, 97] 2 _ _ rfl rfl rfl rfl rfl (by simp) (HE.out _ HB0.out) rfl rfl rfl b1 e1).mono ?_
  rintro e w1 ⟨rfl, b⟩
  have HB1 := Lib.hid (step1 HB0.out b)
  clear b HB0
  go_wp2_with fail
  refine (call2 w1 _ _ _ rfl rfl rfl (HE.out _ HB1.out)).mono ?_
  rintro e w2 ⟨rfl, b⟩
  have HB2 : Hid (Below w.heap.size w w2) := (((HB1.out.alloc HB1.out.size _).alloc (by have := HB1.out.size; simp; omega) _).alloc (by have := HB1.out.size; simp; omega) _).trans (b.mono (by have := HB1.out.size; simp; omega))
  clear b HB1
  go_wp2_with fail
  refine (call1 w2 c3 _ 3 3 [1, 107, 0, 0, 255, 255, 255, 255, 255, 255, 255, 255, 255, 1, 5] 15 _ _ rfl rfl rfl rfl rfl (by simp) (HE.out _ HB2.out) rfl rfl rfl b3 e3).mono ?_
  rintro e w3 ⟨rfl, b⟩
  have HB3 := Lib.hid (step1 HB2.out b)
  clear b HB2
  go_wp2_with fail
  refine (call4 w3 _ _ rfl rfl (HE.out _ HB3.out)).mono ?_
  rintro e w4 ⟨rfl, b⟩
  have HB4 := Lib.hid (step2 HB3.out b)
  clear b HB3
  go_wp2_with fail
  refine (call0 w4 c5 _ 14 14 0 rfl rfl (HE.out _ HB4.out) rfl rfl rfl b5 e5).mono ?_
  rintro e w5 ⟨rfl, b⟩
  have HB5 := Lib.hid (step0 HB4.out b)
  clear b HB4
  clear kc
  go_upto_region 6 with fail
  obtain ⟨w6, hw6⟩ : ∃ w6, w6 = w5.alloc (.cells #[.int .u8 0, .slice none 0 0] 42) := ⟨_, rfl⟩
  have HB6 : Hid (Below w.heap.size w w6) := by show Below _ _ _; rw [hw6]; exact HB5.out.alloc HB5.out.size _
  have CE6 : Hid (Cel w6 w5.heap.size (.int .u8 0) (.slice none 0 0)) := by show Cel _ _ _ _; rw [hw6]; exact Cel.new _ _ _ _
  rw [← hw6]
  clear hw6
  generalize w5.heap.size = g at *
  obtain ⟨x0, x1, f0, f1⟩ := CE6.out
  go_wp2_with fail
  refine (call0 w6 c6 _ 0 0 2 rfl rfl (HE.out _ HB6.out) rfl rfl rfl b6 e6).mono ?_
  rintro e w7 ⟨rfl, b⟩
  have HB7 := Lib.hid (step0 HB6.out b)
  have CE7 := Lib.hid (CE6.out.below b (Nat.le_refl _))
  clear b HB6 CE6 HB5 x0 x1 f0 f1
  obtain ⟨x0, x1, f0, f1⟩ := CE7.out
  go_wp2_with fail
  refine (call0 w7 c7 _ 0 0 2 rfl rfl (HE.out _ HB7.out) rfl rfl rfl b7 e7).mono ?_
  rintro e w8 ⟨rfl, b⟩
  have HB8 := Lib.hid (step0 HB7.out b)
  have CE8 := Lib.hid (CE7.out.below b (Nat.le_refl _))
  clear b HB7 CE7 x0 x1 f0 f1
  obtain ⟨x0, x1, f0, f1⟩ := CE8.out
  go_wp2_with fail
  refine (call0 w8 c8 _ 0 0 2 rfl rfl (HE.out _ HB8.out) rfl rfl rfl b8 e8).mono ?_
  rintro e w9 ⟨rfl, b⟩
  have HB9 := Lib.hid (step0 HB8.out b)
  have CE9 := Lib.hid (CE8.out.below b (Nat.le_refl _))
  clear b HB8 CE8 x0 x1 f0 f1
  go_wp2_with fail
  refine (rcall w9 4 4 [1, 97, 0] 3 _ _ rfl rfl rfl rfl (by simp) (HE.out _ HB9.out) r1).mono ?_
  rintro e w10 ⟨rfl, b⟩
  have HB10 := Lib.hid (step1 HB9.out b)
  have CE10 := Lib.hid (CE9.out.below ((alloc_below _ _).trans (b.mono (alloc_below _ _).size)) (Nat.le_refl _))
  clear b HB9 CE9
  obtain ⟨x0, x1, f0, f1⟩ := CE10.out
  go_wp2_with fail
  refine (reads_at 0 none [] 0 0 0 w10 rfl rfl (HE.out _ HB10.out) (Rb.nil _ _) (by simp) r2).mono ?_
  rintro e w11 ⟨rfl, b⟩
  have HB11 := Lib.hid (step0 HB10.out b)
  clear b HB10 CE10 x0 x1 f0 f1
  go_wp2_with fail
  refine (rcall w11 6 6 [1, 97, 0] 3 _ _ rfl rfl rfl rfl (by simp) (HE.out _ HB11.out) r3).mono ?_
  rintro e w12 ⟨rfl, b⟩
  have HB12 := Lib.hid (step1 HB11.out b)
  clear b HB11
  go_wp2_with fail
  refine (rcall w12 5 5 [0] 1 _ _ rfl rfl rfl rfl (by simp) (HE.out _ HB12.out) r4).mono ?_
  rintro e w13 ⟨rfl, b⟩
  have HB13 := Lib.hid (step1 HB12.out b)
  clear b HB12
  go_wp2_with fail
  refine (word_at 9 (.tuple #[.string ⟨#[115, 111, 102, 116]⟩, .int .i64 0]) _ (HE.out _ HB13.out) rfl).mono ?_
  rintro e wx ⟨rfl, rfl⟩
  go_wp2_with fail
  refine (word_at 0 (.tuple #[.string ⟨#[]⟩, .int .i64 2]) _ (HE.out _ HB13.out) rfl).mono ?_
  rintro e wx ⟨rfl, rfl⟩
  go_wp2_with fail
  refine (op_at [109, 103, 101, 116] 5 0 _ (HE.out _ HB13.out) (by decide +kernel) (by decide +kernel)).mono ?_
  rintro e w14 ⟨rfl, b⟩
  have HB14 := Lib.hid (step0 HB13.out b)
  clear b HB13
  go_wp2_with fail
  refine (op_at [71, 101, 116] 0 6 _ (HE.out _ HB14.out) (by decide +kernel) (by decide +kernel)).mono ?_
  rintro e w15 ⟨rfl, b⟩
  have HB15 := Lib.hid (step0 HB14.out b)
  clear b HB14
  go_wp2_with fail
  go_ret
  exact ⟨rfl, HB15.out⟩
end Go.Proofs.YtefadkdngcbpiaaDoor.Ql
