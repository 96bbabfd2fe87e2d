/- Proves what the law's writes and reads return: whether Write, Read return what is expected. Conditions: few bytes. -/
import Derived.Test.YthlfahblnpijaaaDoorSxz
import Derived.Test.YthlfahblnpijaaaDoorSyz
import Derived.Test.YthlfahblnpijaaaDoorSw
namespace Go.Proofs.YthlfahblnpijaaaDoor.Sk
open Go.RowKit Vm Ap Vw Va Gc Mi Mb Qm Sm Se So Sn Sp Sx Fm Fw

theorem wrC_bd (r : Rsp) : 0 ≤ wrC r ∧ wrC r ≤ 79 := by
  unfold wrC
  split
  · rename_i h
    obtain ⟨⟨o1, o2⟩, _⟩ := valid_has h
    omega
  · omega
def codeU (n : Int) : UInt8 := UInt8.ofNat n.toNat
theorem codeU_int {n : Int} (h : 0 ≤ n ∧ n ≤ 79) : ((codeU n).toNat : Int) = n := by
  unfold codeU; rw [of_nat (by omega)]; omega
def wrB (r : Rsp) (fc : UInt8) (fp : Bs) (no : Int) : Bool := eqv (codeU (wrC r)) fc (wrP r) fp && decide (wrE r = no)
theorem wrB_true {r : Rsp} {fc : UInt8} {fp : Bs} {no : Int} (h1 : wrC r = (fc.toNat : Int)) (h2 : wrP r = fp) (h3 : wrE r = no) : wrB r fc fp no = true := by
  have e : codeU (wrC r) = fc := by rw [h1]; unfold codeU; simp
  unfold wrB; rw [e, h2, h3, eqv_self]; simp
set_option maxRecDepth 100000 in
set_option maxHeartbeats 2000000 in
theorem writes_any (x : Res) (fc : UInt8) (F : Option Addr) (fp : Bs) (fk : Nat) (no : Int) (w : World) (hr : RRc w x) (hb : BndS x) (hF : Rb w F fp) :
    Calls Tryd.prog 10 #[resV x, .agg #[.int .u8 (fc.toNat : Int), .slice F fp.length fk], .int .i64 no] w (boolOf (wrB x.r fc fp no) w) := by
  unfold resV
  obtain ⟨w0, hw0⟩ : ∃ w0, w0 = (w.alloc (resO x)).alloc (.cells #[.int .u8 (fc.toNat : Int), .slice F fp.length fk] 31) := ⟨_, rfl⟩
  have B0 : Below w.heap.size w w0 := by rw [hw0]; exact two_below _ _ _
  have bx : BoxS w0 w.heap.size x := by rw [hw0]; exact (BoxS.new w x).below (alloc_below _ _) (Nat.le_refl _)
  have ce : Cel w0 (w.heap.size + 1) (.int .u8 (fc.toNat : Int)) (.slice F fp.length fk) := by
    have h := Cel.new (w.alloc (resO x)) (.int .u8 (fc.toNat : Int)) (.slice F fp.length fk) 31
    have e : (w.alloc (resO x)).heap.size = w.heap.size + 1 := by simp
    rw [e] at h
    rw [hw0]; exact h
  have HB0 := Lib.hid B0
  have HW := Lib.hid (write_any x w0 (hr.below B0 (Nat.le_refl _)) hb)
  unfold resV at HW
  have HF0 := Lib.hid (hF.below B0 (Nat.le_refl _))
  have CE := Lib.hid ce
  have HC := Lib.hid (codeU_int (wrC_bd x.r))
  obtain ⟨c0, c1, c2, c3, c4, c5, _⟩ := bx
  unfold resO at hw0
  clear B0 hr hb hF ce
  have HV : Hid (wrB x.r fc fp no = (eqv (codeU (wrC x.r)) fc (wrP x.r) fp && decide (wrE x.r = no))) := rfl
  rw [← HC.out] at HW
  generalize wrE x.r = E at *
  generalize wrP x.r = l at *
  generalize codeU (wrC x.r) = cu at *
  obtain ⟨q, hq⟩ : ∃ q, q = eqv cu fc l fp := ⟨_, rfl⟩
  rw [← hq] at HV
  have HQ := Lib.hid hq
  clear hq
  by_cases hE : E = no
  all_goals
    have hEb : ((E : Int) == no) = decide (E = no) := by rw [Bool.eq_iff_iff]; simp
    generalize decide (E = no) = eb at *
    clear hE
    cases q
    all_goals
      go_enter Tryd.func10, Tryd.ntmps10
      go_wp2_with fail
      rw [← hw0]
      clear hw0
      refine HW.out.mono ?_
      rintro e w1 ⟨X, d, rfl, hf, b1⟩
      obtain ⟨x0, x1, f0, f1⟩ := CE.out.below b1 (Nat.le_refl _)
      have hlt := (CE.out.below b1 (Nat.le_refl _)).lt
      have HX := Lib.hid hf.rd
      have HF1 := Lib.hid (HF0.out.below b1 (Nat.le_refl _))
      have HBW : Hid (Below w.heap.size w w1) := HB0.out.trans (b1.mono HB0.out.size)
      clear hf b1
      go_wp2_with fail
      refine (Fw.requal_any cu fc X F l fp d fk _ (HX.out.below (alloc_below _ _) (Nat.le_refl _)) (HF1.out.below (alloc_below _ _) (Nat.le_refl _))).mono ?_
      rintro e w2 ⟨rfl, b2⟩
      rw [← HQ.out]
      have HB2 : Hid (Below w.heap.size w w2) := (HBW.out.alloc HBW.out.size _).trans (b2.mono (HBW.out.alloc HBW.out.size _).size)
      clear b2
      go_wp2_with fail
      go_ret
      exact ⟨ret_b (by rw [HV.out]; simp), HB2.out⟩
/-- What reads returns. -/
def rdBR (R : Option Rsp) (r : Rsp) (no : Int) : Bool := match R with
  | some y => eqR y r && decide (0 = no)
  | none => eqR (bareR 0 0) r && decide (6 = no)
def rdB (c : Nat) (p : Bs) (r : Rsp) (no : Int) : Bool := rdBR (readF c p) r no
set_option maxRecDepth 100000 in
set_option maxHeartbeats 4000000 in
theorem reads_any (fc : UInt8) (F : Option Addr) (fp : Bs) (fk : Nat) (x : Res) (no : Int) (w : World) (hF : Rb w F fp) (hp : fp.length ≤ 2000000) (hr : RRc w x) (hb : BndS x) :
    Calls Tryd.prog 8 #[.agg #[.int .u8 (fc.toNat : Int), .slice F fp.length fk], resV x, .int .i64 no] w (boolOf (rdB fc.toNat fp x.r no) w) := by
  unfold resV
  obtain ⟨w0, hw0⟩ : ∃ w0, w0 = (w.alloc (.cells #[.int .u8 (fc.toNat : Int), .slice F fp.length fk] 31)).alloc (resO x) := ⟨_, rfl⟩
  have B0 : Below w.heap.size w w0 := by rw [hw0]; exact two_below _ _ _
  have bx : BoxS w0 (w.heap.size + 1) x := by
    have h := BoxS.new (w.alloc (.cells #[.int .u8 (fc.toNat : Int), .slice F fp.length fk] 31)) x
    have e : (w.alloc (.cells #[.int .u8 (fc.toNat : Int), .slice F fp.length fk] 31)).heap.size = w.heap.size + 1 := by simp
    rw [e] at h
    rw [hw0]; exact h
  have ce : Cel w0 w.heap.size (.int .u8 (fc.toNat : Int)) (.slice F fp.length fk) := by rw [hw0]; exact (Cel.new w _ _ _).below (alloc_below _ _) (Nat.le_refl _)
  have HB0 := Lib.hid B0
  have HW := Lib.hid (Sy.read_any fc F fp fk w0 (hF.below B0 (Nat.le_refl _)) hp)
  have BX := Lib.hid bx
  have HR0 := Lib.hid (hr.below B0 (Nat.le_refl _))
  have HBD := Lib.hid hb
  obtain ⟨x0, x1, f0, f1⟩ := ce
  unfold resO at hw0
  clear B0 hr hb hF bx
  obtain ⟨R, hR⟩ : ∃ R, R = readF fc.toNat fp := ⟨_, rfl⟩
  have HV : Hid (rdB fc.toNat fp x.r no = rdBR R x.r no) := by show _ = _; rw [hR]; rfl
  rw [← hR] at HW
  clear hR
  unfold Sy.rdPost at HW
  obtain ⟨E, hE⟩ : ∃ E : Int, E = if R.isSome then 0 else 6 := ⟨_, rfl⟩
  rw [← hE] at HW
  have HE := Lib.hid hE
  clear hE
  have hEb : ((E : Int) == no) = decide (E = no) := by rw [Bool.eq_iff_iff]; simp
  go_enter Tryd.func8, Tryd.ntmps8
  go_wp2_with fail
  rw [← hw0]
  clear hw0
  refine HW.out.mono ?_
  rintro e w1 ⟨y, rfl, hg, hy1, hy2, b1⟩
  have HVV : Hid (rdB fc.toNat fp x.r no = (eqR y.r x.r && decide (E = no))) := by
    show _ = _
    rw [HV.out, HE.out]
    cases R with
    | none => rw [hy2 rfl]; rfl
    | some z => rw [hy1 z rfl]; rfl
  unfold resV
  obtain ⟨c0, c1, c2, c3, c4, c5, _⟩ := BX.out.below b1 (Nat.le_refl _)
  have hlt := (BX.out.below b1 (Nat.le_refl _)).lt
  have HBW : Hid (Below w.heap.size w w1) := HB0.out.trans (b1.mono HB0.out.size)
  have HR1 := Lib.hid (HR0.out.below b1 (Nat.le_refl _))
  have HG := Lib.hid hg
  have HQ : Hid (∀ o, Calls Tryd.prog 18 #[resV y, resV x] (w1.alloc o) (boolOf (eqR y.r x.r) (w1.alloc o))) := fun o => St.requal_any y x _ (HG.out.rc.below (alloc_below _ _) (Nat.le_refl _)) (HR1.out.below (alloc_below _ _) (Nat.le_refl _)) HG.out.bnd HBD.out
  unfold resV at HQ
  clear hg hy1 hy2 b1 x0 x1 f0 f1
  generalize eqR y.r x.r = q at *
  generalize decide (E = no) = eb at *
  go_wp2_with fail
  refine (HQ.out _).mono ?_
  rintro e w2 ⟨rfl, b2⟩
  have HB2 : Hid (Below w.heap.size w w2) := (HBW.out.alloc HBW.out.size _).trans (b2.mono (HBW.out.alloc HBW.out.size _).size)
  clear b2
  cases q
  all_goals
    go_wp2_with fail
    go_ret
    exact ⟨ret_b (by rw [HVV.out]; simp), HB2.out⟩
end Go.Proofs.YthlfahblnpijaaaDoor.Sk
