/- Proves what the law's writes and reads return: whether Write, Read return what is expected. Conditions: the table is laid; few bytes. -/
import Derived.Test.YtefadkdngcbpiaaDoorQf
import Derived.Test.YtefadkdngcbpiaaDoorQg
import Derived.Test.YtefadkdngcbpiaaDoorQr
namespace Go.Proofs.YtefadkdngcbpiaaDoor.Qk
open Go.RowKit Vm Ap Vw Va Gc Mi Mb Qm Qs Qe Qc Qf Qg Fm Fw

theorem wrC_bd (c : Cmd) : 0 ≤ wrC c ∧ wrC c ≤ 15 := by
  unfold wrC
  split
  · rename_i h
    obtain ⟨k, hk, e, _⟩ := in_cases (valid_in h)
    omega
  · omega
def codeU (n : Int) : UInt8 := UInt8.ofNat n.toNat
theorem codeU_int {n : Int} (h : 0 ≤ n ∧ n ≤ 15) : ((codeU n).toNat : Int) = n := by
  unfold codeU; rw [of_nat (by omega)]; omega
def wrB (c : Cmd) (fc : UInt8) (fp : Bs) (no : Int) : Bool := eqv (codeU (wrC c)) fc (wrP c) fp && decide (wrE c = no)
theorem wrB_true {c : Cmd} {fc : UInt8} {fp : Bs} {no : Int} (h1 : wrC c = (fc.toNat : Int)) (h2 : wrP c = fp) (h3 : wrE c = no) : wrB c fc fp no = true := by
  have e : codeU (wrC c) = fc := by rw [h1]; unfold codeU; simp
  unfold wrB; rw [e, h2, h3, eqv_self]; simp
set_option maxRecDepth 100000 in
set_option maxHeartbeats 2000000 in
theorem writes_any (x : Com) (fc : UInt8) (F : Option Addr) (fp : Bs) (fk : Nat) (no : Int) (w : World) (he : Env w) (hr : Rc w x) (hb : Bnd x.c) (hK : x.c.keys.length ≤ 40) (hT : x.c.tags.length ≤ 40) (hF : Rb w F fp) :
    Calls Tryd.prog 19 #[comV x, .agg #[.int .u8 (fc.toNat : Int), .slice F fp.length fk], .int .i64 no] w (boolOf (wrB x.c fc fp no) w) := by
  unfold comV
  obtain ⟨w0, hw0⟩ : ∃ w0, w0 = (w.alloc (comO x)).alloc (.cells #[.int .u8 (fc.toNat : Int), .slice F fp.length fk] 42) := ⟨_, rfl⟩
  have B0 : Below w.heap.size w w0 := by rw [hw0]; exact two_below _ _ _
  have bx : Box w0 w.heap.size x := by rw [hw0]; exact (Box.new w x).below (alloc_below _ _) (Nat.le_refl _)
  have ce : Cel w0 (w.heap.size + 1) (.int .u8 (fc.toNat : Int)) (.slice F fp.length fk) := by
    have h := Cel.new (w.alloc (comO x)) (.int .u8 (fc.toNat : Int)) (.slice F fp.length fk) 42
    have e : (w.alloc (comO x)).heap.size = w.heap.size + 1 := by simp
    rw [e] at h
    rw [hw0]; exact h
  have HB0 := Lib.hid B0
  have HW := Lib.hid (write_any x w0 (he.below B0 (Nat.le_refl _)) (hr.below B0 (Nat.le_refl _)) hb hK hT)
  unfold comV at HW
  have HF0 := Lib.hid (hF.below B0 (Nat.le_refl _))
  have CE := Lib.hid ce
  have HC := Lib.hid (codeU_int (wrC_bd x.c))
  obtain ⟨c0, c1, c2, c3, c4, c5, c6, c7, c8, c9, _⟩ := bx
  unfold comO at hw0
  clear B0 he hr hb hF ce
  have HV : Hid (wrB x.c fc fp no = (eqv (codeU (wrC x.c)) fc (wrP x.c) fp && decide (wrE x.c = no))) := rfl
  rw [← HC.out] at HW
  generalize wrE x.c = E at *
  generalize wrP x.c = l at *
  generalize codeU (wrC x.c) = cu at *
  obtain ⟨q, hq⟩ : ∃ q, q = eqv cu fc l fp := ⟨_, rfl⟩
  rw [← hq] at HV
  have HQ := Lib.hid hq
  clear hq
  by_cases hE : E = no
  all_goals
    have hEb : ((E : Int) == no) = decide (E = no) := by rw [Bool.eq_iff_iff]; simp
    generalize decide (E = no) = eb at *
    clear hE
    cases q
    all_goals
      go_enter Tryd.func19, Tryd.ntmps19
      go_wp2_with fail
      rw [← hw0]
      clear hw0
      refine HW.out.mono ?_
      rintro e w1 ⟨X, d, rfl, hf, b1⟩
      obtain ⟨x0, x1, f0, f1⟩ := CE.out.below b1 (Nat.le_refl _)
      have hlt := (CE.out.below b1 (Nat.le_refl _)).lt
      have HX := Lib.hid hf.rd
      have HF1 := Lib.hid (HF0.out.below b1 (Nat.le_refl _))
      have HBW : Hid (Below w.heap.size w w1) := HB0.out.trans (b1.mono HB0.out.size)
      clear hf b1
      go_wp2_with fail
      refine (requal_any cu fc X F l fp d fk _ (HX.out.below (alloc_below _ _) (Nat.le_refl _)) (HF1.out.below (alloc_below _ _) (Nat.le_refl _))).mono ?_
      rintro e w2 ⟨rfl, b2⟩
      rw [← HQ.out]
      have HB2 : Hid (Below w.heap.size w w2) := (HBW.out.alloc HBW.out.size _).trans (b2.mono (HBW.out.alloc HBW.out.size _).size)
      clear b2
      go_wp2_with fail
      go_ret
      exact ⟨ret_b (by rw [HV.out]; simp), HB2.out⟩
/-- What reads returns. -/
def rdBR (R : Option Cmd) (c : Cmd) (no : Int) : Bool := match R with
  | some y => eqC y c && decide (0 = no)
  | none => eqC (bare 0) c && decide (6 = no)
def rdB (op : Int) (p : Bs) (c : Cmd) (no : Int) : Bool := rdBR (readR op p) c no
set_option maxRecDepth 100000 in
set_option maxHeartbeats 4000000 in
theorem reads_any (fc : UInt8) (F : Option Addr) (fp : Bs) (fk : Nat) (x : Com) (no : Int) (w : World) (he : Env w) (hF : Rb w F fp) (hp : fp.length ≤ 2000000) (hr : Rc w x) (hb : Bnd x.c) :
    Calls Tryd.prog 25 #[.agg #[.int .u8 (fc.toNat : Int), .slice F fp.length fk], comV x, .int .i64 no] w (boolOf (rdB (fc.toNat : Int) fp x.c no) w) := by
  unfold comV
  obtain ⟨w0, hw0⟩ : ∃ w0, w0 = (w.alloc (.cells #[.int .u8 (fc.toNat : Int), .slice F fp.length fk] 42)).alloc (comO x) := ⟨_, rfl⟩
  have B0 : Below w.heap.size w w0 := by rw [hw0]; exact two_below _ _ _
  have bx : Box w0 (w.heap.size + 1) x := by
    have h := Box.new (w.alloc (.cells #[.int .u8 (fc.toNat : Int), .slice F fp.length fk] 42)) x
    have e : (w.alloc (.cells #[.int .u8 (fc.toNat : Int), .slice F fp.length fk] 42)).heap.size = w.heap.size + 1 := by simp
    rw [e] at h
    rw [hw0]; exact h
  have ce : Cel w0 w.heap.size (.int .u8 (fc.toNat : Int)) (.slice F fp.length fk) := by rw [hw0]; exact (Cel.new w _ _ _).below (alloc_below _ _) (Nat.le_refl _)
  have HB0 := Lib.hid B0
  have HW := Lib.hid (read_any fc F fp fk w0 (he.below B0 (Nat.le_refl _)) (hF.below B0 (Nat.le_refl _)) hp)
  have BX := Lib.hid bx
  have HR0 := Lib.hid (hr.below B0 (Nat.le_refl _))
  have HBD := Lib.hid hb
  obtain ⟨x0, x1, f0, f1⟩ := ce
  unfold comO at hw0
  clear B0 he hr hb hF bx
  obtain ⟨R, hR⟩ : ∃ R, R = readR (fc.toNat : Int) fp := ⟨_, rfl⟩
  have HV : Hid (rdB (fc.toNat : Int) fp x.c no = rdBR R x.c no) := by show _ = _; rw [hR]; rfl
  rw [← hR] at HW
  clear hR
  unfold rdPost at HW
  obtain ⟨E, hE⟩ : ∃ E : Int, E = if R.isSome then 0 else 6 := ⟨_, rfl⟩
  rw [← hE] at HW
  have HE := Lib.hid hE
  clear hE
  have hEb : ((E : Int) == no) = decide (E = no) := by rw [Bool.eq_iff_iff]; simp
  go_enter Tryd.func25, Tryd.ntmps25
  go_wp2_with fail
  rw [← hw0]
  clear hw0
  refine HW.out.mono ?_
  rintro e w1 ⟨y, rfl, hg, hy1, hy2, b1⟩
  have HVV : Hid (rdB (fc.toNat : Int) fp x.c no = (eqC y.c x.c && decide (E = no))) := by
    show _ = _
    rw [HV.out, HE.out]
    cases R with
    | none => rw [hy2 rfl]; rfl
    | some z => rw [hy1 z rfl]; rfl
  unfold comV
  obtain ⟨c0, c1, c2, c3, c4, c5, c6, c7, c8, c9, _⟩ := BX.out.below b1 (Nat.le_refl _)
  have hlt := (BX.out.below b1 (Nat.le_refl _)).lt
  have HBW : Hid (Below w.heap.size w w1) := HB0.out.trans (b1.mono HB0.out.size)
  have HR1 := Lib.hid (HR0.out.below b1 (Nat.le_refl _))
  have HG := Lib.hid hg
  have HQ : Hid (∀ o, Calls Tryd.prog 14 #[comV y, comV x] (w1.alloc o) (boolOf (eqC y.c x.c) (w1.alloc o))) := fun o => Qr.requal_any y x _ (HG.out.rc.below (alloc_below _ _) (Nat.le_refl _)) (HR1.out.below (alloc_below _ _) (Nat.le_refl _)) HG.out.bnd HBD.out
  unfold comV at HQ
  clear hg hy1 hy2 b1 x0 x1 f0 f1
  generalize eqC y.c x.c = q at *
  generalize decide (E = no) = eb at *
  go_wp2_with fail
  refine (HQ.out _).mono ?_
  rintro e w2 ⟨rfl, b2⟩
  have HB2 : Hid (Below w.heap.size w w2) := (HBW.out.alloc HBW.out.size _).trans (b2.mono (HBW.out.alloc HBW.out.size _).size)
  clear b2
  cases q
  all_goals
    go_wp2_with fail
    go_ret
    exact ⟨ret_b (by rw [HVV.out]; simp), HB2.out⟩
end Go.Proofs.YtefadkdngcbpiaaDoor.Qk
