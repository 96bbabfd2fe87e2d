/- Proves what the specification's Equal of two frames returns, and words for frames. No condition. -/
import Derived.Test.YthlfahblnpijaaaDoorFm
import Derived.Test.YthlfahblnpijaaaDoorGc
namespace Go.Proofs.YthlfahblnpijaaaDoor.Fw
open Go.RowKit Vm Ap Vw Va Gc Fm

/-- A frame as a value: its code, and its payload as a slice. -/
def frV (c : UInt8) (A : Option Addr) (p : Bs) (k : Nat) : Value := .agg #[.int .u8 (c.toNat : Int), .slice A p.length k]
def frO (c : UInt8) (A : Option Addr) (p : Bs) (k : Nat) : Obj := .cells #[.int .u8 (c.toNat : Int), .slice A p.length k] 31
/-- Two numbers behind a call that changes nothing older. -/
def twoPost (w : World) (a b : Int) : Ending → World → Prop := fun e w' => e = .returned (.tuple #[.int .i64 a, .int .i64 b]) ∧ Below w.heap.size w w'
/-- Whether two frames are equal. -/
def eqv (c d : UInt8) (l m : Bs) : Bool := decide (c = d ∧ l = m)
theorem eqv_self (c : UInt8) (l : Bs) : eqv c c l l = true := by simp [eqv]
theorem eqv_no {c d : UInt8} {l m : Bs} (h : c ≠ d) : eqv c d l m = false := by simp [eqv, h]
theorem eqv_yes {c : UInt8} {l m : Bs} : eqv c c l m = decide (l = m) := by simp [eqv]
theorem ne_int {c d : UInt8} (h : c ≠ d) : ((c.toNat : Int) == (d.toNat : Int)) = false := by
  rw [beq_eq_false_iff_ne]; intro e; exact h (UInt8.toNat_inj.1 (by omega))
set_option maxRecDepth 100000 in
set_option maxHeartbeats 400000 in
theorem requal_any (c d : UInt8) (A C : Option Addr) (l m : Bs) (j k : Nat) (w : World) (hA : Rb w A l) (hC : Rb w C m) :
    Calls Tryd.prog 23 #[.agg #[.int .u8 (c.toNat : Int), .slice A l.length j], .agg #[.int .u8 (d.toNat : Int), .slice C m.length k]] w (boolOf (eqv c d l m) w) := by
  by_cases h : c = d
  · subst h
    have HE := Lib.hid (eqv_yes (c := c) (l := l) (m := m))
    have hb : ∀ o p, Below w.heap.size w ((w.alloc o).alloc p) := two_below w
    have h1 : ∀ o p, (convert 29 9 (.slice A l.length j)).run Tryd.prog ((w.alloc o).alloc p) = .ok (.string ⟨l.toArray⟩) ((w.alloc o).alloc p) := fun o p => conv_str j (hA.below (hb o p) (Nat.le_refl _))
    have h2 : ∀ o p, (convert 29 9 (.slice C m.length k)).run Tryd.prog ((w.alloc o).alloc p) = .ok (.string ⟨m.toArray⟩) ((w.alloc o).alloc p) := fun o p => conv_str k (hC.below (hb o p) (Nat.le_refl _))
    have HB := Lib.hid hb
    generalize eqv c c l m = b at *
    clear hb hA hC
    go_enter Tryd.func23, Tryd.ntmps23
    go_wp2_with fail
    go_ret
    exact ⟨ret_b (by rw [HE.out, Bool.eq_iff_iff]; simp), HB.out _ _⟩
  · have HE := Lib.hid (eqv_no (l := l) (m := m) h)
    have hne := ne_int h
    clear h
    go_enter Tryd.func23, Tryd.ntmps23
    go_wp2_with fail
    go_ret
    exact ⟨ret_b HE.out.symm, two_below _ _ _⟩
/-- What Write leaves. -/
def writePost (w : World) (l : Bs) (n : Int) : Ending → World → Prop := fun e w' => ∃ v, e = .returned (.tuple #[v, .int .i64 n]) ∧ Own w.heap.size w' v l ∧ Below w.heap.size w w'
end Go.Proofs.YthlfahblnpijaaaDoor.Fw
