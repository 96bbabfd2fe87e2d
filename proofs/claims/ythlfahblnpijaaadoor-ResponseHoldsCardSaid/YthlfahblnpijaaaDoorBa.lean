/- Proves words for functions that return bytes in new memory: a make of an empty row, a byte of a number. Conditions: few bytes. No function of the program. -/
import Derived.Test.YthlfahblnpijaaaDoorVw
namespace Go.Proofs.YthlfahblnpijaaaDoor.Va
open Go.RowKit Vm Ap Vw

theorem alloc_below (w : World) (o : Obj) : Below w.heap.size w (w.alloc o) := (Below.refl _ _).alloc (Nat.le_refl _) o
theorem or_num (n : Nat) (h : n < big) : bits .or .u64 (n : Int) 1 = ((n ||| 1 : Nat) : Int) := u64_or_nat n 1 h (by unfold big at *; omega)
/-- 'make([]byte, 0, n)': a row of the call's own. -/
theorem make_own (n : Nat) (w : World) (h : n ≤ 1000000000) : ∃ v w1, (Instr.makeSlice 29 (.int .i64 0) (.int .i64 (n : Int))).run Tryd.prog w = .ok v w1 ∧ Own w.heap.size w1 v [] ∧ w.grownBy w1 none := by
  have hi := elB.info
  rw [Option.map_eq_some_iff] at hi
  obtain ⟨i, hi1, hi2⟩ := hi
  simp only [Prod.mk.injEq] at hi2
  have hb := elB.small i hi1
  have hmul : i.bytes * n ≤ 1024 * 1000000000 := Nat.mul_le_mul hb h
  obtain ⟨w1, h1, h2, h3⟩ := run_make_own (P := Tryd.prog) w w.heap.size 29 5 i (.int .u8 0) 1 elB.sl hi1 hi2.1 hi2.2 .i64 .i64 n (by omega) (by unfold maxLen; omega) (Nat.le_refl _)
  exact ⟨_, w1, h1, h2, h3⟩
/-- What a function leaves that returns bytes in new memory. -/
def bytesPost (w : World) (l : Bs) : Ending → World → Prop := fun e w' => ∃ v, e = .returned v ∧ Own w.heap.size w' v l ∧ Below w.heap.size w w'
theorem byte_of (n : Nat) : IntKind.u8.wrap (n : Int) = ((n % 256 : Nat) : Int) := by rw [IntKind.wrap_u8']; omega
theorem or_128 : ∀ m : Fin 256, bits .or .u8 (m.val : Int) 128 = ((128 + m.val % 128 : Nat) : Int) := by decide +kernel
theorem or_byte (n : Nat) : bits .or .u8 ((n % 256 : Nat) : Int) 128 = ((128 + n % 128 : Nat) : Int) := by
  have := or_128 ⟨n % 256, by omega⟩
  simp only at this
  rw [this, show n % 256 % 128 = n % 128 from by omega]
theorem one_cell (k : IntKind) (a : Int) : ∀ u ∈ (#[.int k a] : Array Value).toList, u.oneCell' = true := by intro u hu; simp at hu; subst hu; rfl
theorem cells_one (n : Nat) (h : n < 256) : [UInt8.ofNat n].map byteV = [.int .u8 (n : Int)] := by
  simp only [List.map_cons, List.map_nil, byteV, of_nat h]
theorem own_snoc {B : Nat} {w : World} {v : Value} {l d : Bs} {n : Nat} (h : n < 256) (h2 : w.ownsRow B 5 1 v (l.length + d.length + 1) (l.map byteV ++ (d.map byteV ++ [.int .u8 (n : Int)]))) : Own B w v (l ++ (d ++ [UInt8.ofNat n])) := by
  unfold Own
  rw [List.map_append, List.map_append, cells_one _ h, List.length_append, List.length_append, ← Nat.add_assoc]
  exact h2
end Go.Proofs.YthlfahblnpijaaaDoor.Va
