/- Proves what the specification's Put returns. Conditions: as each theorem names them. -/
import Derived.Test.YtlmljhnogmfcfaaGreatEi
import Derived.Deep.Cut
namespace Go.Proofs.YtlmljhnogmfcfaaGreat.Ej
open Go.RowKit Ap Mi Nw Rg Ea Eb Ec Ed Ef Eg Eh Ei

structure Pu (w v : World) (C : Nat) (cs : Array Value) (x : Em) : Prop where
 b : Below C w v
 k : Blk v C cs 32
 e : Blk v (C + 1) (emA x) 42
 r : Blk v (C + 1 + 1) zS 32
 z : C + 3 ≤ v.heap.size
theorem Pu.below {w v u : World} {C : Nat} {cs : Array Value} {x : Em} (h : Pu w v C cs x) (hb : Below v.heap.size v u) : Pu w u C cs x := by
 have hz := h.z
 exact ⟨h.b.trans (hb.mono (by omega)), h.k.below hb (by omega), h.e.below hb (by omega), h.r.below hb (by omega), Nat.le_trans hz hb.size⟩
section
variable {G G' : Nat → Prop} {A : Option Addr} {c : Nat} {l : List Em} {w : World}
theorem rl_cut (h : RL G w A c l) {k : Nat} (hk : k ≤ l.length) : RL (fun _ => True) w (cutM A 6 k c) (c - k) (l.drop k) := by
 refine ⟨?_, fun _ _ => trivial, fun x hx => (h.e x (List.mem_of_mem_drop hx)).mono (fun _ _ => trivial)⟩
 have := rs_cut h.r hk
 rw [emL_drop] at this
 rw [List.length_drop]
 exact this
def putPost (b e : Int) (w : World) (R : List Em) (n : Nat) (x : En) : Ending → World → Prop := fun q w' => ∃ A c D d y, y.e = x ∧ q = .returned (.tuple #[mV b e A (R.drop n ++ [y]).length c, .slice D (R.take n).length d, .int .i64 0]) ∧
 Mine w.heap.size 6 w' A (R.drop n ++ [y]).length c (emL (R.drop n ++ [y])) ∧ Mine w.heap.size 6 w' D (R.take n).length d (emL (R.take n)) ∧ OwE w.heap.size w' y ∧ Below w.heap.size w w'
end
end Go.Proofs.YtlmljhnogmfcfaaGreat.Ej
