/- Proves what the specification's calls return, in the words of a store that is a list of entries. Conditions: at most 1000 entries. -/
import Derived.Test.YtlmljhnogmfcfaaGreatEq
namespace Go.Proofs.YtlmljhnogmfcfaaGreat.Er
open Go.RowKit Ap Mi Nw Ea Eb Ec Ed Ee Ef El
open Ep (St Ok)

section
variable {F G G' : Nat → Prop} {w w' : World} {g : Nat} {s : Sx} {l : List Em} {A : Option Addr} {c : Nat}
theorem bs_s (s : Sx) (k : ByteArray) (d : Int) : (remT s k).b = s.b ∧ (remT s k).e = s.e ∧ (useT s k).b = s.b ∧ (useT s k).e = s.e ∧ (touT s k d).b = s.b ∧ (touT s k d).e = s.e := by
 unfold remT useT touT
 by_cases h : lookN s k = 0
 ·simp only [if_pos h, and_self]
 ·simp only [if_neg h, and_self]
theorem bs_p (s : Sx) (x : En) : (putT s x).b = s.b ∧ (putT s x).e = s.e := by
 unfold putT
 by_cases h : putN s x = 0
 ·simp only [if_pos h, and_self]
 ·simp only [if_neg h, and_self]
def Tn (G : Nat → Prop) (w w' : World) : Nat → Prop := fun j => G j ∨ (w.heap.size ≤ j ∧ j < w'.heap.size)
structure Nx (G : Nat → Prop) (w w' : World) (L : List En) (A : Option Addr) (c : Nat) (l : List Em) : Prop where
 r : RL (Tn G w w') w' A c l
 m : l.map Em.e = L
 b : Below w.heap.size w w'
theorem Nx.same (hl : RL G w A c l) (hb : Below w.heap.size w w') : Nx G w w' (l.map Em.e) A c l := ⟨(hl.below hb (Nat.le_refl _)).mono (fun _ h => Or.inl h), rfl, hb⟩
end
end Go.Proofs.YtlmljhnogmfcfaaGreat.Er
