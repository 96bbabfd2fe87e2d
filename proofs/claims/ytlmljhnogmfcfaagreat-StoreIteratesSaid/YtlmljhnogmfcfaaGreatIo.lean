/- Proves a law for a loop over an iterator of which more is known when it yields: what it yields stands in memory. Conditions: as each theorem names them. -/
import Derived.Test.YtlmljhnogmfcfaaGreatIl
import Derived.RangeFuncWrites
namespace Go.Proofs.YtlmljhnogmfcfaaGreat.Io
open Go.RowKit Go.Shelf Ap Mi Nw
attribute [local go_sem] Oper.semAt_some

section
variable {P : Program} {F : Fence} {n : Nat} {α : Type}
def recd (fn : Nat) (t : Array Value) (ps : Array Tmp) (assign body : Code) (d : Nat) (st : LoopState) (pe : Option Code) : Loop := { state := st, pending := pe, fn, tmps := t, params := ps, assign, body, defers := d }
end
end Go.Proofs.YtlmljhnogmfcfaaGreat.Io
