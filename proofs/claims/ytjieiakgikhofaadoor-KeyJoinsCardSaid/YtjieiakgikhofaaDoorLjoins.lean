/- Proves that the law KeyJoins returns true at every list, in the form that its row takes. Conditions: as joins_walk's. -/
import Derived.Test.YtjieiakgikhofaaDoorLtexts
namespace Go.Proofs.YtjieiakgikhofaaDoor.Ljoins
open Go.RowKit Km Kl Ks Lnames

theorem joins_walk (A : Option Addr) (c : Nat) (l : List Bs) (w : World) (he : Env w) (hA : Rd w A l) (hc : l.length ≤ c) (hcm : c ≤ maxLen) (_ : A = none → c = 0) (hx : ∀ x ∈ l, x.length ≤ 140737488351232) :
    Calls Tryd.prog 5 #[.slice A l.length c] w (lawPost w) := Ltexts.joins_walk A c l w he hA hc hcm hx
end Go.Proofs.YtjieiakgikhofaaDoor.Ljoins
