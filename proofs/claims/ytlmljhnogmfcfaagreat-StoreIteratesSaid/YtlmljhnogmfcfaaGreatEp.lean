/- Proves nothing of its own: the contracts of a store's methods, gathered for the laws' walks. -/
import Derived.Test.YtlmljhnogmfcfaaGreatEk
import Derived.Test.YtlmljhnogmfcfaaGreatEj
import Derived.Test.YtlmljhnogmfcfaaGreatIh
import Derived.Test.YtlmljhnogmfcfaaGreatIi
import Derived.Test.YtlmljhnogmfcfaaGreatIm
import Derived.Test.YtlmljhnogmfcfaaGreatIn
import Derived.Test.YtlmljhnogmfcfaaGreatIv
import Derived.Test.YtlmljhnogmfcfaaGreatIx
namespace Go.Proofs.YtlmljhnogmfcfaaGreat.Ep
open Go.RowKit Ap Mi Nw Ea Eb Ec Ed Ee El
section
variable {F F' : Nat → Prop} {w w' : World} {g : Nat} {s : Sx}
theorem put_re (h : St F w g s) {G : Nat → Prop} {x : Em} (hx : RE G w x) (hn : ∀ j, F j → ¬ G j) : Calls Tryz.prog 22 #[.pointer (some ⟨g, 0, none⟩), emV x] w (putPost F w g (putT s x.e) (putG s x.e) (putN s x.e)) := put_any h fun _ hv => hx.only hv hn
end
end Go.Proofs.YtlmljhnogmfcfaaGreat.Ep
