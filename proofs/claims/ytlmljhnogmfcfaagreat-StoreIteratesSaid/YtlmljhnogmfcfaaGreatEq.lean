/- Proves what the law's used and is return at a store that is the document's. Conditions: as each theorem names them. -/
import Derived.Test.YtlmljhnogmfcfaaGreatEp
namespace Go.Proofs.YtlmljhnogmfcfaaGreat.Eq
open Go.RowKit Ap Mi Nw Rg Ea Eb Ec Ed Ee El Ep
open Ef (mV mA)

set_option maxRecDepth 100000 in
theorem used_gen {w : World} {p : Option Addr} (x n : Int) (h : Calls Tryz.prog 38 #[.pointer p] w (vPost w (.tuple #[.int .i64 x, .int .i64 n]))) :
  Calls Tryz.prog 25 #[.pointer p, .int .i64 x, .int .i64 n] w (boolTo true w) := by
 have HF := Lib.hid h
 have hx : (x == x) = true := by simp
 have hn : (n == n) = true := by simp
 unfold vPost at HF
 unfold boolTo
 clear h
 go_enter Tryz.func25, Tryz.ntmps25
 go_wp2_with fail
 refine HF.out.mono ?_
 rintro e w1 ⟨rfl, hb⟩
 have HB := Lib.hid hb
 clear hb HF
 go_wp2_with fail
 go_ret
 exact ⟨rfl, HB.out⟩
end Go.Proofs.YtlmljhnogmfcfaaGreat.Eq
