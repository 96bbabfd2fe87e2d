/- Proves what All and the law's collect return of a nil and of a zero store. Conditions: as each theorem names them. -/
import Derived.Test.YtlmljhnogmfcfaaGreatIu
import Derived.Test.YtlmljhnogmfcfaaGreatIz
namespace Go.Proofs.YtlmljhnogmfcfaaGreat.Iz
open Go.RowKit Ap Mi Nw Rg Ea Eb Ec Ed Ee El Iu Ep
theorem all_dead {w : World} {q : Option Addr} (h : Dead w q) (F : Nat → Prop) : Calls Tryz.prog 18 #[.pointer q] w (iterPost F w []) := by
  have HLI := Lib.hid (list_dead h)
  clear h
  unfold iterPost
  go_enter Tryz.func18, Tryz.ntmps18
  go_wp2_with fail
  refine HLI.out.mono ?_
  rintro _ w1 ⟨rfl, hb⟩
  have HB := Lib.hid hb
  clear hb
  go_wp2_with fail
  refine bodyPost_ret (results_tmp rfl _ _ _) rfl ?_
  have b1 : Below w1.heap.size w1 (w1.alloc (Obj.cells #[Value.slice none 0 0] 30)) := bnew _ _
  have hz := HB.out.size
  exact ⟨w1.heap.size, none, [], 0, rfl, hz, by simp, (Blk.new w1 _ _).cell 0, rfl, RL.nil, HB.out.trans (b1.mono hz)⟩
theorem collect_dead {w : World} {q : Option Addr} (h : Dead w q) : Calls Tryz.prog 34 #[.pointer q] w (allPost w []) :=
  collect_gen (F := fun _ => False) (fun _ hb => all_dead (h.below hb) _) (by decide)
end Go.Proofs.YtlmljhnogmfcfaaGreat.Iz
