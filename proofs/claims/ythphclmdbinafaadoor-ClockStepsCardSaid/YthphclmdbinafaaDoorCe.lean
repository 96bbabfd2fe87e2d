/- Proves what the rows of package clock's laws give the walks: the table of powers of ten and the two errors are laid; and a world that meets the rows' condition. No condition. -/
import Derived.Test.YthphclmdbinafaaDoorCu
import Derived.Test.YthphclmdbinafaaDoorRow
import Derived.Test.YthphclmdbinafaaDoorCards
import Derived.Test.YthphclmdbinafaaDoorTie
import Derived.ProofKit
import Derived.OpenShut
import Derived.Deep.DeepHandedRow
import Derived.Lib.LaidTab
import Derived.Lay
import Derived.Shelf.Vars
import Derived.Stop.LaidErr
import Derived.Carry
namespace Go.Proofs.YthphclmdbinafaaDoor.Ce
open Go.ChangeShapes Go.WideShapes Go.ChangeAt Go.RowKit Cu

abbrev laid : List (String × DataW Unit) := Rows.clockSumsRow.laid
theorem gPow : Tryd.prog.globalNamed "internal/strconv.uint64pow10" = some 0 := by kernel_rfl
theorem gPowType : (Tryd.prog.globals[(0 : Nat)]?).map (·.type) = some 61 := by kernel_rfl
theorem gSyn : Tryd.prog.globalNamed "strconv.ErrSyntax" = some 1 := by kernel_rfl
theorem gSynType : (Tryd.prog.globals[(1 : Nat)]?).map (·.type) = some 49 := by kernel_rfl
theorem gRng : Tryd.prog.globalNamed "strconv.ErrRange" = some 2 := by kernel_rfl
theorem gRngType : (Tryd.prog.globals[(2 : Nat)]?).map (·.type) = some 49 := by kernel_rfl
theorem cellsPow : Tryd.prog.cellsOf 61 = 20 := by kernel_rfl
theorem cells64 : Tryd.prog.cellsOf 22 = 1 := by kernel_rfl
theorem cellsStr : Tryd.prog.cellsOf 9 = 1 := by kernel_rfl
theorem cellsErr : Tryd.prog.cellsOf 83 = 1 := by kernel_rfl
theorem star : "*" ++ "errors.errorString" = "*errors.errorString" := by decide
theorem rowErr (u : TypeId) (h : Tryd.prog.typeName? 3 u = some "*errors.errorString") : u = 81 :=
  typeName_ptr_named (nm := "errors.errorString") (by rw [star]; kernel_rfl) (by kernel_rfl) (by decide) u (by rw [star]; exact h)
theorem env_of {W : World} (hL : laidMetH Tryd.prog laid W) : Env W := by
  rw [MakeChecks.laidMetH_plain _ _ _ (by kernel_rfl)] at hL
  have h1 := hL.tail.tail
  have h2 := h1.tail
  have h3 := h2.tail
  refine ⟨Lib.tabIs_of_head gPow gPowType Tryd.underlying61 Tryd.underlying22 cells64 cellsPow h1, ?_, ?_⟩
  · obtain ⟨a, s, hv, _⟩ := laid_sentinel h3 gSyn gSynType Tryd.underlying49 rowErr Tryd.underlying81 Tryd.underlying83 rfl rfl Tryd.underlying9 cellsErr cellsStr
    exact ⟨_, _, hv⟩
  · obtain ⟨a, s, hv, _⟩ := laid_sentinel h2 gRng gRngType Tryd.underlying49 rowErr Tryd.underlying81 Tryd.underlying83 rfl rfl Tryd.underlying9 cellsErr cellsStr
    exact ⟨_, _, hv⟩
noncomputable abbrev start (os : Os) : World := World.laidAll Tryd.prog os laid
theorem start_met (os : Os) (args : Array Value) : laidMet Tryd.prog laid ((start os).forCall (fun _ _ => 0) ⟨#[], args, []⟩).memory :=
  laidMet_laidAll args (by kernel_rfl) (by kernel_rfl)
theorem start_vars (os : Os) (args : Array Value) : ((start os).forCall (fun _ _ => 0) ⟨#[], args, []⟩).variablesB Tryd.prog = true := by kernel_rfl
theorem start_rest (os : Os) (args : Array Value) : (((start os).forCall (fun _ _ => 0) ⟨#[], args, []⟩).heap.toList.drop Tryd.prog.globals.size).take ((begin Tryd.prog (fun _ _ => 0) default).world.heap.size - Tryd.prog.globals.size) =
      (begin Tryd.prog (fun _ _ => 0) default).world.heap.toList.drop Tryd.prog.globals.size := by kernel_rfl
end Go.Proofs.YthphclmdbinafaaDoor.Ce
