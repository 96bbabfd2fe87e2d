/-
  No cell of these rows narrows 'for every input' (looked for: loops, veiled, ifaces, maps, wideKeys, modest, calm, conditions, laid).
  DERIVED. THE GIVEN ROWS OF THIS SEAT. 5 by the template 'for every input the law returns true; each argument reads behind the call as it read before'; 0 by the template 'total and deterministic' (their statements: YtfoalfemkpiniaaTotals.lean).
  GIVEN WITH THE SEED: the statements are not yours to turn. If you find one false, say at which input.
  Laid BY PROGRAM, IN A SANDBOX (cutbox-rows.mjs): the forced cells as the released guide's own fill.sh prints them over the translation d2d9ee34b0193d8d… (all of the seat's roots in one cut). By AI agents, Wed Nov 11 2026. No macro, syntax, notation, axiom, sorry.
-/
import Derived.Test.YtfoalfemkpiniaaChecked
import GoSem.Claim
import GoSem.ClaimJoined
import GoSem.ClaimMapViews
import Derived.JoinedTies
import Derived.KernelRfl
namespace Go.Proofs.Ytfoalfemkpiniaa
/- THE CELL 'sum', in the pinned program and in every row, IS THE sha256 OF THE DUMP (.gsa) THAT YtfoalfemkpiniaaProg.lean LOADS. Nothing in Lean hashes anything: it is a label: what it is worth is what the hold of that sum in a sandbox is worth. -/
noncomputable def Try.pinned : Pinned := { name := "ytfoalfemkpiniaa", sum := "d2d9ee34b0193d8d5943faa2d3b0524883323495431a85c930b2465a7aa41396", checked := Try.checked }
namespace Rows
def none {H : Type} : Left H := { results := [], args := [] }

/-- 'tagcachelaw11.RecentPlays': WHATEVER THE INPUT: true; the input reads as it did. -/
def recentPlaysSpec : ChangeSpec := { name := "recentPlays", fn := fun _ => fun
  | [d] => { results := [.lit (.bool true)], args := [d] }
  | _ => none }
def recentPlaysRow : OpenClaim := { program := "ytfoalfemkpiniaa", sum := "d2d9ee34b0193d8d5943faa2d3b0524883323495431a85c930b2465a7aa41396", func := "tagcache/tagcachelaw11.RecentPlays", spec := "recentPlays", inPlace := ["maps.clone"], unfollowed := true, recurses := true, apart := false }
def RecentPlaysSaid : Prop := recentPlaysRow.holds Try.pinned (OpenSpec.ofChange recentPlaysSpec)

/-- ITS FALSE NEIGHBOUR: 'it returns false'. Refute it at one input. -/
def recentPlaysWrong : ChangeSpec := { name := "recentPlays", fn := fun _ => fun
  | [d] => { results := [.lit (.bool false)], args := [d] }
  | _ => none }
def RecentPlaysWrongFalsely : Prop := recentPlaysRow.holds Try.pinned (OpenSpec.ofChange recentPlaysWrong)

/-- 'tagcachelaw11.RecentIterates': WHATEVER THE INPUT: true; the input reads as it did. -/
def recentIteratesSpec : ChangeSpec := { name := "recentIterates", fn := fun _ => fun
  | [d1, d2] => { results := [.lit (.bool true)], args := [d1, d2] }
  | _ => none }
def recentIteratesRow : OpenClaim := { program := "ytfoalfemkpiniaa", sum := "d2d9ee34b0193d8d5943faa2d3b0524883323495431a85c930b2465a7aa41396", func := "tagcache/tagcachelaw11.RecentIterates", spec := "recentIterates", inPlace := ["maps.clone"], unfollowed := true, recurses := true, apart := false }
def RecentIteratesSaid : Prop := recentIteratesRow.holds Try.pinned (OpenSpec.ofChange recentIteratesSpec)

/-- ITS FALSE NEIGHBOUR: 'it returns false'. Refute it at one input. -/
def recentIteratesWrong : ChangeSpec := { name := "recentIterates", fn := fun _ => fun
  | [d1, d2] => { results := [.lit (.bool false)], args := [d1, d2] }
  | _ => none }
def RecentIteratesWrongFalsely : Prop := recentIteratesRow.holds Try.pinned (OpenSpec.ofChange recentIteratesWrong)

/-- 'tagcachelaw11.RecentSlots': WHATEVER THE INPUT: true; the input reads as it did. -/
def recentSlotsSpec : ChangeSpec := { name := "recentSlots", fn := fun _ => fun
  | [d] => { results := [.lit (.bool true)], args := [d] }
  | _ => none }
def recentSlotsRow : OpenClaim := { program := "ytfoalfemkpiniaa", sum := "d2d9ee34b0193d8d5943faa2d3b0524883323495431a85c930b2465a7aa41396", func := "tagcache/tagcachelaw11.RecentSlots", spec := "recentSlots", unfollowed := true, recurses := true, apart := false }
def RecentSlotsSaid : Prop := recentSlotsRow.holds Try.pinned (OpenSpec.ofChange recentSlotsSpec)

/-- ITS FALSE NEIGHBOUR: 'it returns false'. Refute it at one input. -/
def recentSlotsWrong : ChangeSpec := { name := "recentSlots", fn := fun _ => fun
  | [d] => { results := [.lit (.bool false)], args := [d] }
  | _ => none }
def RecentSlotsWrongFalsely : Prop := recentSlotsRow.holds Try.pinned (OpenSpec.ofChange recentSlotsWrong)

/-- 'tagcachelaw11.RecentNil': WHATEVER THE INPUT: true; the input reads as it did. -/
def recentNilSpec : ChangeSpec := { name := "recentNil", fn := fun _ => fun
  | [d] => { results := [.lit (.bool true)], args := [d] }
  | _ => none }
def recentNilRow : OpenClaim := { program := "ytfoalfemkpiniaa", sum := "d2d9ee34b0193d8d5943faa2d3b0524883323495431a85c930b2465a7aa41396", func := "tagcache/tagcachelaw11.RecentNil", spec := "recentNil", inPlace := ["maps.clone"], unfollowed := true, recurses := true, apart := false }
def RecentNilSaid : Prop := recentNilRow.holds Try.pinned (OpenSpec.ofChange recentNilSpec)

/-- ITS FALSE NEIGHBOUR: 'it returns false'. Refute it at one input. -/
def recentNilWrong : ChangeSpec := { name := "recentNil", fn := fun _ => fun
  | [d] => { results := [.lit (.bool false)], args := [d] }
  | _ => none }
def RecentNilWrongFalsely : Prop := recentNilRow.holds Try.pinned (OpenSpec.ofChange recentNilWrong)

/-- 'tagcachelaw11.RecentHolds': WHATEVER THE INPUT: true; the input reads as it did. -/
def recentHoldsSpec : ChangeSpec := { name := "recentHolds", fn := fun _ => fun
  | [d] => { results := [.lit (.bool true)], args := [d] }
  | _ => none }
def recentHoldsRow : OpenClaim := { program := "ytfoalfemkpiniaa", sum := "d2d9ee34b0193d8d5943faa2d3b0524883323495431a85c930b2465a7aa41396", func := "tagcache/tagcachelaw11.RecentHolds", spec := "recentHolds", unfollowed := true, recurses := true, apart := false }
def RecentHoldsSaid : Prop := recentHoldsRow.holds Try.pinned (OpenSpec.ofChange recentHoldsSpec)

/-- ITS FALSE NEIGHBOUR: 'it returns false'. Refute it at one input. -/
def recentHoldsWrong : ChangeSpec := { name := "recentHolds", fn := fun _ => fun
  | [d] => { results := [.lit (.bool false)], args := [d] }
  | _ => none }
def RecentHoldsWrongFalsely : Prop := recentHoldsRow.holds Try.pinned (OpenSpec.ofChange recentHoldsWrong)

/- THE SECOND FORM. 'bulk': how many values and letters a reading holds, each counted each time it is reached (what is shared counts as often as it is met; a slice's spare places count too). A statement '..UptoSaid' is the law's where the arguments, and the package variables that the reading takes, are together of bulk at most 1048576: NARROWER than '..Said'. Prove '..Said' where nothing that the law and all that it calls make is longer than what came in: it says more and counts as full. Else prove '..UptoSaid'. A law counts once. -/
mutual
def uptoBulk {H : Type} : DataW H → Nat
  | .lit (.string bytes) => bytes.length + 1
  | .lit _ => 1
  | .nil => 1
  | .ptr d => uptoBulk d + 1
  | .slice elems spare => uptoBulkAll elems + uptoBulkAll spare + 1
  | .agg parts => uptoBulkAll parts + 1
  | .iface _ d => uptoBulk d + 1
  | .map entries => uptoBulkEntries entries + 1
  | .held _ => 1
def uptoBulkAll {H : Type} : List (DataW H) → Nat
  | [] => 0
  | d :: r => uptoBulk d + uptoBulkAll r
def uptoBulkEntries {H : Type} : List (Lit × DataW H) → Nat
  | [] => 0
  | x :: r => uptoBulkEntry x + uptoBulkEntries r
def uptoBulkEntry {H : Type} : Lit × DataW H → Nat
  | (.string bytes, d) => bytes.length + uptoBulk d + 1
  | (_, d) => uptoBulk d + 1
 end
def uptoSmall : (H : Type) → List (DataW H) → Bool := fun _ ds => decide (uptoBulkAll ds ≤ 1048576)
def OpenSpec.upto (s : _root_.Go.ChangeSpec) : _root_.Go.OpenSpec := { _root_.Go.OpenSpec.ofChange s with cond := some uptoSmall }

/-- 'tagcachelaw11.RecentPlays', WHERE WHAT IT READS IS OF BULK AT MOST 1048576: true; the input reads as it did. -/
def recentPlaysUptoRow : OpenClaim := { program := "ytfoalfemkpiniaa", sum := "d2d9ee34b0193d8d5943faa2d3b0524883323495431a85c930b2465a7aa41396", func := "tagcache/tagcachelaw11.RecentPlays", spec := "recentPlays", inPlace := ["maps.clone"], unfollowed := true, recurses := true, apart := false, narrowed := true }
def RecentPlaysUptoSaid : Prop := recentPlaysUptoRow.holds Try.pinned (OpenSpec.upto recentPlaysSpec)

/-- 'tagcachelaw11.RecentIterates', WHERE WHAT IT READS IS OF BULK AT MOST 1048576: true; the input reads as it did. -/
def recentIteratesUptoRow : OpenClaim := { program := "ytfoalfemkpiniaa", sum := "d2d9ee34b0193d8d5943faa2d3b0524883323495431a85c930b2465a7aa41396", func := "tagcache/tagcachelaw11.RecentIterates", spec := "recentIterates", inPlace := ["maps.clone"], unfollowed := true, recurses := true, apart := false, narrowed := true }
def RecentIteratesUptoSaid : Prop := recentIteratesUptoRow.holds Try.pinned (OpenSpec.upto recentIteratesSpec)

/-- 'tagcachelaw11.RecentSlots', WHERE WHAT IT READS IS OF BULK AT MOST 1048576: true; the input reads as it did. -/
def recentSlotsUptoRow : OpenClaim := { program := "ytfoalfemkpiniaa", sum := "d2d9ee34b0193d8d5943faa2d3b0524883323495431a85c930b2465a7aa41396", func := "tagcache/tagcachelaw11.RecentSlots", spec := "recentSlots", unfollowed := true, recurses := true, apart := false, narrowed := true }
def RecentSlotsUptoSaid : Prop := recentSlotsUptoRow.holds Try.pinned (OpenSpec.upto recentSlotsSpec)

/-- 'tagcachelaw11.RecentNil', WHERE WHAT IT READS IS OF BULK AT MOST 1048576: true; the input reads as it did. -/
def recentNilUptoRow : OpenClaim := { program := "ytfoalfemkpiniaa", sum := "d2d9ee34b0193d8d5943faa2d3b0524883323495431a85c930b2465a7aa41396", func := "tagcache/tagcachelaw11.RecentNil", spec := "recentNil", inPlace := ["maps.clone"], unfollowed := true, recurses := true, apart := false, narrowed := true }
def RecentNilUptoSaid : Prop := recentNilUptoRow.holds Try.pinned (OpenSpec.upto recentNilSpec)

/-- 'tagcachelaw11.RecentHolds', WHERE WHAT IT READS IS OF BULK AT MOST 1048576: true; the input reads as it did. -/
def recentHoldsUptoRow : OpenClaim := { program := "ytfoalfemkpiniaa", sum := "d2d9ee34b0193d8d5943faa2d3b0524883323495431a85c930b2465a7aa41396", func := "tagcache/tagcachelaw11.RecentHolds", spec := "recentHolds", unfollowed := true, recurses := true, apart := false, narrowed := true }
def RecentHoldsUptoSaid : Prop := recentHoldsUptoRow.holds Try.pinned (OpenSpec.upto recentHoldsSpec)

end Rows
end Go.Proofs.Ytfoalfemkpiniaa
