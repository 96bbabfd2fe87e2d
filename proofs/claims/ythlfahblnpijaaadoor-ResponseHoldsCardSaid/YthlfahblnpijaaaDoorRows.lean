/-
  NARROWER THAN 'FOR EVERY INPUT', by the rows' own cells (each row's printed sentence says how): ResponseHolds: laid.
  DERIVED. THE GIVEN ROWS OF THIS SEAT. 1 by the template 'for every input the law returns true; each argument reads behind the call as it read before'; 0 by the template 'total and deterministic' (their statements: YthlfahblnpijaaaDoorTotals.lean).
  GIVEN WITH THE SEED: the statements are not yours to turn. If you find one false, say at which input.
  Laid BY PROGRAM, IN A SANDBOX (cutbox-rows.mjs): the forced cells as the released guide's own fill.sh prints them over the translation ceebfbd2cb099f12… (all of the seat's roots in one cut). By AI agents, Wed Nov 11 2026. No macro, syntax, notation, axiom, sorry.
-/
import Derived.Test.YthlfahblnpijaaaDoorChecked
import GoSem.Claim
import GoSem.ClaimJoined
import GoSem.ClaimMapViews
import Derived.JoinedTies
import Derived.KernelRfl
namespace Go.Proofs.YthlfahblnpijaaaDoor
/- THE CELL 'sum', in the pinned program and in every row, IS THE sha256 OF THE DUMP (.gsa) THAT YthlfahblnpijaaaDoorProg.lean LOADS. Nothing in Lean hashes anything: it is a label: what it is worth is what the hold of that sum in a sandbox is worth. -/
noncomputable def Tryd.pinned : Pinned := { name := "ythlfahblnpijaaadoor", sum := "ceebfbd2cb099f12f275a0c0127c25cc172736be3449f1a05a2c984c22b8112f", checked := Tryd.checked }
namespace Rows
def none {H : Type} : Left H := { results := [], args := [] }

/- WHAT THE LISTED PACKAGE-LEVEL VARIABLES READ AS WHEN THE CALL BEGINS. Each datum BY PROGRAM (the guide's laid-datum.mjs) off the statement by which the dump's own 'gosem.cut.vars' lays the variable. In a bare row this is a premise. The card (YthlfahblnpijaaaDoorCards.lean) ties it to the program's text. -/
def laid_tagcache_request_rows {H : Type} : DataW H := .agg [.agg [.lit (.string [115, 101, 116]), .lit (.int .u64 57)], .agg [.lit (.string [97, 100, 100]), .lit (.int .u64 57)], .agg [.lit (.string [99, 97, 115]), .lit (.int .u64 121)], .agg [.lit (.string [103, 101, 116]), .lit (.int .u64 1)], .agg [.lit (.string [109, 103, 101, 116]), .lit (.int .u64 4)], .agg [.lit (.string [116, 111, 117, 99, 104]), .lit (.int .u64 33)], .agg [.lit (.string [100, 101, 108]), .lit (.int .u64 1)], .agg [.lit (.string [112, 117, 114, 103, 101]), .lit (.int .u64 128)], .agg [.lit (.string [115, 111, 102, 116]), .lit (.int .u64 128)], .agg [.lit (.string [112, 114, 101, 102, 105, 120]), .lit (.int .u64 256)], .agg [.lit (.string [100, 101, 112, 97, 100, 100]), .lit (.int .u64 3)], .agg [.lit (.string [100, 101, 112, 100, 101, 108]), .lit (.int .u64 3)], .agg [.lit (.string [105, 110, 118, 97, 108, 105, 100, 97, 116, 101]), .lit (.int .u64 1)], .agg [.lit (.string [102, 108, 117, 115, 104]), .lit (.int .u64 0)], .agg [.lit (.string [115, 116, 97, 116, 115]), .lit (.int .u64 0)]]

/-- 'tagcachelaw08.ResponseHolds': WHATEVER THE INPUT: true; the input reads as it did. -/
def responseHoldsSpec : ChangeSpec := { name := "responseHolds", fn := fun _ => fun
  | [d1, d2] => { results := [.lit (.bool true)], args := [d1, d2] }
  | _ => none }
def responseHoldsRow : OpenClaim := { program := "ythlfahblnpijaaadoor", sum := "ceebfbd2cb099f12f275a0c0127c25cc172736be3449f1a05a2c984c22b8112f", func := "tagcache/tagcachelaw08.ResponseHolds", spec := "responseHolds", unfollowed := true, recurses := true, named := ["tagcache/request.rows"], apart := false, laid := [("tagcache/request.rows", laid_tagcache_request_rows)] }
def ResponseHoldsSaid : Prop := responseHoldsRow.holds Tryd.pinned (OpenSpec.ofChange responseHoldsSpec)

/-- ITS FALSE NEIGHBOUR: 'it returns false'. Refute it at one input. -/
def responseHoldsWrong : ChangeSpec := { name := "responseHolds", fn := fun _ => fun
  | [d1, d2] => { results := [.lit (.bool false)], args := [d1, d2] }
  | _ => none }
def ResponseHoldsWrongFalsely : Prop := responseHoldsRow.holds Tryd.pinned (OpenSpec.ofChange responseHoldsWrong)

/- THE SECOND FORM. 'bulk': how many values and letters a reading holds, each counted each time it is reached (what is shared counts as often as it is met; a slice's spare places count too). A statement '..UptoSaid' is the law's where the arguments, and the package variables that the reading takes, are together of bulk at most 1048576: NARROWER than '..Said'. Prove '..Said' where nothing that the law and all that it calls make is longer than what came in: it says more and counts as full. Else prove '..UptoSaid'. A law counts once. -/
mutual
def uptoBulk {H : Type} : DataW H → Nat
  | .lit (.string bytes) => bytes.length + 1
  | .lit _ => 1
  | .nil => 1
  | .ptr d => uptoBulk d + 1
  | .slice elems spare => uptoBulkAll elems + uptoBulkAll spare + 1
  | .agg parts => uptoBulkAll parts + 1
  | .iface _ d => uptoBulk d + 1
  | .map entries => uptoBulkEntries entries + 1
  | .held _ => 1
def uptoBulkAll {H : Type} : List (DataW H) → Nat
  | [] => 0
  | d :: r => uptoBulk d + uptoBulkAll r
def uptoBulkEntries {H : Type} : List (Lit × DataW H) → Nat
  | [] => 0
  | x :: r => uptoBulkEntry x + uptoBulkEntries r
def uptoBulkEntry {H : Type} : Lit × DataW H → Nat
  | (.string bytes, d) => bytes.length + uptoBulk d + 1
  | (_, d) => uptoBulk d + 1
 end
def uptoSmall : (H : Type) → List (DataW H) → Bool := fun _ ds => decide (uptoBulkAll ds ≤ 1048576)
def OpenSpec.upto (s : _root_.Go.ChangeSpec) : _root_.Go.OpenSpec := { _root_.Go.OpenSpec.ofChange s with cond := some uptoSmall }

/-- 'tagcachelaw08.ResponseHolds', WHERE WHAT IT READS IS OF BULK AT MOST 1048576: true; the input reads as it did. -/
def responseHoldsUptoRow : OpenClaim := { program := "ythlfahblnpijaaadoor", sum := "ceebfbd2cb099f12f275a0c0127c25cc172736be3449f1a05a2c984c22b8112f", func := "tagcache/tagcachelaw08.ResponseHolds", spec := "responseHolds", unfollowed := true, recurses := true, named := ["tagcache/request.rows"], apart := false, laid := [("tagcache/request.rows", laid_tagcache_request_rows)], narrowed := true }
def ResponseHoldsUptoSaid : Prop := responseHoldsUptoRow.holds Tryd.pinned (OpenSpec.upto responseHoldsSpec)

end Rows
end Go.Proofs.YthlfahblnpijaaaDoor
