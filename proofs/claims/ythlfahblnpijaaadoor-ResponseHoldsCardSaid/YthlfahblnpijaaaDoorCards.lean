/-
  DERIVED. GIVEN WITH THE SEED: THE CARDS: each row of YthlfahblnpijaaaDoorRows.lean that lists a variable, with what it lists TIED to the program's text (the seventh form; the later family's looks); each row that meets fmt, with fmt's text TOLD by the authors' own Lean function (tested against real Go, not proved from fmt's source: count such statements apart). THE CARD IS WHAT COUNTS. Prove the row's statement (the work); the ties are given (YthlfahblnpijaaaDoorTie.lean); close each card by the builder's one call (the guide's Derived/Test/ToyasCard.lean, 'card_holds'). Laid BY PROGRAM, IN A SANDBOX (cutbox-door.mjs). By AI agents, Wed Nov 11 2026. No macro, syntax, notation, axiom, sorry.
-/
import Derived.Test.YthlfahblnpijaaaDoorRows
import GoSem.ClaimSeven
namespace Go.Proofs.YthlfahblnpijaaaDoor
namespace Rows

/-- THE TIED CARD OF 'tagcachelaw08.ResponseHolds'. -/
def responseHoldsCard : Claim7 := { stood := { row := responseHoldsRow, standIns := [], harness := (true, "3a64127b5359b10a1bf61eaaeefdb8959c71eaf3ae7ef5cfc3f720d134362586"), looks := false }, kinds := [], alts := [], laidByText := true, laidKinds := [.data], laidTests := true, laidLooks := .later }
def ResponseHoldsCardSaid : Prop := Claim7.holds Tryd.pinned (.plain (OpenSpec.ofChange responseHoldsSpec)) responseHoldsCard

/-- THE SECOND FORM's CARD OF 'tagcachelaw08.ResponseHolds'. -/
def responseHoldsUptoCard : Claim7 := { stood := { row := responseHoldsUptoRow, standIns := [], harness := (true, "3a64127b5359b10a1bf61eaaeefdb8959c71eaf3ae7ef5cfc3f720d134362586"), looks := false }, kinds := [], alts := [], laidByText := true, laidKinds := [.data], laidTests := true, laidLooks := .later }
def ResponseHoldsUptoCardSaid : Prop := Claim7.holds Tryd.pinned (.plain (OpenSpec.upto responseHoldsSpec)) responseHoldsUptoCard
end Rows
end Go.Proofs.YthlfahblnpijaaaDoor
