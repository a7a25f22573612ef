/-
  DERIVED. GIVEN WITH THE SEED: THE CARDS: each row of YteeajhelnolfcaaDoorRows.lean that lists a variable, with what it lists TIED to the program's text (the seventh form; the later family's looks); each row that meets fmt, with fmt's text TOLD by the authors' own Lean function (tested against real Go, not proved from fmt's source: count such statements apart). THE CARD IS WHAT COUNTS. Prove the row's statement (the work); the ties are given (YteeajhelnolfcaaDoorTie.lean); close each card by the builder's one call (the guide's Derived/Test/ToyasCard.lean, 'card_holds'). Laid BY PROGRAM, IN A SANDBOX (cutbox-door.mjs). By AI agents, Wed Nov 11 2026. No macro, syntax, notation, axiom, sorry.
-/
import Derived.Test.YteeajhelnolfcaaDoorRows
import GoSem.ClaimSeven
namespace Go.Proofs.YteeajhelnolfcaaDoor
namespace Rows

/-- THE TIED CARD OF 'letterbecklaw2.EditSays'. -/
def editSaysCard : Claim7 := { stood := { row := editSaysRow, standIns := [], harness := (true, "b2530f44259d7621f9e48bc070ae3e8d93cf787a18dbb7a196413f6f35d8e3a9"), looks := true }, kinds := [], alts := [], laidByText := true, laidKinds := [.handle], laidTests := true, laidLooks := .later }
def EditSaysCardSaid : Prop := Claim7.holds Tryd.pinned (.plain (OpenSpec.ofChange editSaysSpec)) editSaysCard

/-- THE SECOND FORM's CARD OF 'letterbecklaw2.EditSays'. -/
def editSaysUptoCard : Claim7 := { stood := { row := editSaysUptoRow, standIns := [], harness := (true, "b2530f44259d7621f9e48bc070ae3e8d93cf787a18dbb7a196413f6f35d8e3a9"), looks := true }, kinds := [], alts := [], laidByText := true, laidKinds := [.handle], laidTests := true, laidLooks := .later }
def EditSaysUptoCardSaid : Prop := Claim7.holds Tryd.pinned (.plain (OpenSpec.upto editSaysSpec)) editSaysUptoCard
end Rows
end Go.Proofs.YteeajhelnolfcaaDoor
