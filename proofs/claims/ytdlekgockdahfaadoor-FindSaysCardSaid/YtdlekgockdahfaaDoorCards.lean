/-
  DERIVED. GIVEN WITH THE SEED: THE CARDS: each row of YtdlekgockdahfaaDoorRows.lean that lists a variable, with what it lists TIED to the program's text (the seventh form; the later family's looks); each row that meets fmt, with fmt's text TOLD by the authors' own Lean function (tested against real Go, not proved from fmt's source: count such statements apart). THE CARD IS WHAT COUNTS. Prove the row's statement (the work); the ties are given (YtdlekgockdahfaaDoorTie.lean); close each card by the builder's one call (the guide's Derived/Test/ToyasCard.lean, 'card_holds'). Laid BY PROGRAM, IN A SANDBOX (cutbox-door.mjs). By AI agents, Wed Nov 11 2026. No macro, syntax, notation, axiom, sorry.
-/
import Derived.Test.YtdlekgockdahfaaDoorRows
import GoSem.ClaimSeven
namespace Go.Proofs.YtdlekgockdahfaaDoor
namespace Rows

/-- THE TIED CARD OF 'letterbecklaw1.FindSays'. -/
def findSaysCard : Claim7 := { stood := { row := findSaysRow, standIns := [], harness := (true, "a1780f60293a4a0635a03b99b40801cf9a86bacdf1c7c975b6908fc10f5bf960"), looks := true }, kinds := [], alts := [], laidByText := true, laidKinds := [.handle], laidTests := true, laidLooks := .later }
def FindSaysCardSaid : Prop := Claim7.holds Tryd.pinned (.plain (OpenSpec.ofChange findSaysSpec)) findSaysCard

/-- THE SECOND FORM's CARD OF 'letterbecklaw1.FindSays'. -/
def findSaysUptoCard : Claim7 := { stood := { row := findSaysUptoRow, standIns := [], harness := (true, "a1780f60293a4a0635a03b99b40801cf9a86bacdf1c7c975b6908fc10f5bf960"), looks := true }, kinds := [], alts := [], laidByText := true, laidKinds := [.handle], laidTests := true, laidLooks := .later }
def FindSaysUptoCardSaid : Prop := Claim7.holds Tryd.pinned (.plain (OpenSpec.upto findSaysSpec)) findSaysUptoCard
end Rows
end Go.Proofs.YtdlekgockdahfaaDoor
