/-
  DERIVED. GIVEN WITH THE SEED: THE CARDS: each row of YtojpapeomahegaaDoorRows.lean that lists a variable, with what it lists TIED to the program's text (the seventh form; the later family's looks); each row that meets fmt, with fmt's text TOLD by the authors' own Lean function (tested against real Go, not proved from fmt's source: count such statements apart). THE CARD IS WHAT COUNTS. Prove the row's statement (the work); the ties are given (YtojpapeomahegaaDoorTie.lean); close each card by the builder's one call (the guide's Derived/Test/ToyasCard.lean, 'card_holds'). Laid BY PROGRAM, IN A SANDBOX (cutbox-door.mjs). By AI agents, Wed Nov 11 2026. No macro, syntax, notation, axiom, sorry.
-/
import Derived.Test.YtojpapeomahegaaDoorRows
import GoSem.ClaimSeven
namespace Go.Proofs.YtojpapeomahegaaDoor
namespace Rows

/-- THE TIED CARD OF 'letterbecklaw1.TurnSays'. -/
def turnSaysCard : Claim7 := { stood := { row := turnSaysRow, standIns := [], harness := (true, "02c92fa903d0ae9cdc8f617ba1cf389bb2ac858449ccc61fda9cf63fd0e34698"), looks := true }, kinds := [], alts := [], laidByText := true, laidKinds := [.handle], laidTests := true, laidLooks := .later }
def TurnSaysCardSaid : Prop := Claim7.holds Tryd.pinned (.plain (OpenSpec.ofChange turnSaysSpec)) turnSaysCard

/-- THE SECOND FORM's CARD OF 'letterbecklaw1.TurnSays'. -/
def turnSaysUptoCard : Claim7 := { stood := { row := turnSaysUptoRow, standIns := [], harness := (true, "02c92fa903d0ae9cdc8f617ba1cf389bb2ac858449ccc61fda9cf63fd0e34698"), looks := true }, kinds := [], alts := [], laidByText := true, laidKinds := [.handle], laidTests := true, laidLooks := .later }
def TurnSaysUptoCardSaid : Prop := Claim7.holds Tryd.pinned (.plain (OpenSpec.upto turnSaysSpec)) turnSaysUptoCard
end Rows
end Go.Proofs.YtojpapeomahegaaDoor
