/-
  DERIVED. GIVEN WITH THE SEED: THE CARDS: each row of YtllgmmdpbnfgjaaDoorRows.lean that lists a variable, with what it lists TIED to the program's text (the seventh form; the later family's looks); each row that meets fmt, with fmt's text TOLD by the authors' own Lean function (tested against real Go, not proved from fmt's source: count such statements apart). THE CARD IS WHAT COUNTS. Prove the row's statement (the work); the ties are given (YtllgmmdpbnfgjaaDoorTie.lean); close each card by the builder's one call (the guide's Derived/Test/ToyasCard.lean, 'card_holds'). Laid BY PROGRAM, IN A SANDBOX (cutbox-door.mjs). By AI agents, Wed Nov 11 2026. No macro, syntax, notation, axiom, sorry.
-/
import Derived.Test.YtllgmmdpbnfgjaaDoorRows
import GoSem.ClaimSeven
namespace Go.Proofs.YtllgmmdpbnfgjaaDoor
namespace Rows

/-- THE TIED CARD OF 'letterbecklaw1.SkipSays'. -/
def skipSaysCard : Claim7 := { stood := { row := skipSaysRow, standIns := [], harness := (true, "2fc4d6fe234f3365d11775d58179bd13326ac56499b9edabb996407dcf19458d"), looks := true }, kinds := [], alts := [], laidByText := true, laidKinds := [.handle], laidTests := true, laidLooks := .later }
def SkipSaysCardSaid : Prop := Claim7.holds Tryd.pinned (.plain (OpenSpec.ofChange skipSaysSpec)) skipSaysCard

/-- THE SECOND FORM's CARD OF 'letterbecklaw1.SkipSays'. -/
def skipSaysUptoCard : Claim7 := { stood := { row := skipSaysUptoRow, standIns := [], harness := (true, "2fc4d6fe234f3365d11775d58179bd13326ac56499b9edabb996407dcf19458d"), looks := true }, kinds := [], alts := [], laidByText := true, laidKinds := [.handle], laidTests := true, laidLooks := .later }
def SkipSaysUptoCardSaid : Prop := Claim7.holds Tryd.pinned (.plain (OpenSpec.upto skipSaysSpec)) skipSaysUptoCard
end Rows
end Go.Proofs.YtllgmmdpbnfgjaaDoor
