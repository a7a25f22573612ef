/-
  DERIVED. GIVEN WITH THE SEED: THE CARDS: each row of YtgfkbbepngmpnaaDoorRows.lean that lists a variable, with what it lists TIED to the program's text (the seventh form; the later family's looks); each row that meets fmt, with fmt's text TOLD by the authors' own Lean function (tested against real Go, not proved from fmt's source: count such statements apart). THE CARD IS WHAT COUNTS. Prove the row's statement (the work); the ties are given (YtgfkbbepngmpnaaDoorTie.lean); close each card by the builder's one call (the guide's Derived/Test/ToyasCard.lean, 'card_holds'). Laid BY PROGRAM, IN A SANDBOX (cutbox-door.mjs). By AI agents, Wed Nov 11 2026. No macro, syntax, notation, axiom, sorry.
-/
import Derived.Test.YtgfkbbepngmpnaaDoorRows
import GoSem.ClaimSeven
namespace Go.Proofs.YtgfkbbepngmpnaaDoor
namespace Rows

/-- THE TIED CARD OF 'letterbecklaw1.MirrorSays'. -/
def mirrorSaysCard : Claim7 := { stood := { row := mirrorSaysRow, standIns := [], harness := (true, "2e07ddd4087c42fc0c7d64d14d78e2bd1a4ce4dd2517b8978ce092c287621c97"), looks := true }, kinds := [], alts := [], laidByText := true, laidKinds := [.handle], laidTests := true, laidLooks := .later }
def MirrorSaysCardSaid : Prop := Claim7.holds Tryd.pinned (.plain (OpenSpec.ofChange mirrorSaysSpec)) mirrorSaysCard

/-- THE SECOND FORM's CARD OF 'letterbecklaw1.MirrorSays'. -/
def mirrorSaysUptoCard : Claim7 := { stood := { row := mirrorSaysUptoRow, standIns := [], harness := (true, "2e07ddd4087c42fc0c7d64d14d78e2bd1a4ce4dd2517b8978ce092c287621c97"), looks := true }, kinds := [], alts := [], laidByText := true, laidKinds := [.handle], laidTests := true, laidLooks := .later }
def MirrorSaysUptoCardSaid : Prop := Claim7.holds Tryd.pinned (.plain (OpenSpec.upto mirrorSaysSpec)) mirrorSaysUptoCard
end Rows
end Go.Proofs.YtgfkbbepngmpnaaDoor
