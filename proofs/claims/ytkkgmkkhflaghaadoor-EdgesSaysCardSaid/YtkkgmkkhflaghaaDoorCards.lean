/-
  DERIVED. GIVEN WITH THE SEED: THE CARDS: each row of YtkkgmkkhflaghaaDoorRows.lean that lists a variable, with what it lists TIED to the program's text (the seventh form; the later family's looks); each row that meets fmt, with fmt's text TOLD by the authors' own Lean function (tested against real Go, not proved from fmt's source: count such statements apart). THE CARD IS WHAT COUNTS. Prove the row's statement (the work); the ties are given (YtkkgmkkhflaghaaDoorTie.lean); close each card by the builder's one call (the guide's Derived/Test/ToyasCard.lean, 'card_holds'). Laid BY PROGRAM, IN A SANDBOX (cutbox-door.mjs). By AI agents, Wed Nov 11 2026. No macro, syntax, notation, axiom, sorry.
-/
import Derived.Test.YtkkgmkkhflaghaaDoorRows
import GoSem.ClaimSeven
namespace Go.Proofs.YtkkgmkkhflaghaaDoor
namespace Rows

/-- THE TIED CARD OF 'letterbecklaw1.EdgesSays'. -/
def edgesSaysCard : Claim7 := { stood := { row := edgesSaysRow, standIns := [], harness := (true, "e0b156482b1bc10b62e408ee4ff56564345d96804ea34f86867ace85151cbce6"), looks := true }, kinds := [], alts := [], laidByText := true, laidKinds := [.handle], laidTests := true, laidLooks := .later }
def EdgesSaysCardSaid : Prop := Claim7.holds Tryd.pinned (.plain (OpenSpec.ofChange edgesSaysSpec)) edgesSaysCard

/-- THE SECOND FORM's CARD OF 'letterbecklaw1.EdgesSays'. -/
def edgesSaysUptoCard : Claim7 := { stood := { row := edgesSaysUptoRow, standIns := [], harness := (true, "e0b156482b1bc10b62e408ee4ff56564345d96804ea34f86867ace85151cbce6"), looks := true }, kinds := [], alts := [], laidByText := true, laidKinds := [.handle], laidTests := true, laidLooks := .later }
def EdgesSaysUptoCardSaid : Prop := Claim7.holds Tryd.pinned (.plain (OpenSpec.upto edgesSaysSpec)) edgesSaysUptoCard
end Rows
end Go.Proofs.YtkkgmkkhflaghaaDoor
