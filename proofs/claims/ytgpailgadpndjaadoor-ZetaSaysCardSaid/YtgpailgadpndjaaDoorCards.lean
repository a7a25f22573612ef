/-
  DERIVED. GIVEN WITH THE SEED: THE CARDS: each row of YtgpailgadpndjaaDoorRows.lean that lists a variable, with what it lists TIED to the program's text (the seventh form; the later family's looks); each row that meets fmt, with fmt's text TOLD by the authors' own Lean function (tested against real Go, not proved from fmt's source: count such statements apart). THE CARD IS WHAT COUNTS. Prove the row's statement (the work); the ties are given (YtgpailgadpndjaaDoorTie.lean); close each card by the builder's one call (the guide's Derived/Test/ToyasCard.lean, 'card_holds'). Laid BY PROGRAM, IN A SANDBOX (cutbox-door.mjs). By AI agents, Wed Nov 11 2026. No macro, syntax, notation, axiom, sorry.
-/
import Derived.Test.YtgpailgadpndjaaDoorRows
import GoSem.ClaimSeven
namespace Go.Proofs.YtgpailgadpndjaaDoor
namespace Rows

/-- THE TIED CARD OF 'letterbecklaw1.ZetaSays'. -/
def zetaSaysCard : Claim7 := { stood := { row := zetaSaysRow, standIns := [], harness := (true, "6efbe4da11718e409c2f17298082106e6a9b7f15518b99c1a4275d5cc8604c42"), looks := true }, kinds := [], alts := [], laidByText := true, laidKinds := [.handle], laidTests := true, laidLooks := .later }
def ZetaSaysCardSaid : Prop := Claim7.holds Tryd.pinned (.plain (OpenSpec.ofChange zetaSaysSpec)) zetaSaysCard

/-- THE SECOND FORM's CARD OF 'letterbecklaw1.ZetaSays'. -/
def zetaSaysUptoCard : Claim7 := { stood := { row := zetaSaysUptoRow, standIns := [], harness := (true, "6efbe4da11718e409c2f17298082106e6a9b7f15518b99c1a4275d5cc8604c42"), looks := true }, kinds := [], alts := [], laidByText := true, laidKinds := [.handle], laidTests := true, laidLooks := .later }
def ZetaSaysUptoCardSaid : Prop := Claim7.holds Tryd.pinned (.plain (OpenSpec.upto zetaSaysSpec)) zetaSaysUptoCard
end Rows
end Go.Proofs.YtgpailgadpndjaaDoor
