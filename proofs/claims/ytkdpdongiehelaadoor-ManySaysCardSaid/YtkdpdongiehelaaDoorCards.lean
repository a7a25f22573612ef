/-
  DERIVED. GIVEN WITH THE SEED: THE CARDS: each row of YtkdpdongiehelaaDoorRows.lean that lists a variable, with what it lists TIED to the program's text (the seventh form; the later family's looks); each row that meets fmt, with fmt's text TOLD by the authors' own Lean function (tested against real Go, not proved from fmt's source: count such statements apart). THE CARD IS WHAT COUNTS. Prove the row's statement (the work); the ties are given (YtkdpdongiehelaaDoorTie.lean); close each card by the builder's one call (the guide's Derived/Test/ToyasCard.lean, 'card_holds'). Laid BY PROGRAM, IN A SANDBOX (cutbox-door.mjs). By AI agents, Wed Nov 11 2026. No macro, syntax, notation, axiom, sorry.
-/
import Derived.Test.YtkdpdongiehelaaDoorRows
import GoSem.ClaimSeven
namespace Go.Proofs.YtkdpdongiehelaaDoor
namespace Rows

/-- THE TIED CARD OF 'letterbecklaw1.ManySays'. -/
def manySaysCard : Claim7 := { stood := { row := manySaysRow, standIns := [], harness := (true, "1a77d9049ed7fee5a67c6c246f6c7c6980991e23cc835bec5d866ebf1a698693"), looks := true }, kinds := [], alts := [], laidByText := true, laidKinds := [.handle], laidTests := true, laidLooks := .later }
def ManySaysCardSaid : Prop := Claim7.holds Tryd.pinned (.plain (OpenSpec.ofChange manySaysSpec)) manySaysCard

/-- THE SECOND FORM's CARD OF 'letterbecklaw1.ManySays'. -/
def manySaysUptoCard : Claim7 := { stood := { row := manySaysUptoRow, standIns := [], harness := (true, "1a77d9049ed7fee5a67c6c246f6c7c6980991e23cc835bec5d866ebf1a698693"), looks := true }, kinds := [], alts := [], laidByText := true, laidKinds := [.handle], laidTests := true, laidLooks := .later }
def ManySaysUptoCardSaid : Prop := Claim7.holds Tryd.pinned (.plain (OpenSpec.upto manySaysSpec)) manySaysUptoCard
end Rows
end Go.Proofs.YtkdpdongiehelaaDoor
