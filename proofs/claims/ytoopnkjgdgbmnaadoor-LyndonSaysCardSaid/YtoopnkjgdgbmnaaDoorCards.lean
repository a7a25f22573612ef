/-
  DERIVED. GIVEN WITH THE SEED: THE CARDS: each row of YtoopnkjgdgbmnaaDoorRows.lean that lists a variable, with what it lists TIED to the program's text (the seventh form; the later family's looks); each row that meets fmt, with fmt's text TOLD by the authors' own Lean function (tested against real Go, not proved from fmt's source: count such statements apart). THE CARD IS WHAT COUNTS. Prove the row's statement (the work); the ties are given (YtoopnkjgdgbmnaaDoorTie.lean); close each card by the builder's one call (the guide's Derived/Test/ToyasCard.lean, 'card_holds'). Laid BY PROGRAM, IN A SANDBOX (cutbox-door.mjs). By AI agents, Wed Nov 11 2026. No macro, syntax, notation, axiom, sorry.
-/
import Derived.Test.YtoopnkjgdgbmnaaDoorRows
import GoSem.ClaimSeven
namespace Go.Proofs.YtoopnkjgdgbmnaaDoor
namespace Rows

/-- THE TIED CARD OF 'letterbecklaw1.LyndonSays'. -/
def lyndonSaysCard : Claim7 := { stood := { row := lyndonSaysRow, standIns := [], harness := (true, "c4771c0f98b929195ccfe6cd6d5ac5ee88f1d8b0846d1232e798d7f84a67f6c7"), looks := true }, kinds := [], alts := [], laidByText := true, laidKinds := [.handle], laidTests := true, laidLooks := .later }
def LyndonSaysCardSaid : Prop := Claim7.holds Tryd.pinned (.plain (OpenSpec.ofChange lyndonSaysSpec)) lyndonSaysCard

/-- THE SECOND FORM's CARD OF 'letterbecklaw1.LyndonSays'. -/
def lyndonSaysUptoCard : Claim7 := { stood := { row := lyndonSaysUptoRow, standIns := [], harness := (true, "c4771c0f98b929195ccfe6cd6d5ac5ee88f1d8b0846d1232e798d7f84a67f6c7"), looks := true }, kinds := [], alts := [], laidByText := true, laidKinds := [.handle], laidTests := true, laidLooks := .later }
def LyndonSaysUptoCardSaid : Prop := Claim7.holds Tryd.pinned (.plain (OpenSpec.upto lyndonSaysSpec)) lyndonSaysUptoCard
end Rows
end Go.Proofs.YtoopnkjgdgbmnaaDoor
