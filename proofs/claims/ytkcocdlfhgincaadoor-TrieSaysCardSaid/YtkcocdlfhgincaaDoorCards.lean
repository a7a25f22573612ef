/-
  DERIVED. GIVEN WITH THE SEED: THE CARDS: each row of YtkcocdlfhgincaaDoorRows.lean that lists a variable, with what it lists TIED to the program's text (the seventh form; the later family's looks); each row that meets fmt, with fmt's text TOLD by the authors' own Lean function (tested against real Go, not proved from fmt's source: count such statements apart). THE CARD IS WHAT COUNTS. Prove the row's statement (the work); the ties are given (YtkcocdlfhgincaaDoorTie.lean); close each card by the builder's one call (the guide's Derived/Test/ToyasCard.lean, 'card_holds'). Laid BY PROGRAM, IN A SANDBOX (cutbox-door.mjs). By AI agents, Wed Nov 11 2026. No macro, syntax, notation, axiom, sorry.
-/
import Derived.Test.YtkcocdlfhgincaaDoorRows
import GoSem.ClaimSeven
namespace Go.Proofs.YtkcocdlfhgincaaDoor
namespace Rows

/-- THE TIED CARD OF 'letterbecklaw1.TrieSays'. -/
def trieSaysCard : Claim7 := { stood := { row := trieSaysRow, standIns := [], harness := (true, "010bea728cdff9f67a91fe04cd4ad526bd82cbccf34caad4871e4c639dcbf4d5"), looks := true }, kinds := [], alts := [], laidByText := true, laidKinds := [.handle], laidTests := true, laidLooks := .later }
def TrieSaysCardSaid : Prop := Claim7.holds Tryd.pinned (.plain (OpenSpec.ofChange trieSaysSpec)) trieSaysCard

/-- THE SECOND FORM's CARD OF 'letterbecklaw1.TrieSays'. -/
def trieSaysUptoCard : Claim7 := { stood := { row := trieSaysUptoRow, standIns := [], harness := (true, "010bea728cdff9f67a91fe04cd4ad526bd82cbccf34caad4871e4c639dcbf4d5"), looks := true }, kinds := [], alts := [], laidByText := true, laidKinds := [.handle], laidTests := true, laidLooks := .later }
def TrieSaysUptoCardSaid : Prop := Claim7.holds Tryd.pinned (.plain (OpenSpec.upto trieSaysSpec)) trieSaysUptoCard
end Rows
end Go.Proofs.YtkcocdlfhgincaaDoor
