/-
  DERIVED. GIVEN WITH THE SEED: THE CARDS: each row of YtlklhgapnenekaaDoorRows.lean that lists a variable, with what it lists TIED to the program's text (the seventh form; the later family's looks); each row that meets fmt, with fmt's text TOLD by the authors' own Lean function (tested against real Go, not proved from fmt's source: count such statements apart). THE CARD IS WHAT COUNTS. Prove the row's statement (the work); the ties are given (YtlklhgapnenekaaDoorTie.lean); close each card by the builder's one call (the guide's Derived/Test/ToyasCard.lean, 'card_holds'). Laid BY PROGRAM, IN A SANDBOX (cutbox-door.mjs). By AI agents, Wed Nov 11 2026. No macro, syntax, notation, axiom, sorry.
-/
import Derived.Test.YtlklhgapnenekaaDoorRows
import GoSem.ClaimSeven
namespace Go.Proofs.YtlklhgapnenekaaDoor
namespace Rows

/-- THE TIED CARD OF 'letterbecklaw1.PeriodSays'. -/
def periodSaysCard : Claim7 := { stood := { row := periodSaysRow, standIns := [], harness := (true, "a8944a13bd024f88a57f4a3dc35a82f9c87ae655a7df4577ac4672d7cac3d0e6"), looks := true }, kinds := [], alts := [], laidByText := true, laidKinds := [.handle], laidTests := true, laidLooks := .later }
def PeriodSaysCardSaid : Prop := Claim7.holds Tryd.pinned (.plain (OpenSpec.ofChange periodSaysSpec)) periodSaysCard

/-- THE SECOND FORM's CARD OF 'letterbecklaw1.PeriodSays'. -/
def periodSaysUptoCard : Claim7 := { stood := { row := periodSaysUptoRow, standIns := [], harness := (true, "a8944a13bd024f88a57f4a3dc35a82f9c87ae655a7df4577ac4672d7cac3d0e6"), looks := true }, kinds := [], alts := [], laidByText := true, laidKinds := [.handle], laidTests := true, laidLooks := .later }
def PeriodSaysUptoCardSaid : Prop := Claim7.holds Tryd.pinned (.plain (OpenSpec.upto periodSaysSpec)) periodSaysUptoCard
end Rows
end Go.Proofs.YtlklhgapnenekaaDoor
