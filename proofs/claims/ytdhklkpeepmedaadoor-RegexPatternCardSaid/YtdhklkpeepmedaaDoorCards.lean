/-
  DERIVED. GIVEN WITH THE SEED: THE CARDS: each row of YtdhklkpeepmedaaDoorRows.lean that lists a variable, with what it lists TIED to the program's text (the seventh form; the later family's looks); each row that meets fmt, with fmt's text TOLD by the authors' own Lean function (tested against real Go, not proved from fmt's source: count such statements apart). THE CARD IS WHAT COUNTS. Prove the row's statement (the work); the ties are given (YtdhklkpeepmedaaDoorTie.lean); close each card by the builder's one call (the guide's Derived/Test/ToyasCard.lean, 'card_holds'). Laid BY PROGRAM, IN A SANDBOX (cutbox-door.mjs). By AI agents, Wed Nov 11 2026. No macro, syntax, notation, axiom, sorry.
-/
import Derived.Test.YtdhklkpeepmedaaDoorRows
import GoSem.ClaimSeven
namespace Go.Proofs.YtdhklkpeepmedaaDoor
namespace Rows

/-- THE TIED CARD OF 'letterbecklaw3.RegexSays'. -/
def regexSaysCard : Claim7 := { stood := { row := regexSaysRow, standIns := [], harness := (true, "aad895497621b5e6c84065b9b59c2b90689d8c3a549b9d7bc1de0a94be70d3b2"), looks := true }, kinds := [], alts := [], laidByText := true, laidKinds := [.handle], laidTests := true, laidLooks := .later }
def RegexSaysCardSaid : Prop := Claim7.holds Tryd.pinned (.plain (OpenSpec.ofChange regexSaysSpec)) regexSaysCard

/-- THE TIED CARD OF 'letterbecklaw3.RegexNull'. -/
def regexNullCard : Claim7 := { stood := { row := regexNullRow, standIns := [], harness := (true, "aad895497621b5e6c84065b9b59c2b90689d8c3a549b9d7bc1de0a94be70d3b2"), looks := true }, kinds := [], alts := [], laidByText := true, laidKinds := [.handle], laidTests := true, laidLooks := .later }
def RegexNullCardSaid : Prop := Claim7.holds Tryd.pinned (.plain (OpenSpec.ofChange regexNullSpec)) regexNullCard

/-- THE TIED CARD OF 'letterbecklaw3.RegexPattern'. -/
def regexPatternCard : Claim7 := { stood := { row := regexPatternRow, standIns := [], harness := (true, "aad895497621b5e6c84065b9b59c2b90689d8c3a549b9d7bc1de0a94be70d3b2"), looks := true }, kinds := [], alts := [], laidByText := true, laidKinds := [.handle], laidTests := true, laidLooks := .later }
def RegexPatternCardSaid : Prop := Claim7.holds Tryd.pinned (.plain (OpenSpec.ofChange regexPatternSpec)) regexPatternCard

/-- THE TIED CARD OF 'letterbecklaw3.RegexLetters'. -/
def regexLettersCard : Claim7 := { stood := { row := regexLettersRow, standIns := [], harness := (true, "aad895497621b5e6c84065b9b59c2b90689d8c3a549b9d7bc1de0a94be70d3b2"), looks := true }, kinds := [], alts := [], laidByText := true, laidKinds := [.handle], laidTests := true, laidLooks := .later }
def RegexLettersCardSaid : Prop := Claim7.holds Tryd.pinned (.plain (OpenSpec.ofChange regexLettersSpec)) regexLettersCard

/-- THE SECOND FORM's CARD OF 'letterbecklaw3.RegexSays'. -/
def regexSaysUptoCard : Claim7 := { stood := { row := regexSaysUptoRow, standIns := [], harness := (true, "aad895497621b5e6c84065b9b59c2b90689d8c3a549b9d7bc1de0a94be70d3b2"), looks := true }, kinds := [], alts := [], laidByText := true, laidKinds := [.handle], laidTests := true, laidLooks := .later }
def RegexSaysUptoCardSaid : Prop := Claim7.holds Tryd.pinned (.plain (OpenSpec.upto regexSaysSpec)) regexSaysUptoCard

/-- THE SECOND FORM's CARD OF 'letterbecklaw3.RegexNull'. -/
def regexNullUptoCard : Claim7 := { stood := { row := regexNullUptoRow, standIns := [], harness := (true, "aad895497621b5e6c84065b9b59c2b90689d8c3a549b9d7bc1de0a94be70d3b2"), looks := true }, kinds := [], alts := [], laidByText := true, laidKinds := [.handle], laidTests := true, laidLooks := .later }
def RegexNullUptoCardSaid : Prop := Claim7.holds Tryd.pinned (.plain (OpenSpec.upto regexNullSpec)) regexNullUptoCard

/-- THE SECOND FORM's CARD OF 'letterbecklaw3.RegexPattern'. -/
def regexPatternUptoCard : Claim7 := { stood := { row := regexPatternUptoRow, standIns := [], harness := (true, "aad895497621b5e6c84065b9b59c2b90689d8c3a549b9d7bc1de0a94be70d3b2"), looks := true }, kinds := [], alts := [], laidByText := true, laidKinds := [.handle], laidTests := true, laidLooks := .later }
def RegexPatternUptoCardSaid : Prop := Claim7.holds Tryd.pinned (.plain (OpenSpec.upto regexPatternSpec)) regexPatternUptoCard

/-- THE SECOND FORM's CARD OF 'letterbecklaw3.RegexLetters'. -/
def regexLettersUptoCard : Claim7 := { stood := { row := regexLettersUptoRow, standIns := [], harness := (true, "aad895497621b5e6c84065b9b59c2b90689d8c3a549b9d7bc1de0a94be70d3b2"), looks := true }, kinds := [], alts := [], laidByText := true, laidKinds := [.handle], laidTests := true, laidLooks := .later }
def RegexLettersUptoCardSaid : Prop := Claim7.holds Tryd.pinned (.plain (OpenSpec.upto regexLettersSpec)) regexLettersUptoCard
end Rows
end Go.Proofs.YtdhklkpeepmedaaDoor
