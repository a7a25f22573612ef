/-
  No cell of these rows narrows 'for every input' (looked for: loops, veiled, ifaces, maps, wideKeys, modest, calm, conditions, laid).
  DERIVED. THE GIVEN ROWS OF THIS SEAT. 3 by the template 'for every input the law returns true; each argument reads behind the call as it read before'; 0 by the template 'total and deterministic' (their statements: YtllgmmdpbnfgjaaTotals.lean).
  GIVEN WITH THE SEED: the statements are not yours to turn. If you find one false, say at which input.
  Laid BY PROGRAM, IN A SANDBOX (cutbox-rows.mjs): the forced cells as the released guide's own fill.sh prints them over the translation 1cf027773905a0c8… (all of the seat's roots in one cut). By AI agents, Wed Nov 11 2026. No macro, syntax, notation, axiom, sorry.
-/
import Derived.Test.YtllgmmdpbnfgjaaChecked
import GoSem.Claim
import GoSem.ClaimJoined
import GoSem.ClaimMapViews
import Derived.JoinedTies
import Derived.KernelRfl
namespace Go.Proofs.Ytllgmmdpbnfgjaa
/- THE CELL 'sum', in the pinned program and in every row, IS THE sha256 OF THE DUMP (.gsa) THAT YtllgmmdpbnfgjaaProg.lean LOADS. Nothing in Lean hashes anything: it is a label: what it is worth is what the hold of that sum in a sandbox is worth. -/
noncomputable def Try.pinned : Pinned := { name := "ytllgmmdpbnfgjaa", sum := "1cf027773905a0c8cee60e9ce7271ebd5968ae964d493bf921338212bb3c2257", checked := Try.checked }
namespace Rows
def none {H : Type} : Left H := { results := [], args := [] }

/-- 'letterbecklaw1.SkipFinds': WHATEVER THE INPUT: true; the input reads as it did. -/
def skipFindsSpec : ChangeSpec := { name := "skipFinds", fn := fun _ => fun
  | [d1, d2] => { results := [.lit (.bool true)], args := [d1, d2] }
  | _ => none }
def skipFindsRow : OpenClaim := { program := "ytllgmmdpbnfgjaa", sum := "1cf027773905a0c8cee60e9ce7271ebd5968ae964d493bf921338212bb3c2257", func := "letterbeck/letterbecklaw1.SkipFinds", spec := "skipFinds", unfollowed := true, recurses := true, apart := false }
def SkipFindsSaid : Prop := skipFindsRow.holds Try.pinned (OpenSpec.ofChange skipFindsSpec)

/-- ITS FALSE NEIGHBOUR: 'it returns false'. Refute it at one input. -/
def skipFindsWrong : ChangeSpec := { name := "skipFinds", fn := fun _ => fun
  | [d1, d2] => { results := [.lit (.bool false)], args := [d1, d2] }
  | _ => none }
def SkipFindsWrongFalsely : Prop := skipFindsRow.holds Try.pinned (OpenSpec.ofChange skipFindsWrong)

/-- 'letterbecklaw1.SkipTimes': WHATEVER THE INPUT: true; the input reads as it did. -/
def skipTimesSpec : ChangeSpec := { name := "skipTimes", fn := fun _ => fun
  | [d1, d2] => { results := [.lit (.bool true)], args := [d1, d2] }
  | _ => none }
def skipTimesRow : OpenClaim := { program := "ytllgmmdpbnfgjaa", sum := "1cf027773905a0c8cee60e9ce7271ebd5968ae964d493bf921338212bb3c2257", func := "letterbeck/letterbecklaw1.SkipTimes", spec := "skipTimes", unfollowed := true, recurses := true, apart := false }
def SkipTimesSaid : Prop := skipTimesRow.holds Try.pinned (OpenSpec.ofChange skipTimesSpec)

/-- ITS FALSE NEIGHBOUR: 'it returns false'. Refute it at one input. -/
def skipTimesWrong : ChangeSpec := { name := "skipTimes", fn := fun _ => fun
  | [d1, d2] => { results := [.lit (.bool false)], args := [d1, d2] }
  | _ => none }
def SkipTimesWrongFalsely : Prop := skipTimesRow.holds Try.pinned (OpenSpec.ofChange skipTimesWrong)

/-- 'letterbecklaw1.SkipLeap': WHATEVER THE INPUT: true; the input reads as it did. -/
def skipLeapSpec : ChangeSpec := { name := "skipLeap", fn := fun _ => fun
  | [d1, d2] => { results := [.lit (.bool true)], args := [d1, d2] }
  | _ => none }
def skipLeapRow : OpenClaim := { program := "ytllgmmdpbnfgjaa", sum := "1cf027773905a0c8cee60e9ce7271ebd5968ae964d493bf921338212bb3c2257", func := "letterbeck/letterbecklaw1.SkipLeap", spec := "skipLeap", unfollowed := true, recurses := true, apart := false }
def SkipLeapSaid : Prop := skipLeapRow.holds Try.pinned (OpenSpec.ofChange skipLeapSpec)

/-- ITS FALSE NEIGHBOUR: 'it returns false'. Refute it at one input. -/
def skipLeapWrong : ChangeSpec := { name := "skipLeap", fn := fun _ => fun
  | [d1, d2] => { results := [.lit (.bool false)], args := [d1, d2] }
  | _ => none }
def SkipLeapWrongFalsely : Prop := skipLeapRow.holds Try.pinned (OpenSpec.ofChange skipLeapWrong)

/- THE SECOND FORM. 'bulk': how many values and letters a reading holds, each counted each time it is reached (what is shared counts as often as it is met; a slice's spare places count too). A statement '..UptoSaid' is the law's where the arguments, and the package variables that the reading takes, are together of bulk at most 1048576: NARROWER than '..Said'. Prove '..Said' where nothing that the law and all that it calls make is longer than what came in: it says more and counts as full. Else prove '..UptoSaid'. A law counts once. -/
mutual
def uptoBulk {H : Type} : DataW H → Nat
  | .lit (.string bytes) => bytes.length + 1
  | .lit _ => 1
  | .nil => 1
  | .ptr d => uptoBulk d + 1
  | .slice elems spare => uptoBulkAll elems + uptoBulkAll spare + 1
  | .agg parts => uptoBulkAll parts + 1
  | .iface _ d => uptoBulk d + 1
  | .map entries => uptoBulkEntries entries + 1
  | .held _ => 1
def uptoBulkAll {H : Type} : List (DataW H) → Nat
  | [] => 0
  | d :: r => uptoBulk d + uptoBulkAll r
def uptoBulkEntries {H : Type} : List (Lit × DataW H) → Nat
  | [] => 0
  | x :: r => uptoBulkEntry x + uptoBulkEntries r
def uptoBulkEntry {H : Type} : Lit × DataW H → Nat
  | (.string bytes, d) => bytes.length + uptoBulk d + 1
  | (_, d) => uptoBulk d + 1
 end
def uptoSmall : (H : Type) → List (DataW H) → Bool := fun _ ds => decide (uptoBulkAll ds ≤ 1048576)
def OpenSpec.upto (s : _root_.Go.ChangeSpec) : _root_.Go.OpenSpec := { _root_.Go.OpenSpec.ofChange s with cond := some uptoSmall }

/-- 'letterbecklaw1.SkipFinds', WHERE WHAT IT READS IS OF BULK AT MOST 1048576: true; the input reads as it did. -/
def skipFindsUptoRow : OpenClaim := { program := "ytllgmmdpbnfgjaa", sum := "1cf027773905a0c8cee60e9ce7271ebd5968ae964d493bf921338212bb3c2257", func := "letterbeck/letterbecklaw1.SkipFinds", spec := "skipFinds", unfollowed := true, recurses := true, apart := false, narrowed := true }
def SkipFindsUptoSaid : Prop := skipFindsUptoRow.holds Try.pinned (OpenSpec.upto skipFindsSpec)

/-- 'letterbecklaw1.SkipTimes', WHERE WHAT IT READS IS OF BULK AT MOST 1048576: true; the input reads as it did. -/
def skipTimesUptoRow : OpenClaim := { program := "ytllgmmdpbnfgjaa", sum := "1cf027773905a0c8cee60e9ce7271ebd5968ae964d493bf921338212bb3c2257", func := "letterbeck/letterbecklaw1.SkipTimes", spec := "skipTimes", unfollowed := true, recurses := true, apart := false, narrowed := true }
def SkipTimesUptoSaid : Prop := skipTimesUptoRow.holds Try.pinned (OpenSpec.upto skipTimesSpec)

/-- 'letterbecklaw1.SkipLeap', WHERE WHAT IT READS IS OF BULK AT MOST 1048576: true; the input reads as it did. -/
def skipLeapUptoRow : OpenClaim := { program := "ytllgmmdpbnfgjaa", sum := "1cf027773905a0c8cee60e9ce7271ebd5968ae964d493bf921338212bb3c2257", func := "letterbeck/letterbecklaw1.SkipLeap", spec := "skipLeap", unfollowed := true, recurses := true, apart := false, narrowed := true }
def SkipLeapUptoSaid : Prop := skipLeapUptoRow.holds Try.pinned (OpenSpec.upto skipLeapSpec)

end Rows
end Go.Proofs.Ytllgmmdpbnfgjaa
