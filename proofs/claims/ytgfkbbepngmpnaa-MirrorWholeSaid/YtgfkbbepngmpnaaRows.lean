/-
  No cell of these rows narrows 'for every input' (looked for: loops, veiled, ifaces, maps, wideKeys, modest, calm, conditions, laid).
  DERIVED. THE GIVEN ROWS OF THIS SEAT. 4 by the template 'for every input the law returns true; each argument reads behind the call as it read before'; 0 by the template 'total and deterministic' (their statements: YtgfkbbepngmpnaaTotals.lean).
  GIVEN WITH THE SEED: the statements are not yours to turn. If you find one false, say at which input.
  Laid BY PROGRAM, IN A SANDBOX (cutbox-rows.mjs): the forced cells as the released guide's own fill.sh prints them over the translation e3f2220d285d5a09… (all of the seat's roots in one cut). By AI agents, Wed Nov 11 2026. No macro, syntax, notation, axiom, sorry.
-/
import Derived.Test.YtgfkbbepngmpnaaChecked
import GoSem.Claim
import GoSem.ClaimJoined
import GoSem.ClaimMapViews
import Derived.JoinedTies
import Derived.KernelRfl
namespace Go.Proofs.Ytgfkbbepngmpnaa
/- THE CELL 'sum', in the pinned program and in every row, IS THE sha256 OF THE DUMP (.gsa) THAT YtgfkbbepngmpnaaProg.lean LOADS. Nothing in Lean hashes anything: it is a label: what it is worth is what the hold of that sum in a sandbox is worth. -/
noncomputable def Try.pinned : Pinned := { name := "ytgfkbbepngmpnaa", sum := "e3f2220d285d5a0984301ebaaed457b9fd444db2c30485ce07b79c240e098df0", checked := Try.checked }
namespace Rows
def none {H : Type} : Left H := { results := [], args := [] }

/-- 'letterbecklaw1.MirrorBack': WHATEVER THE INPUT: true; the input reads as it did. -/
def mirrorBackSpec : ChangeSpec := { name := "mirrorBack", fn := fun _ => fun
  | [d] => { results := [.lit (.bool true)], args := [d] }
  | _ => none }
def mirrorBackRow : OpenClaim := { program := "ytgfkbbepngmpnaa", sum := "e3f2220d285d5a0984301ebaaed457b9fd444db2c30485ce07b79c240e098df0", func := "letterbeck/letterbecklaw1.MirrorBack", spec := "mirrorBack", apart := false }
def MirrorBackSaid : Prop := mirrorBackRow.holds Try.pinned (OpenSpec.ofChange mirrorBackSpec)

/-- ITS FALSE NEIGHBOUR: 'it returns false'. Refute it at one input. -/
def mirrorBackWrong : ChangeSpec := { name := "mirrorBack", fn := fun _ => fun
  | [d] => { results := [.lit (.bool false)], args := [d] }
  | _ => none }
def MirrorBackWrongFalsely : Prop := mirrorBackRow.holds Try.pinned (OpenSpec.ofChange mirrorBackWrong)

/-- 'letterbecklaw1.MirrorLongest': WHATEVER THE INPUT: true; the input reads as it did. -/
def mirrorLongestSpec : ChangeSpec := { name := "mirrorLongest", fn := fun _ => fun
  | [d1, d2, d3] => { results := [.lit (.bool true)], args := [d1, d2, d3] }
  | _ => none }
def mirrorLongestRow : OpenClaim := { program := "ytgfkbbepngmpnaa", sum := "e3f2220d285d5a0984301ebaaed457b9fd444db2c30485ce07b79c240e098df0", func := "letterbeck/letterbecklaw1.MirrorLongest", spec := "mirrorLongest", apart := false }
def MirrorLongestSaid : Prop := mirrorLongestRow.holds Try.pinned (OpenSpec.ofChange mirrorLongestSpec)

/-- ITS FALSE NEIGHBOUR: 'it returns false'. Refute it at one input. -/
def mirrorLongestWrong : ChangeSpec := { name := "mirrorLongest", fn := fun _ => fun
  | [d1, d2, d3] => { results := [.lit (.bool false)], args := [d1, d2, d3] }
  | _ => none }
def MirrorLongestWrongFalsely : Prop := mirrorLongestRow.holds Try.pinned (OpenSpec.ofChange mirrorLongestWrong)

/-- 'letterbecklaw1.MirrorWhole': WHATEVER THE INPUT: true; the input reads as it did. -/
def mirrorWholeSpec : ChangeSpec := { name := "mirrorWhole", fn := fun _ => fun
  | [d] => { results := [.lit (.bool true)], args := [d] }
  | _ => none }
def mirrorWholeRow : OpenClaim := { program := "ytgfkbbepngmpnaa", sum := "e3f2220d285d5a0984301ebaaed457b9fd444db2c30485ce07b79c240e098df0", func := "letterbeck/letterbecklaw1.MirrorWhole", spec := "mirrorWhole", apart := false }
def MirrorWholeSaid : Prop := mirrorWholeRow.holds Try.pinned (OpenSpec.ofChange mirrorWholeSpec)

/-- ITS FALSE NEIGHBOUR: 'it returns false'. Refute it at one input. -/
def mirrorWholeWrong : ChangeSpec := { name := "mirrorWhole", fn := fun _ => fun
  | [d] => { results := [.lit (.bool false)], args := [d] }
  | _ => none }
def MirrorWholeWrongFalsely : Prop := mirrorWholeRow.holds Try.pinned (OpenSpec.ofChange mirrorWholeWrong)

/-- 'letterbecklaw1.MirrorFew': WHATEVER THE INPUT: true; the input reads as it did. -/
def mirrorFewSpec : ChangeSpec := { name := "mirrorFew", fn := fun _ => fun
  | [d] => { results := [.lit (.bool true)], args := [d] }
  | _ => none }
def mirrorFewRow : OpenClaim := { program := "ytgfkbbepngmpnaa", sum := "e3f2220d285d5a0984301ebaaed457b9fd444db2c30485ce07b79c240e098df0", func := "letterbeck/letterbecklaw1.MirrorFew", spec := "mirrorFew", apart := false }
def MirrorFewSaid : Prop := mirrorFewRow.holds Try.pinned (OpenSpec.ofChange mirrorFewSpec)

/-- ITS FALSE NEIGHBOUR: 'it returns false'. Refute it at one input. -/
def mirrorFewWrong : ChangeSpec := { name := "mirrorFew", fn := fun _ => fun
  | [d] => { results := [.lit (.bool false)], args := [d] }
  | _ => none }
def MirrorFewWrongFalsely : Prop := mirrorFewRow.holds Try.pinned (OpenSpec.ofChange mirrorFewWrong)

/- THE SECOND FORM. 'bulk': how many values and letters a reading holds, each counted each time it is reached (what is shared counts as often as it is met; a slice's spare places count too). A statement '..UptoSaid' is the law's where the arguments, and the package variables that the reading takes, are together of bulk at most 1048576: NARROWER than '..Said'. Prove '..Said' where nothing that the law and all that it calls make is longer than what came in: it says more and counts as full. Else prove '..UptoSaid'. A law counts once. -/
mutual
def uptoBulk {H : Type} : DataW H → Nat
  | .lit (.string bytes) => bytes.length + 1
  | .lit _ => 1
  | .nil => 1
  | .ptr d => uptoBulk d + 1
  | .slice elems spare => uptoBulkAll elems + uptoBulkAll spare + 1
  | .agg parts => uptoBulkAll parts + 1
  | .iface _ d => uptoBulk d + 1
  | .map entries => uptoBulkEntries entries + 1
  | .held _ => 1
def uptoBulkAll {H : Type} : List (DataW H) → Nat
  | [] => 0
  | d :: r => uptoBulk d + uptoBulkAll r
def uptoBulkEntries {H : Type} : List (Lit × DataW H) → Nat
  | [] => 0
  | x :: r => uptoBulkEntry x + uptoBulkEntries r
def uptoBulkEntry {H : Type} : Lit × DataW H → Nat
  | (.string bytes, d) => bytes.length + uptoBulk d + 1
  | (_, d) => uptoBulk d + 1
 end
def uptoSmall : (H : Type) → List (DataW H) → Bool := fun _ ds => decide (uptoBulkAll ds ≤ 1048576)
def OpenSpec.upto (s : _root_.Go.ChangeSpec) : _root_.Go.OpenSpec := { _root_.Go.OpenSpec.ofChange s with cond := some uptoSmall }

/-- 'letterbecklaw1.MirrorBack', WHERE WHAT IT READS IS OF BULK AT MOST 1048576: true; the input reads as it did. -/
def mirrorBackUptoRow : OpenClaim := { program := "ytgfkbbepngmpnaa", sum := "e3f2220d285d5a0984301ebaaed457b9fd444db2c30485ce07b79c240e098df0", func := "letterbeck/letterbecklaw1.MirrorBack", spec := "mirrorBack", apart := false, narrowed := true }
def MirrorBackUptoSaid : Prop := mirrorBackUptoRow.holds Try.pinned (OpenSpec.upto mirrorBackSpec)

/-- 'letterbecklaw1.MirrorLongest', WHERE WHAT IT READS IS OF BULK AT MOST 1048576: true; the input reads as it did. -/
def mirrorLongestUptoRow : OpenClaim := { program := "ytgfkbbepngmpnaa", sum := "e3f2220d285d5a0984301ebaaed457b9fd444db2c30485ce07b79c240e098df0", func := "letterbeck/letterbecklaw1.MirrorLongest", spec := "mirrorLongest", apart := false, narrowed := true }
def MirrorLongestUptoSaid : Prop := mirrorLongestUptoRow.holds Try.pinned (OpenSpec.upto mirrorLongestSpec)

/-- 'letterbecklaw1.MirrorWhole', WHERE WHAT IT READS IS OF BULK AT MOST 1048576: true; the input reads as it did. -/
def mirrorWholeUptoRow : OpenClaim := { program := "ytgfkbbepngmpnaa", sum := "e3f2220d285d5a0984301ebaaed457b9fd444db2c30485ce07b79c240e098df0", func := "letterbeck/letterbecklaw1.MirrorWhole", spec := "mirrorWhole", apart := false, narrowed := true }
def MirrorWholeUptoSaid : Prop := mirrorWholeUptoRow.holds Try.pinned (OpenSpec.upto mirrorWholeSpec)

/-- 'letterbecklaw1.MirrorFew', WHERE WHAT IT READS IS OF BULK AT MOST 1048576: true; the input reads as it did. -/
def mirrorFewUptoRow : OpenClaim := { program := "ytgfkbbepngmpnaa", sum := "e3f2220d285d5a0984301ebaaed457b9fd444db2c30485ce07b79c240e098df0", func := "letterbeck/letterbecklaw1.MirrorFew", spec := "mirrorFew", apart := false, narrowed := true }
def MirrorFewUptoSaid : Prop := mirrorFewUptoRow.holds Try.pinned (OpenSpec.upto mirrorFewSpec)

end Rows
end Go.Proofs.Ytgfkbbepngmpnaa
