/-
  No cell of these rows narrows 'for every input' (looked for: loops, veiled, ifaces, maps, wideKeys, modest, calm, conditions, laid).
  DERIVED. THE GIVEN ROWS OF THIS SEAT. 4 by the template 'for every input the law returns true; each argument reads behind the call as it read before'; 0 by the template 'total and deterministic' (their statements: YtdlekgockdahfaaTotals.lean).
  GIVEN WITH THE SEED: the statements are not yours to turn. If you find one false, say at which input.
  Laid BY PROGRAM, IN A SANDBOX (cutbox-rows.mjs): the forced cells as the released guide's own fill.sh prints them over the translation 349b14439e006d12… (all of the seat's roots in one cut). By AI agents, Wed Nov 11 2026. No macro, syntax, notation, axiom, sorry.
-/
import Derived.Test.YtdlekgockdahfaaChecked
import GoSem.Claim
import GoSem.ClaimJoined
import GoSem.ClaimMapViews
import Derived.JoinedTies
import Derived.KernelRfl
namespace Go.Proofs.Ytdlekgockdahfaa
/- THE CELL 'sum', in the pinned program and in every row, IS THE sha256 OF THE DUMP (.gsa) THAT YtdlekgockdahfaaProg.lean LOADS. Nothing in Lean hashes anything: it is a label: what it is worth is what the hold of that sum in a sandbox is worth. -/
noncomputable def Try.pinned : Pinned := { name := "ytdlekgockdahfaa", sum := "349b14439e006d12fd6c0dc70447dbfd542af06188ec8967359bb96121424d74", checked := Try.checked }
namespace Rows
def none {H : Type} : Left H := { results := [], args := [] }

/-- 'letterbecklaw1.FindNear': WHATEVER THE INPUT: true; the input reads as it did. -/
def findNearSpec : ChangeSpec := { name := "findNear", fn := fun _ => fun
  | [d1, d2] => { results := [.lit (.bool true)], args := [d1, d2] }
  | _ => none }
def findNearRow : OpenClaim := { program := "ytdlekgockdahfaa", sum := "349b14439e006d12fd6c0dc70447dbfd542af06188ec8967359bb96121424d74", func := "letterbeck/letterbecklaw1.FindNear", spec := "findNear", apart := false }
def FindNearSaid : Prop := findNearRow.holds Try.pinned (OpenSpec.ofChange findNearSpec)

/-- ITS FALSE NEIGHBOUR: 'it returns false'. Refute it at one input. -/
def findNearWrong : ChangeSpec := { name := "findNear", fn := fun _ => fun
  | [d1, d2] => { results := [.lit (.bool false)], args := [d1, d2] }
  | _ => none }
def FindNearWrongFalsely : Prop := findNearRow.holds Try.pinned (OpenSpec.ofChange findNearWrong)

/-- 'letterbecklaw1.FindParts': WHATEVER THE INPUT: true; the input reads as it did. -/
def findPartsSpec : ChangeSpec := { name := "findParts", fn := fun _ => fun
  | [d1, d2, d3] => { results := [.lit (.bool true)], args := [d1, d2, d3] }
  | _ => none }
def findPartsRow : OpenClaim := { program := "ytdlekgockdahfaa", sum := "349b14439e006d12fd6c0dc70447dbfd542af06188ec8967359bb96121424d74", func := "letterbeck/letterbecklaw1.FindParts", spec := "findParts", apart := false }
def FindPartsSaid : Prop := findPartsRow.holds Try.pinned (OpenSpec.ofChange findPartsSpec)

/-- ITS FALSE NEIGHBOUR: 'it returns false'. Refute it at one input. -/
def findPartsWrong : ChangeSpec := { name := "findParts", fn := fun _ => fun
  | [d1, d2, d3] => { results := [.lit (.bool false)], args := [d1, d2, d3] }
  | _ => none }
def FindPartsWrongFalsely : Prop := findPartsRow.holds Try.pinned (OpenSpec.ofChange findPartsWrong)

/-- 'letterbecklaw1.FindOne': WHATEVER THE INPUT: true; the input reads as it did. -/
def findOneSpec : ChangeSpec := { name := "findOne", fn := fun _ => fun
  | [d1, d2] => { results := [.lit (.bool true)], args := [d1, d2] }
  | _ => none }
def findOneRow : OpenClaim := { program := "ytdlekgockdahfaa", sum := "349b14439e006d12fd6c0dc70447dbfd542af06188ec8967359bb96121424d74", func := "letterbeck/letterbecklaw1.FindOne", spec := "findOne", apart := false }
def FindOneSaid : Prop := findOneRow.holds Try.pinned (OpenSpec.ofChange findOneSpec)

/-- ITS FALSE NEIGHBOUR: 'it returns false'. Refute it at one input. -/
def findOneWrong : ChangeSpec := { name := "findOne", fn := fun _ => fun
  | [d1, d2] => { results := [.lit (.bool false)], args := [d1, d2] }
  | _ => none }
def FindOneWrongFalsely : Prop := findOneRow.holds Try.pinned (OpenSpec.ofChange findOneWrong)

/-- 'letterbecklaw1.FindLonger': WHATEVER THE INPUT: true; the input reads as it did. -/
def findLongerSpec : ChangeSpec := { name := "findLonger", fn := fun _ => fun
  | [d1, d2, d3] => { results := [.lit (.bool true)], args := [d1, d2, d3] }
  | _ => none }
def findLongerRow : OpenClaim := { program := "ytdlekgockdahfaa", sum := "349b14439e006d12fd6c0dc70447dbfd542af06188ec8967359bb96121424d74", func := "letterbeck/letterbecklaw1.FindLonger", spec := "findLonger", apart := false }
def FindLongerSaid : Prop := findLongerRow.holds Try.pinned (OpenSpec.ofChange findLongerSpec)

/-- ITS FALSE NEIGHBOUR: 'it returns false'. Refute it at one input. -/
def findLongerWrong : ChangeSpec := { name := "findLonger", fn := fun _ => fun
  | [d1, d2, d3] => { results := [.lit (.bool false)], args := [d1, d2, d3] }
  | _ => none }
def FindLongerWrongFalsely : Prop := findLongerRow.holds Try.pinned (OpenSpec.ofChange findLongerWrong)

/- THE SECOND FORM. 'bulk': how many values and letters a reading holds, each counted each time it is reached (what is shared counts as often as it is met; a slice's spare places count too). A statement '..UptoSaid' is the law's where the arguments, and the package variables that the reading takes, are together of bulk at most 1048576: NARROWER than '..Said'. Prove '..Said' where nothing that the law and all that it calls make is longer than what came in: it says more and counts as full. Else prove '..UptoSaid'. A law counts once. -/
mutual
def uptoBulk {H : Type} : DataW H → Nat
  | .lit (.string bytes) => bytes.length + 1
  | .lit _ => 1
  | .nil => 1
  | .ptr d => uptoBulk d + 1
  | .slice elems spare => uptoBulkAll elems + uptoBulkAll spare + 1
  | .agg parts => uptoBulkAll parts + 1
  | .iface _ d => uptoBulk d + 1
  | .map entries => uptoBulkEntries entries + 1
  | .held _ => 1
def uptoBulkAll {H : Type} : List (DataW H) → Nat
  | [] => 0
  | d :: r => uptoBulk d + uptoBulkAll r
def uptoBulkEntries {H : Type} : List (Lit × DataW H) → Nat
  | [] => 0
  | x :: r => uptoBulkEntry x + uptoBulkEntries r
def uptoBulkEntry {H : Type} : Lit × DataW H → Nat
  | (.string bytes, d) => bytes.length + uptoBulk d + 1
  | (_, d) => uptoBulk d + 1
 end
def uptoSmall : (H : Type) → List (DataW H) → Bool := fun _ ds => decide (uptoBulkAll ds ≤ 1048576)
def OpenSpec.upto (s : _root_.Go.ChangeSpec) : _root_.Go.OpenSpec := { _root_.Go.OpenSpec.ofChange s with cond := some uptoSmall }

/-- 'letterbecklaw1.FindNear', WHERE WHAT IT READS IS OF BULK AT MOST 1048576: true; the input reads as it did. -/
def findNearUptoRow : OpenClaim := { program := "ytdlekgockdahfaa", sum := "349b14439e006d12fd6c0dc70447dbfd542af06188ec8967359bb96121424d74", func := "letterbeck/letterbecklaw1.FindNear", spec := "findNear", apart := false, narrowed := true }
def FindNearUptoSaid : Prop := findNearUptoRow.holds Try.pinned (OpenSpec.upto findNearSpec)

/-- 'letterbecklaw1.FindParts', WHERE WHAT IT READS IS OF BULK AT MOST 1048576: true; the input reads as it did. -/
def findPartsUptoRow : OpenClaim := { program := "ytdlekgockdahfaa", sum := "349b14439e006d12fd6c0dc70447dbfd542af06188ec8967359bb96121424d74", func := "letterbeck/letterbecklaw1.FindParts", spec := "findParts", apart := false, narrowed := true }
def FindPartsUptoSaid : Prop := findPartsUptoRow.holds Try.pinned (OpenSpec.upto findPartsSpec)

/-- 'letterbecklaw1.FindOne', WHERE WHAT IT READS IS OF BULK AT MOST 1048576: true; the input reads as it did. -/
def findOneUptoRow : OpenClaim := { program := "ytdlekgockdahfaa", sum := "349b14439e006d12fd6c0dc70447dbfd542af06188ec8967359bb96121424d74", func := "letterbeck/letterbecklaw1.FindOne", spec := "findOne", apart := false, narrowed := true }
def FindOneUptoSaid : Prop := findOneUptoRow.holds Try.pinned (OpenSpec.upto findOneSpec)

/-- 'letterbecklaw1.FindLonger', WHERE WHAT IT READS IS OF BULK AT MOST 1048576: true; the input reads as it did. -/
def findLongerUptoRow : OpenClaim := { program := "ytdlekgockdahfaa", sum := "349b14439e006d12fd6c0dc70447dbfd542af06188ec8967359bb96121424d74", func := "letterbeck/letterbecklaw1.FindLonger", spec := "findLonger", apart := false, narrowed := true }
def FindLongerUptoSaid : Prop := findLongerUptoRow.holds Try.pinned (OpenSpec.upto findLongerSpec)

end Rows
end Go.Proofs.Ytdlekgockdahfaa
