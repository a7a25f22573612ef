/-
  No cell of these rows narrows 'for every input' (looked for: loops, veiled, ifaces, maps, wideKeys, modest, calm, conditions, laid).
  DERIVED. THE GIVEN ROWS OF THIS SEAT. 4 by the template 'for every input the law returns true; each argument reads behind the call as it read before'; 0 by the template 'total and deterministic' (their statements: YtaodocdddfkglaaTotals.lean).
  GIVEN WITH THE SEED: the statements are not yours to turn. If you find one false, say at which input.
  Laid BY PROGRAM, IN A SANDBOX (cutbox-rows.mjs): the forced cells as the released guide's own fill.sh prints them over the translation 30335e52592b7794… (all of the seat's roots in one cut). By AI agents, Wed Nov 11 2026. No macro, syntax, notation, axiom, sorry.
-/
import Derived.Test.YtaodocdddfkglaaChecked
import GoSem.Claim
import GoSem.ClaimJoined
import GoSem.ClaimMapViews
import Derived.JoinedTies
import Derived.KernelRfl
namespace Go.Proofs.Ytaodocdddfkglaa
/- THE CELL 'sum', in the pinned program and in every row, IS THE sha256 OF THE DUMP (.gsa) THAT YtaodocdddfkglaaProg.lean LOADS. Nothing in Lean hashes anything: it is a label: what it is worth is what the hold of that sum in a sandbox is worth. -/
noncomputable def Try.pinned : Pinned := { name := "ytaodocdddfkglaa", sum := "30335e52592b7794ded765ebad0f07ec4f426fc12e8eb2fe278e2fb9bdb9ef9f", checked := Try.checked }
namespace Rows
def none {H : Type} : Left H := { results := [], args := [] }

/-- 'letterbecklaw2.CommonLongest': WHATEVER THE INPUT: true; the input reads as it did. -/
def commonLongestSpec : ChangeSpec := { name := "commonLongest", fn := fun _ => fun
  | [d1, d2, d3] => { results := [.lit (.bool true)], args := [d1, d2, d3] }
  | _ => none }
def commonLongestRow : OpenClaim := { program := "ytaodocdddfkglaa", sum := "30335e52592b7794ded765ebad0f07ec4f426fc12e8eb2fe278e2fb9bdb9ef9f", func := "letterbeck/letterbecklaw2.CommonLongest", spec := "commonLongest", inPlace := ["internal/bytealg.IndexByteString"], apart := false }
def CommonLongestSaid : Prop := commonLongestRow.holds Try.pinned (OpenSpec.ofChange commonLongestSpec)

/-- ITS FALSE NEIGHBOUR: 'it returns false'. Refute it at one input. -/
def commonLongestWrong : ChangeSpec := { name := "commonLongest", fn := fun _ => fun
  | [d1, d2, d3] => { results := [.lit (.bool false)], args := [d1, d2, d3] }
  | _ => none }
def CommonLongestWrongFalsely : Prop := commonLongestRow.holds Try.pinned (OpenSpec.ofChange commonLongestWrong)

/-- 'letterbecklaw2.CommonEdit': WHATEVER THE INPUT: true; the input reads as it did. -/
def commonEditSpec : ChangeSpec := { name := "commonEdit", fn := fun _ => fun
  | [d1, d2] => { results := [.lit (.bool true)], args := [d1, d2] }
  | _ => none }
def commonEditRow : OpenClaim := { program := "ytaodocdddfkglaa", sum := "30335e52592b7794ded765ebad0f07ec4f426fc12e8eb2fe278e2fb9bdb9ef9f", func := "letterbeck/letterbecklaw2.CommonEdit", spec := "commonEdit", inPlace := ["internal/bytealg.IndexByteString"], unfollowed := true, recurses := true, apart := false }
def CommonEditSaid : Prop := commonEditRow.holds Try.pinned (OpenSpec.ofChange commonEditSpec)

/-- ITS FALSE NEIGHBOUR: 'it returns false'. Refute it at one input. -/
def commonEditWrong : ChangeSpec := { name := "commonEdit", fn := fun _ => fun
  | [d1, d2] => { results := [.lit (.bool false)], args := [d1, d2] }
  | _ => none }
def CommonEditWrongFalsely : Prop := commonEditRow.holds Try.pinned (OpenSpec.ofChange commonEditWrong)

/-- 'letterbecklaw2.CommonWithin': WHATEVER THE INPUT: true; the input reads as it did. -/
def commonWithinSpec : ChangeSpec := { name := "commonWithin", fn := fun _ => fun
  | [d1, d2, d3, d4, d5] => { results := [.lit (.bool true)], args := [d1, d2, d3, d4, d5] }
  | _ => none }
def commonWithinRow : OpenClaim := { program := "ytaodocdddfkglaa", sum := "30335e52592b7794ded765ebad0f07ec4f426fc12e8eb2fe278e2fb9bdb9ef9f", func := "letterbeck/letterbecklaw2.CommonWithin", spec := "commonWithin", inPlace := ["internal/bytealg.IndexByteString"], apart := false }
def CommonWithinSaid : Prop := commonWithinRow.holds Try.pinned (OpenSpec.ofChange commonWithinSpec)

/-- ITS FALSE NEIGHBOUR: 'it returns false'. Refute it at one input. -/
def commonWithinWrong : ChangeSpec := { name := "commonWithin", fn := fun _ => fun
  | [d1, d2, d3, d4, d5] => { results := [.lit (.bool false)], args := [d1, d2, d3, d4, d5] }
  | _ => none }
def CommonWithinWrongFalsely : Prop := commonWithinRow.holds Try.pinned (OpenSpec.ofChange commonWithinWrong)

/-- 'letterbecktop.TopMirrors': WHATEVER THE INPUT: true; the input reads as it did. -/
def topMirrorsSpec : ChangeSpec := { name := "topMirrors", fn := fun _ => fun
  | [d] => { results := [.lit (.bool true)], args := [d] }
  | _ => none }
def topMirrorsRow : OpenClaim := { program := "ytaodocdddfkglaa", sum := "30335e52592b7794ded765ebad0f07ec4f426fc12e8eb2fe278e2fb9bdb9ef9f", func := "letterbeck/letterbecktop.TopMirrors", spec := "topMirrors", unfollowed := true, recurses := true, apart := false }
def TopMirrorsSaid : Prop := topMirrorsRow.holds Try.pinned (OpenSpec.ofChange topMirrorsSpec)

/-- ITS FALSE NEIGHBOUR: 'it returns false'. Refute it at one input. -/
def topMirrorsWrong : ChangeSpec := { name := "topMirrors", fn := fun _ => fun
  | [d] => { results := [.lit (.bool false)], args := [d] }
  | _ => none }
def TopMirrorsWrongFalsely : Prop := topMirrorsRow.holds Try.pinned (OpenSpec.ofChange topMirrorsWrong)

/- THE SECOND FORM. 'bulk': how many values and letters a reading holds, each counted each time it is reached (what is shared counts as often as it is met; a slice's spare places count too). A statement '..UptoSaid' is the law's where the arguments, and the package variables that the reading takes, are together of bulk at most 1048576: NARROWER than '..Said'. Prove '..Said' where nothing that the law and all that it calls make is longer than what came in: it says more and counts as full. Else prove '..UptoSaid'. A law counts once. -/
mutual
def uptoBulk {H : Type} : DataW H → Nat
  | .lit (.string bytes) => bytes.length + 1
  | .lit _ => 1
  | .nil => 1
  | .ptr d => uptoBulk d + 1
  | .slice elems spare => uptoBulkAll elems + uptoBulkAll spare + 1
  | .agg parts => uptoBulkAll parts + 1
  | .iface _ d => uptoBulk d + 1
  | .map entries => uptoBulkEntries entries + 1
  | .held _ => 1
def uptoBulkAll {H : Type} : List (DataW H) → Nat
  | [] => 0
  | d :: r => uptoBulk d + uptoBulkAll r
def uptoBulkEntries {H : Type} : List (Lit × DataW H) → Nat
  | [] => 0
  | x :: r => uptoBulkEntry x + uptoBulkEntries r
def uptoBulkEntry {H : Type} : Lit × DataW H → Nat
  | (.string bytes, d) => bytes.length + uptoBulk d + 1
  | (_, d) => uptoBulk d + 1
 end
def uptoSmall : (H : Type) → List (DataW H) → Bool := fun _ ds => decide (uptoBulkAll ds ≤ 1048576)
def OpenSpec.upto (s : _root_.Go.ChangeSpec) : _root_.Go.OpenSpec := { _root_.Go.OpenSpec.ofChange s with cond := some uptoSmall }

/-- 'letterbecklaw2.CommonLongest', WHERE WHAT IT READS IS OF BULK AT MOST 1048576: true; the input reads as it did. -/
def commonLongestUptoRow : OpenClaim := { program := "ytaodocdddfkglaa", sum := "30335e52592b7794ded765ebad0f07ec4f426fc12e8eb2fe278e2fb9bdb9ef9f", func := "letterbeck/letterbecklaw2.CommonLongest", spec := "commonLongest", inPlace := ["internal/bytealg.IndexByteString"], apart := false, narrowed := true }
def CommonLongestUptoSaid : Prop := commonLongestUptoRow.holds Try.pinned (OpenSpec.upto commonLongestSpec)

/-- 'letterbecklaw2.CommonEdit', WHERE WHAT IT READS IS OF BULK AT MOST 1048576: true; the input reads as it did. -/
def commonEditUptoRow : OpenClaim := { program := "ytaodocdddfkglaa", sum := "30335e52592b7794ded765ebad0f07ec4f426fc12e8eb2fe278e2fb9bdb9ef9f", func := "letterbeck/letterbecklaw2.CommonEdit", spec := "commonEdit", inPlace := ["internal/bytealg.IndexByteString"], unfollowed := true, recurses := true, apart := false, narrowed := true }
def CommonEditUptoSaid : Prop := commonEditUptoRow.holds Try.pinned (OpenSpec.upto commonEditSpec)

/-- 'letterbecklaw2.CommonWithin', WHERE WHAT IT READS IS OF BULK AT MOST 1048576: true; the input reads as it did. -/
def commonWithinUptoRow : OpenClaim := { program := "ytaodocdddfkglaa", sum := "30335e52592b7794ded765ebad0f07ec4f426fc12e8eb2fe278e2fb9bdb9ef9f", func := "letterbeck/letterbecklaw2.CommonWithin", spec := "commonWithin", inPlace := ["internal/bytealg.IndexByteString"], apart := false, narrowed := true }
def CommonWithinUptoSaid : Prop := commonWithinUptoRow.holds Try.pinned (OpenSpec.upto commonWithinSpec)

/-- 'letterbecktop.TopMirrors', WHERE WHAT IT READS IS OF BULK AT MOST 1048576: true; the input reads as it did. -/
def topMirrorsUptoRow : OpenClaim := { program := "ytaodocdddfkglaa", sum := "30335e52592b7794ded765ebad0f07ec4f426fc12e8eb2fe278e2fb9bdb9ef9f", func := "letterbeck/letterbecktop.TopMirrors", spec := "topMirrors", unfollowed := true, recurses := true, apart := false, narrowed := true }
def TopMirrorsUptoSaid : Prop := topMirrorsUptoRow.holds Try.pinned (OpenSpec.upto topMirrorsSpec)

end Rows
end Go.Proofs.Ytaodocdddfkglaa
