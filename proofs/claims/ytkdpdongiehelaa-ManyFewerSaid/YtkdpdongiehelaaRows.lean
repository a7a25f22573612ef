/-
  No cell of these rows narrows 'for every input' (looked for: loops, veiled, ifaces, maps, wideKeys, modest, calm, conditions, laid).
  DERIVED. THE GIVEN ROWS OF THIS SEAT. 3 by the template 'for every input the law returns true; each argument reads behind the call as it read before'; 0 by the template 'total and deterministic' (their statements: YtkdpdongiehelaaTotals.lean).
  GIVEN WITH THE SEED: the statements are not yours to turn. If you find one false, say at which input.
  Laid BY PROGRAM, IN A SANDBOX (cutbox-rows.mjs): the forced cells as the released guide's own fill.sh prints them over the translation 94abc698aab670aa… (all of the seat's roots in one cut). By AI agents, Wed Nov 11 2026. No macro, syntax, notation, axiom, sorry.
-/
import Derived.Test.YtkdpdongiehelaaChecked
import GoSem.Claim
import GoSem.ClaimJoined
import GoSem.ClaimMapViews
import Derived.JoinedTies
import Derived.KernelRfl
namespace Go.Proofs.Ytkdpdongiehelaa
/- THE CELL 'sum', in the pinned program and in every row, IS THE sha256 OF THE DUMP (.gsa) THAT YtkdpdongiehelaaProg.lean LOADS. Nothing in Lean hashes anything: it is a label: what it is worth is what the hold of that sum in a sandbox is worth. -/
noncomputable def Try.pinned : Pinned := { name := "ytkdpdongiehelaa", sum := "94abc698aab670aa613edacb8f992579f7358678d9e366ac6741be8b754131cf", checked := Try.checked }
namespace Rows
def none {H : Type} : Left H := { results := [], args := [] }

/-- 'letterbecklaw1.ManyEach': WHATEVER THE INPUT: true; the input reads as it did. -/
def manyEachSpec : ChangeSpec := { name := "manyEach", fn := fun _ => fun
  | [d1, d2, d3] => { results := [.lit (.bool true)], args := [d1, d2, d3] }
  | _ => none }
def manyEachRow : OpenClaim := { program := "ytkdpdongiehelaa", sum := "94abc698aab670aa613edacb8f992579f7358678d9e366ac6741be8b754131cf", func := "letterbeck/letterbecklaw1.ManyEach", spec := "manyEach", unfollowed := true, recurses := true, apart := false }
def ManyEachSaid : Prop := manyEachRow.holds Try.pinned (OpenSpec.ofChange manyEachSpec)

/-- ITS FALSE NEIGHBOUR: 'it returns false'. Refute it at one input. -/
def manyEachWrong : ChangeSpec := { name := "manyEach", fn := fun _ => fun
  | [d1, d2, d3] => { results := [.lit (.bool false)], args := [d1, d2, d3] }
  | _ => none }
def ManyEachWrongFalsely : Prop := manyEachRow.holds Try.pinned (OpenSpec.ofChange manyEachWrong)

/-- 'letterbecklaw1.ManyCut': WHATEVER THE INPUT: true; the input reads as it did. -/
def manyCutSpec : ChangeSpec := { name := "manyCut", fn := fun _ => fun
  | [d1, d2] => { results := [.lit (.bool true)], args := [d1, d2] }
  | _ => none }
def manyCutRow : OpenClaim := { program := "ytkdpdongiehelaa", sum := "94abc698aab670aa613edacb8f992579f7358678d9e366ac6741be8b754131cf", func := "letterbeck/letterbecklaw1.ManyCut", spec := "manyCut", unfollowed := true, recurses := true, apart := false }
def ManyCutSaid : Prop := manyCutRow.holds Try.pinned (OpenSpec.ofChange manyCutSpec)

/-- ITS FALSE NEIGHBOUR: 'it returns false'. Refute it at one input. -/
def manyCutWrong : ChangeSpec := { name := "manyCut", fn := fun _ => fun
  | [d1, d2] => { results := [.lit (.bool false)], args := [d1, d2] }
  | _ => none }
def ManyCutWrongFalsely : Prop := manyCutRow.holds Try.pinned (OpenSpec.ofChange manyCutWrong)

/-- 'letterbecklaw1.ManyFewer': WHATEVER THE INPUT: true; the input reads as it did. -/
def manyFewerSpec : ChangeSpec := { name := "manyFewer", fn := fun _ => fun
  | [d1, d2] => { results := [.lit (.bool true)], args := [d1, d2] }
  | _ => none }
def manyFewerRow : OpenClaim := { program := "ytkdpdongiehelaa", sum := "94abc698aab670aa613edacb8f992579f7358678d9e366ac6741be8b754131cf", func := "letterbeck/letterbecklaw1.ManyFewer", spec := "manyFewer", unfollowed := true, recurses := true, apart := false }
def ManyFewerSaid : Prop := manyFewerRow.holds Try.pinned (OpenSpec.ofChange manyFewerSpec)

/-- ITS FALSE NEIGHBOUR: 'it returns false'. Refute it at one input. -/
def manyFewerWrong : ChangeSpec := { name := "manyFewer", fn := fun _ => fun
  | [d1, d2] => { results := [.lit (.bool false)], args := [d1, d2] }
  | _ => none }
def ManyFewerWrongFalsely : Prop := manyFewerRow.holds Try.pinned (OpenSpec.ofChange manyFewerWrong)

/- THE SECOND FORM. 'bulk': how many values and letters a reading holds, each counted each time it is reached (what is shared counts as often as it is met; a slice's spare places count too). A statement '..UptoSaid' is the law's where the arguments, and the package variables that the reading takes, are together of bulk at most 1048576: NARROWER than '..Said'. Prove '..Said' where nothing that the law and all that it calls make is longer than what came in: it says more and counts as full. Else prove '..UptoSaid'. A law counts once. -/
mutual
def uptoBulk {H : Type} : DataW H → Nat
  | .lit (.string bytes) => bytes.length + 1
  | .lit _ => 1
  | .nil => 1
  | .ptr d => uptoBulk d + 1
  | .slice elems spare => uptoBulkAll elems + uptoBulkAll spare + 1
  | .agg parts => uptoBulkAll parts + 1
  | .iface _ d => uptoBulk d + 1
  | .map entries => uptoBulkEntries entries + 1
  | .held _ => 1
def uptoBulkAll {H : Type} : List (DataW H) → Nat
  | [] => 0
  | d :: r => uptoBulk d + uptoBulkAll r
def uptoBulkEntries {H : Type} : List (Lit × DataW H) → Nat
  | [] => 0
  | x :: r => uptoBulkEntry x + uptoBulkEntries r
def uptoBulkEntry {H : Type} : Lit × DataW H → Nat
  | (.string bytes, d) => bytes.length + uptoBulk d + 1
  | (_, d) => uptoBulk d + 1
 end
def uptoSmall : (H : Type) → List (DataW H) → Bool := fun _ ds => decide (uptoBulkAll ds ≤ 1048576)
def OpenSpec.upto (s : _root_.Go.ChangeSpec) : _root_.Go.OpenSpec := { _root_.Go.OpenSpec.ofChange s with cond := some uptoSmall }

/-- 'letterbecklaw1.ManyEach', WHERE WHAT IT READS IS OF BULK AT MOST 1048576: true; the input reads as it did. -/
def manyEachUptoRow : OpenClaim := { program := "ytkdpdongiehelaa", sum := "94abc698aab670aa613edacb8f992579f7358678d9e366ac6741be8b754131cf", func := "letterbeck/letterbecklaw1.ManyEach", spec := "manyEach", unfollowed := true, recurses := true, apart := false, narrowed := true }
def ManyEachUptoSaid : Prop := manyEachUptoRow.holds Try.pinned (OpenSpec.upto manyEachSpec)

/-- 'letterbecklaw1.ManyCut', WHERE WHAT IT READS IS OF BULK AT MOST 1048576: true; the input reads as it did. -/
def manyCutUptoRow : OpenClaim := { program := "ytkdpdongiehelaa", sum := "94abc698aab670aa613edacb8f992579f7358678d9e366ac6741be8b754131cf", func := "letterbeck/letterbecklaw1.ManyCut", spec := "manyCut", unfollowed := true, recurses := true, apart := false, narrowed := true }
def ManyCutUptoSaid : Prop := manyCutUptoRow.holds Try.pinned (OpenSpec.upto manyCutSpec)

/-- 'letterbecklaw1.ManyFewer', WHERE WHAT IT READS IS OF BULK AT MOST 1048576: true; the input reads as it did. -/
def manyFewerUptoRow : OpenClaim := { program := "ytkdpdongiehelaa", sum := "94abc698aab670aa613edacb8f992579f7358678d9e366ac6741be8b754131cf", func := "letterbeck/letterbecklaw1.ManyFewer", spec := "manyFewer", unfollowed := true, recurses := true, apart := false, narrowed := true }
def ManyFewerUptoSaid : Prop := manyFewerUptoRow.holds Try.pinned (OpenSpec.upto manyFewerSpec)

end Rows
end Go.Proofs.Ytkdpdongiehelaa
