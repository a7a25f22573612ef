/-
  No cell of these rows narrows 'for every input' (looked for: loops, veiled, ifaces, maps, wideKeys, modest, calm, conditions, laid).
  DERIVED. THE GIVEN ROWS OF THIS SEAT. 4 by the template 'for every input the law returns true; each argument reads behind the call as it read before'; 0 by the template 'total and deterministic' (their statements: YtlbefiaieehcfaaTotals.lean).
  GIVEN WITH THE SEED: the statements are not yours to turn. If you find one false, say at which input.
  Laid BY PROGRAM, IN A SANDBOX (cutbox-rows.mjs): the forced cells as the released guide's own fill.sh prints them over the translation 934ec618009ba129… (all of the seat's roots in one cut). By AI agents, Wed Nov 11 2026. No macro, syntax, notation, axiom, sorry.
-/
import Derived.Test.YtlbefiaieehcfaaChecked
import GoSem.Claim
import GoSem.ClaimJoined
import GoSem.ClaimMapViews
import Derived.JoinedTies
import Derived.KernelRfl
namespace Go.Proofs.Ytlbefiaieehcfaa
/- THE CELL 'sum', in the pinned program and in every row, IS THE sha256 OF THE DUMP (.gsa) THAT YtlbefiaieehcfaaProg.lean LOADS. Nothing in Lean hashes anything: it is a label: what it is worth is what the hold of that sum in a sandbox is worth. -/
noncomputable def Try.pinned : Pinned := { name := "ytlbefiaieehcfaa", sum := "934ec618009ba1295c241e68d1c676785c2ab16ccaf624b3e8bf6b84c479cb56", checked := Try.checked }
namespace Rows
def none {H : Type} : Left H := { results := [], args := [] }

/-- 'letterbecklaw3.DyckCatalan': WHATEVER THE INPUT: true; the input reads as it did. -/
def dyckCatalanSpec : ChangeSpec := { name := "dyckCatalan", fn := fun _ => fun
  | [d] => { results := [.lit (.bool true)], args := [d] }
  | _ => none }
def dyckCatalanRow : OpenClaim := { program := "ytlbefiaieehcfaa", sum := "934ec618009ba1295c241e68d1c676785c2ab16ccaf624b3e8bf6b84c479cb56", func := "letterbeck/letterbecklaw3.DyckCatalan", spec := "dyckCatalan", recurses := true, apart := false }
def DyckCatalanSaid : Prop := dyckCatalanRow.holds Try.pinned (OpenSpec.ofChange dyckCatalanSpec)

/-- ITS FALSE NEIGHBOUR: 'it returns false'. Refute it at one input. -/
def dyckCatalanWrong : ChangeSpec := { name := "dyckCatalan", fn := fun _ => fun
  | [d] => { results := [.lit (.bool false)], args := [d] }
  | _ => none }
def DyckCatalanWrongFalsely : Prop := dyckCatalanRow.holds Try.pinned (OpenSpec.ofChange dyckCatalanWrong)

/-- 'letterbecklaw3.DyckPlace': WHATEVER THE INPUT: true; the input reads as it did. -/
def dyckPlaceSpec : ChangeSpec := { name := "dyckPlace", fn := fun _ => fun
  | [d1, d2, d3] => { results := [.lit (.bool true)], args := [d1, d2, d3] }
  | _ => none }
def dyckPlaceRow : OpenClaim := { program := "ytlbefiaieehcfaa", sum := "934ec618009ba1295c241e68d1c676785c2ab16ccaf624b3e8bf6b84c479cb56", func := "letterbeck/letterbecklaw3.DyckPlace", spec := "dyckPlace", recurses := true, apart := false }
def DyckPlaceSaid : Prop := dyckPlaceRow.holds Try.pinned (OpenSpec.ofChange dyckPlaceSpec)

/-- ITS FALSE NEIGHBOUR: 'it returns false'. Refute it at one input. -/
def dyckPlaceWrong : ChangeSpec := { name := "dyckPlace", fn := fun _ => fun
  | [d1, d2, d3] => { results := [.lit (.bool false)], args := [d1, d2, d3] }
  | _ => none }
def DyckPlaceWrongFalsely : Prop := dyckPlaceRow.holds Try.pinned (OpenSpec.ofChange dyckPlaceWrong)

/-- 'letterbecklaw3.DyckJoin': WHATEVER THE INPUT: true; the input reads as it did. -/
def dyckJoinSpec : ChangeSpec := { name := "dyckJoin", fn := fun _ => fun
  | [d1, d2] => { results := [.lit (.bool true)], args := [d1, d2] }
  | _ => none }
def dyckJoinRow : OpenClaim := { program := "ytlbefiaieehcfaa", sum := "934ec618009ba1295c241e68d1c676785c2ab16ccaf624b3e8bf6b84c479cb56", func := "letterbeck/letterbecklaw3.DyckJoin", spec := "dyckJoin", recurses := true, apart := false }
def DyckJoinSaid : Prop := dyckJoinRow.holds Try.pinned (OpenSpec.ofChange dyckJoinSpec)

/-- ITS FALSE NEIGHBOUR: 'it returns false'. Refute it at one input. -/
def dyckJoinWrong : ChangeSpec := { name := "dyckJoin", fn := fun _ => fun
  | [d1, d2] => { results := [.lit (.bool false)], args := [d1, d2] }
  | _ => none }
def DyckJoinWrongFalsely : Prop := dyckJoinRow.holds Try.pinned (OpenSpec.ofChange dyckJoinWrong)

/-- 'letterbecktop.TopRows': WHATEVER THE INPUT: true; the input reads as it did. -/
def topRowsSpec : ChangeSpec := { name := "topRows", fn := fun _ => fun
  | [d1, d2, d3] => { results := [.lit (.bool true)], args := [d1, d2, d3] }
  | _ => none }
def topRowsRow : OpenClaim := { program := "ytlbefiaieehcfaa", sum := "934ec618009ba1295c241e68d1c676785c2ab16ccaf624b3e8bf6b84c479cb56", func := "letterbeck/letterbecktop.TopRows", spec := "topRows", unfollowed := true, recurses := true, apart := false }
def TopRowsSaid : Prop := topRowsRow.holds Try.pinned (OpenSpec.ofChange topRowsSpec)

/-- ITS FALSE NEIGHBOUR: 'it returns false'. Refute it at one input. -/
def topRowsWrong : ChangeSpec := { name := "topRows", fn := fun _ => fun
  | [d1, d2, d3] => { results := [.lit (.bool false)], args := [d1, d2, d3] }
  | _ => none }
def TopRowsWrongFalsely : Prop := topRowsRow.holds Try.pinned (OpenSpec.ofChange topRowsWrong)

/- THE SECOND FORM. 'bulk': how many values and letters a reading holds, each counted each time it is reached (what is shared counts as often as it is met; a slice's spare places count too). A statement '..UptoSaid' is the law's where the arguments, and the package variables that the reading takes, are together of bulk at most 1048576: NARROWER than '..Said'. Prove '..Said' where nothing that the law and all that it calls make is longer than what came in: it says more and counts as full. Else prove '..UptoSaid'. A law counts once. -/
mutual
def uptoBulk {H : Type} : DataW H → Nat
  | .lit (.string bytes) => bytes.length + 1
  | .lit _ => 1
  | .nil => 1
  | .ptr d => uptoBulk d + 1
  | .slice elems spare => uptoBulkAll elems + uptoBulkAll spare + 1
  | .agg parts => uptoBulkAll parts + 1
  | .iface _ d => uptoBulk d + 1
  | .map entries => uptoBulkEntries entries + 1
  | .held _ => 1
def uptoBulkAll {H : Type} : List (DataW H) → Nat
  | [] => 0
  | d :: r => uptoBulk d + uptoBulkAll r
def uptoBulkEntries {H : Type} : List (Lit × DataW H) → Nat
  | [] => 0
  | x :: r => uptoBulkEntry x + uptoBulkEntries r
def uptoBulkEntry {H : Type} : Lit × DataW H → Nat
  | (.string bytes, d) => bytes.length + uptoBulk d + 1
  | (_, d) => uptoBulk d + 1
 end
def uptoSmall : (H : Type) → List (DataW H) → Bool := fun _ ds => decide (uptoBulkAll ds ≤ 1048576)
def OpenSpec.upto (s : _root_.Go.ChangeSpec) : _root_.Go.OpenSpec := { _root_.Go.OpenSpec.ofChange s with cond := some uptoSmall }

/-- 'letterbecklaw3.DyckCatalan', WHERE WHAT IT READS IS OF BULK AT MOST 1048576: true; the input reads as it did. -/
def dyckCatalanUptoRow : OpenClaim := { program := "ytlbefiaieehcfaa", sum := "934ec618009ba1295c241e68d1c676785c2ab16ccaf624b3e8bf6b84c479cb56", func := "letterbeck/letterbecklaw3.DyckCatalan", spec := "dyckCatalan", recurses := true, apart := false, narrowed := true }
def DyckCatalanUptoSaid : Prop := dyckCatalanUptoRow.holds Try.pinned (OpenSpec.upto dyckCatalanSpec)

/-- 'letterbecklaw3.DyckPlace', WHERE WHAT IT READS IS OF BULK AT MOST 1048576: true; the input reads as it did. -/
def dyckPlaceUptoRow : OpenClaim := { program := "ytlbefiaieehcfaa", sum := "934ec618009ba1295c241e68d1c676785c2ab16ccaf624b3e8bf6b84c479cb56", func := "letterbeck/letterbecklaw3.DyckPlace", spec := "dyckPlace", recurses := true, apart := false, narrowed := true }
def DyckPlaceUptoSaid : Prop := dyckPlaceUptoRow.holds Try.pinned (OpenSpec.upto dyckPlaceSpec)

/-- 'letterbecklaw3.DyckJoin', WHERE WHAT IT READS IS OF BULK AT MOST 1048576: true; the input reads as it did. -/
def dyckJoinUptoRow : OpenClaim := { program := "ytlbefiaieehcfaa", sum := "934ec618009ba1295c241e68d1c676785c2ab16ccaf624b3e8bf6b84c479cb56", func := "letterbeck/letterbecklaw3.DyckJoin", spec := "dyckJoin", recurses := true, apart := false, narrowed := true }
def DyckJoinUptoSaid : Prop := dyckJoinUptoRow.holds Try.pinned (OpenSpec.upto dyckJoinSpec)

/-- 'letterbecktop.TopRows', WHERE WHAT IT READS IS OF BULK AT MOST 1048576: true; the input reads as it did. -/
def topRowsUptoRow : OpenClaim := { program := "ytlbefiaieehcfaa", sum := "934ec618009ba1295c241e68d1c676785c2ab16ccaf624b3e8bf6b84c479cb56", func := "letterbeck/letterbecktop.TopRows", spec := "topRows", unfollowed := true, recurses := true, apart := false, narrowed := true }
def TopRowsUptoSaid : Prop := topRowsUptoRow.holds Try.pinned (OpenSpec.upto topRowsSpec)

end Rows
end Go.Proofs.Ytlbefiaieehcfaa
