/-
  No cell of these rows narrows 'for every input' (looked for: loops, veiled, ifaces, maps, wideKeys, modest, calm, conditions, laid).
  DERIVED. THE GIVEN ROWS OF THIS SEAT. 3 by the template 'for every input the law returns true; each argument reads behind the call as it read before'; 0 by the template 'total and deterministic' (their statements: YtlfncplldppncaaTotals.lean).
  GIVEN WITH THE SEED: the statements are not yours to turn. If you find one false, say at which input.
  Laid BY PROGRAM, IN A SANDBOX (cutbox-rows.mjs): the forced cells as the released guide's own fill.sh prints them over the translation c782b75f07ca5705… (all of the seat's roots in one cut). By AI agents, Wed Nov 11 2026. No macro, syntax, notation, axiom, sorry.
-/
import Derived.Test.YtlfncplldppncaaChecked
import GoSem.Claim
import GoSem.ClaimJoined
import GoSem.ClaimMapViews
import Derived.JoinedTies
import Derived.KernelRfl
namespace Go.Proofs.Ytlfncplldppncaa
/- THE CELL 'sum', in the pinned program and in every row, IS THE sha256 OF THE DUMP (.gsa) THAT YtlfncplldppncaaProg.lean LOADS. Nothing in Lean hashes anything: it is a label: what it is worth is what the hold of that sum in a sandbox is worth. -/
noncomputable def Try.pinned : Pinned := { name := "ytlfncplldppncaa", sum := "c782b75f07ca5705b726a22472fa3c949c29df9175f1e94de5401c4ac6841e97", checked := Try.checked }
namespace Rows
def none {H : Type} : Left H := { results := [], args := [] }

/-- 'letterbecklaw2.KraftApart': WHATEVER THE INPUT: true; the input reads as it did. -/
def kraftApartSpec : ChangeSpec := { name := "kraftApart", fn := fun _ => fun
  | [d] => { results := [.lit (.bool true)], args := [d] }
  | _ => none }
def kraftApartRow : OpenClaim := { program := "ytlfncplldppncaa", sum := "c782b75f07ca5705b726a22472fa3c949c29df9175f1e94de5401c4ac6841e97", func := "letterbeck/letterbecklaw2.KraftApart", spec := "kraftApart", unfollowed := true, recurses := true, apart := false }
def KraftApartSaid : Prop := kraftApartRow.holds Try.pinned (OpenSpec.ofChange kraftApartSpec)

/-- ITS FALSE NEIGHBOUR: 'it returns false'. Refute it at one input. -/
def kraftApartWrong : ChangeSpec := { name := "kraftApart", fn := fun _ => fun
  | [d] => { results := [.lit (.bool false)], args := [d] }
  | _ => none }
def KraftApartWrongFalsely : Prop := kraftApartRow.holds Try.pinned (OpenSpec.ofChange kraftApartWrong)

/-- 'letterbecklaw2.KraftTwo': WHATEVER THE INPUT: true; the input reads as it did. -/
def kraftTwoSpec : ChangeSpec := { name := "kraftTwo", fn := fun _ => fun
  | [d1, d2, d3] => { results := [.lit (.bool true)], args := [d1, d2, d3] }
  | _ => none }
def kraftTwoRow : OpenClaim := { program := "ytlfncplldppncaa", sum := "c782b75f07ca5705b726a22472fa3c949c29df9175f1e94de5401c4ac6841e97", func := "letterbeck/letterbecklaw2.KraftTwo", spec := "kraftTwo", unfollowed := true, recurses := true, apart := false }
def KraftTwoSaid : Prop := kraftTwoRow.holds Try.pinned (OpenSpec.ofChange kraftTwoSpec)

/-- ITS FALSE NEIGHBOUR: 'it returns false'. Refute it at one input. -/
def kraftTwoWrong : ChangeSpec := { name := "kraftTwo", fn := fun _ => fun
  | [d1, d2, d3] => { results := [.lit (.bool false)], args := [d1, d2, d3] }
  | _ => none }
def KraftTwoWrongFalsely : Prop := kraftTwoRow.holds Try.pinned (OpenSpec.ofChange kraftTwoWrong)

/-- 'letterbecktop.TopCodes': WHATEVER THE INPUT: true; the input reads as it did. -/
def topCodesSpec : ChangeSpec := { name := "topCodes", fn := fun _ => fun
  | [d1, d2] => { results := [.lit (.bool true)], args := [d1, d2] }
  | _ => none }
def topCodesRow : OpenClaim := { program := "ytlfncplldppncaa", sum := "c782b75f07ca5705b726a22472fa3c949c29df9175f1e94de5401c4ac6841e97", func := "letterbeck/letterbecktop.TopCodes", spec := "topCodes", unfollowed := true, recurses := true, apart := false }
def TopCodesSaid : Prop := topCodesRow.holds Try.pinned (OpenSpec.ofChange topCodesSpec)

/-- ITS FALSE NEIGHBOUR: 'it returns false'. Refute it at one input. -/
def topCodesWrong : ChangeSpec := { name := "topCodes", fn := fun _ => fun
  | [d1, d2] => { results := [.lit (.bool false)], args := [d1, d2] }
  | _ => none }
def TopCodesWrongFalsely : Prop := topCodesRow.holds Try.pinned (OpenSpec.ofChange topCodesWrong)

/- THE SECOND FORM. 'bulk': how many values and letters a reading holds, each counted each time it is reached (what is shared counts as often as it is met; a slice's spare places count too). A statement '..UptoSaid' is the law's where the arguments, and the package variables that the reading takes, are together of bulk at most 1048576: NARROWER than '..Said'. Prove '..Said' where nothing that the law and all that it calls make is longer than what came in: it says more and counts as full. Else prove '..UptoSaid'. A law counts once. -/
mutual
def uptoBulk {H : Type} : DataW H → Nat
  | .lit (.string bytes) => bytes.length + 1
  | .lit _ => 1
  | .nil => 1
  | .ptr d => uptoBulk d + 1
  | .slice elems spare => uptoBulkAll elems + uptoBulkAll spare + 1
  | .agg parts => uptoBulkAll parts + 1
  | .iface _ d => uptoBulk d + 1
  | .map entries => uptoBulkEntries entries + 1
  | .held _ => 1
def uptoBulkAll {H : Type} : List (DataW H) → Nat
  | [] => 0
  | d :: r => uptoBulk d + uptoBulkAll r
def uptoBulkEntries {H : Type} : List (Lit × DataW H) → Nat
  | [] => 0
  | x :: r => uptoBulkEntry x + uptoBulkEntries r
def uptoBulkEntry {H : Type} : Lit × DataW H → Nat
  | (.string bytes, d) => bytes.length + uptoBulk d + 1
  | (_, d) => uptoBulk d + 1
 end
def uptoSmall : (H : Type) → List (DataW H) → Bool := fun _ ds => decide (uptoBulkAll ds ≤ 1048576)
def OpenSpec.upto (s : _root_.Go.ChangeSpec) : _root_.Go.OpenSpec := { _root_.Go.OpenSpec.ofChange s with cond := some uptoSmall }

/-- 'letterbecklaw2.KraftApart', WHERE WHAT IT READS IS OF BULK AT MOST 1048576: true; the input reads as it did. -/
def kraftApartUptoRow : OpenClaim := { program := "ytlfncplldppncaa", sum := "c782b75f07ca5705b726a22472fa3c949c29df9175f1e94de5401c4ac6841e97", func := "letterbeck/letterbecklaw2.KraftApart", spec := "kraftApart", unfollowed := true, recurses := true, apart := false, narrowed := true }
def KraftApartUptoSaid : Prop := kraftApartUptoRow.holds Try.pinned (OpenSpec.upto kraftApartSpec)

/-- 'letterbecklaw2.KraftTwo', WHERE WHAT IT READS IS OF BULK AT MOST 1048576: true; the input reads as it did. -/
def kraftTwoUptoRow : OpenClaim := { program := "ytlfncplldppncaa", sum := "c782b75f07ca5705b726a22472fa3c949c29df9175f1e94de5401c4ac6841e97", func := "letterbeck/letterbecklaw2.KraftTwo", spec := "kraftTwo", unfollowed := true, recurses := true, apart := false, narrowed := true }
def KraftTwoUptoSaid : Prop := kraftTwoUptoRow.holds Try.pinned (OpenSpec.upto kraftTwoSpec)

/-- 'letterbecktop.TopCodes', WHERE WHAT IT READS IS OF BULK AT MOST 1048576: true; the input reads as it did. -/
def topCodesUptoRow : OpenClaim := { program := "ytlfncplldppncaa", sum := "c782b75f07ca5705b726a22472fa3c949c29df9175f1e94de5401c4ac6841e97", func := "letterbeck/letterbecktop.TopCodes", spec := "topCodes", unfollowed := true, recurses := true, apart := false, narrowed := true }
def TopCodesUptoSaid : Prop := topCodesUptoRow.holds Try.pinned (OpenSpec.upto topCodesSpec)

end Rows
end Go.Proofs.Ytlfncplldppncaa
