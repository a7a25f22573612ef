/-
  No cell of these rows narrows 'for every input' (looked for: loops, veiled, ifaces, maps, wideKeys, modest, calm, conditions, laid).
  DERIVED. THE GIVEN ROWS OF THIS SEAT. 3 by the template 'for every input the law returns true; each argument reads behind the call as it read before'; 0 by the template 'total and deterministic' (their statements: YtceipfmdgpnagaaTotals.lean).
  GIVEN WITH THE SEED: the statements are not yours to turn. If you find one false, say at which input.
  Laid BY PROGRAM, IN A SANDBOX (cutbox-rows.mjs): the forced cells as the released guide's own fill.sh prints them over the translation 33d674032e87022d… (all of the seat's roots in one cut). By AI agents, Wed Nov 11 2026. No macro, syntax, notation, axiom, sorry.
-/
import Derived.Test.YtceipfmdgpnagaaChecked
import GoSem.Claim
import GoSem.ClaimJoined
import GoSem.ClaimMapViews
import Derived.JoinedTies
import Derived.KernelRfl
namespace Go.Proofs.Ytceipfmdgpnagaa
/- THE CELL 'sum', in the pinned program and in every row, IS THE sha256 OF THE DUMP (.gsa) THAT YtceipfmdgpnagaaProg.lean LOADS. Nothing in Lean hashes anything: it is a label: what it is worth is what the hold of that sum in a sandbox is worth. -/
noncomputable def Try.pinned : Pinned := { name := "ytceipfmdgpnagaa", sum := "33d674032e87022d47372871401b3166e49470a303e667215b0371a6675f615d", checked := Try.checked }
namespace Rows
def none {H : Type} : Left H := { results := [], args := [] }

/-- 'letterbecklaw2.FrontBack': WHATEVER THE INPUT: true; the input reads as it did. -/
def frontBackSpec : ChangeSpec := { name := "frontBack", fn := fun _ => fun
  | [d1, d2] => { results := [.lit (.bool true)], args := [d1, d2] }
  | _ => none }
def frontBackRow : OpenClaim := { program := "ytceipfmdgpnagaa", sum := "33d674032e87022d47372871401b3166e49470a303e667215b0371a6675f615d", func := "letterbeck/letterbecklaw2.FrontBack", spec := "frontBack", inPlace := ["internal/bytealg.IndexByte"], unfollowed := true, recurses := true, apart := false }
def FrontBackSaid : Prop := frontBackRow.holds Try.pinned (OpenSpec.ofChange frontBackSpec)

/-- ITS FALSE NEIGHBOUR: 'it returns false'. Refute it at one input. -/
def frontBackWrong : ChangeSpec := { name := "frontBack", fn := fun _ => fun
  | [d1, d2] => { results := [.lit (.bool false)], args := [d1, d2] }
  | _ => none }
def FrontBackWrongFalsely : Prop := frontBackRow.holds Try.pinned (OpenSpec.ofChange frontBackWrong)

/-- 'letterbecklaw2.FrontNear': WHATEVER THE INPUT: true; the input reads as it did. -/
def frontNearSpec : ChangeSpec := { name := "frontNear", fn := fun _ => fun
  | [d1, d2] => { results := [.lit (.bool true)], args := [d1, d2] }
  | _ => none }
def frontNearRow : OpenClaim := { program := "ytceipfmdgpnagaa", sum := "33d674032e87022d47372871401b3166e49470a303e667215b0371a6675f615d", func := "letterbeck/letterbecklaw2.FrontNear", spec := "frontNear", inPlace := ["internal/bytealg.IndexByte"], unfollowed := true, recurses := true, apart := false }
def FrontNearSaid : Prop := frontNearRow.holds Try.pinned (OpenSpec.ofChange frontNearSpec)

/-- ITS FALSE NEIGHBOUR: 'it returns false'. Refute it at one input. -/
def frontNearWrong : ChangeSpec := { name := "frontNear", fn := fun _ => fun
  | [d1, d2] => { results := [.lit (.bool false)], args := [d1, d2] }
  | _ => none }
def FrontNearWrongFalsely : Prop := frontNearRow.holds Try.pinned (OpenSpec.ofChange frontNearWrong)

/-- 'letterbecktop.TopSmall': WHATEVER THE INPUT: true; the input reads as it did. -/
def topSmallSpec : ChangeSpec := { name := "topSmall", fn := fun _ => fun
  | [d] => { results := [.lit (.bool true)], args := [d] }
  | _ => none }
def topSmallRow : OpenClaim := { program := "ytceipfmdgpnagaa", sum := "33d674032e87022d47372871401b3166e49470a303e667215b0371a6675f615d", func := "letterbeck/letterbecktop.TopSmall", spec := "topSmall", inPlace := ["internal/bytealg.IndexByte"], unfollowed := true, recurses := true, apart := false }
def TopSmallSaid : Prop := topSmallRow.holds Try.pinned (OpenSpec.ofChange topSmallSpec)

/-- ITS FALSE NEIGHBOUR: 'it returns false'. Refute it at one input. -/
def topSmallWrong : ChangeSpec := { name := "topSmall", fn := fun _ => fun
  | [d] => { results := [.lit (.bool false)], args := [d] }
  | _ => none }
def TopSmallWrongFalsely : Prop := topSmallRow.holds Try.pinned (OpenSpec.ofChange topSmallWrong)

/- THE SECOND FORM. 'bulk': how many values and letters a reading holds, each counted each time it is reached (what is shared counts as often as it is met; a slice's spare places count too). A statement '..UptoSaid' is the law's where the arguments, and the package variables that the reading takes, are together of bulk at most 1048576: NARROWER than '..Said'. Prove '..Said' where nothing that the law and all that it calls make is longer than what came in: it says more and counts as full. Else prove '..UptoSaid'. A law counts once. -/
mutual
def uptoBulk {H : Type} : DataW H → Nat
  | .lit (.string bytes) => bytes.length + 1
  | .lit _ => 1
  | .nil => 1
  | .ptr d => uptoBulk d + 1
  | .slice elems spare => uptoBulkAll elems + uptoBulkAll spare + 1
  | .agg parts => uptoBulkAll parts + 1
  | .iface _ d => uptoBulk d + 1
  | .map entries => uptoBulkEntries entries + 1
  | .held _ => 1
def uptoBulkAll {H : Type} : List (DataW H) → Nat
  | [] => 0
  | d :: r => uptoBulk d + uptoBulkAll r
def uptoBulkEntries {H : Type} : List (Lit × DataW H) → Nat
  | [] => 0
  | x :: r => uptoBulkEntry x + uptoBulkEntries r
def uptoBulkEntry {H : Type} : Lit × DataW H → Nat
  | (.string bytes, d) => bytes.length + uptoBulk d + 1
  | (_, d) => uptoBulk d + 1
 end
def uptoSmall : (H : Type) → List (DataW H) → Bool := fun _ ds => decide (uptoBulkAll ds ≤ 1048576)
def OpenSpec.upto (s : _root_.Go.ChangeSpec) : _root_.Go.OpenSpec := { _root_.Go.OpenSpec.ofChange s with cond := some uptoSmall }

/-- 'letterbecklaw2.FrontBack', WHERE WHAT IT READS IS OF BULK AT MOST 1048576: true; the input reads as it did. -/
def frontBackUptoRow : OpenClaim := { program := "ytceipfmdgpnagaa", sum := "33d674032e87022d47372871401b3166e49470a303e667215b0371a6675f615d", func := "letterbeck/letterbecklaw2.FrontBack", spec := "frontBack", inPlace := ["internal/bytealg.IndexByte"], unfollowed := true, recurses := true, apart := false, narrowed := true }
def FrontBackUptoSaid : Prop := frontBackUptoRow.holds Try.pinned (OpenSpec.upto frontBackSpec)

/-- 'letterbecklaw2.FrontNear', WHERE WHAT IT READS IS OF BULK AT MOST 1048576: true; the input reads as it did. -/
def frontNearUptoRow : OpenClaim := { program := "ytceipfmdgpnagaa", sum := "33d674032e87022d47372871401b3166e49470a303e667215b0371a6675f615d", func := "letterbeck/letterbecklaw2.FrontNear", spec := "frontNear", inPlace := ["internal/bytealg.IndexByte"], unfollowed := true, recurses := true, apart := false, narrowed := true }
def FrontNearUptoSaid : Prop := frontNearUptoRow.holds Try.pinned (OpenSpec.upto frontNearSpec)

/-- 'letterbecktop.TopSmall', WHERE WHAT IT READS IS OF BULK AT MOST 1048576: true; the input reads as it did. -/
def topSmallUptoRow : OpenClaim := { program := "ytceipfmdgpnagaa", sum := "33d674032e87022d47372871401b3166e49470a303e667215b0371a6675f615d", func := "letterbeck/letterbecktop.TopSmall", spec := "topSmall", inPlace := ["internal/bytealg.IndexByte"], unfollowed := true, recurses := true, apart := false, narrowed := true }
def TopSmallUptoSaid : Prop := topSmallUptoRow.holds Try.pinned (OpenSpec.upto topSmallSpec)

end Rows
end Go.Proofs.Ytceipfmdgpnagaa
