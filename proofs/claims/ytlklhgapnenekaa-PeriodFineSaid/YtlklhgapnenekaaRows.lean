/-
  No cell of these rows narrows 'for every input' (looked for: loops, veiled, ifaces, maps, wideKeys, modest, calm, conditions, laid).
  DERIVED. THE GIVEN ROWS OF THIS SEAT. 4 by the template 'for every input the law returns true; each argument reads behind the call as it read before'; 0 by the template 'total and deterministic' (their statements: YtlklhgapnenekaaTotals.lean).
  GIVEN WITH THE SEED: the statements are not yours to turn. If you find one false, say at which input.
  Laid BY PROGRAM, IN A SANDBOX (cutbox-rows.mjs): the forced cells as the released guide's own fill.sh prints them over the translation f2bde16b56bc3a48… (all of the seat's roots in one cut). By AI agents, Wed Nov 11 2026. No macro, syntax, notation, axiom, sorry.
-/
import Derived.Test.YtlklhgapnenekaaChecked
import GoSem.Claim
import GoSem.ClaimJoined
import GoSem.ClaimMapViews
import Derived.JoinedTies
import Derived.KernelRfl
namespace Go.Proofs.Ytlklhgapnenekaa
/- THE CELL 'sum', in the pinned program and in every row, IS THE sha256 OF THE DUMP (.gsa) THAT YtlklhgapnenekaaProg.lean LOADS. Nothing in Lean hashes anything: it is a label: what it is worth is what the hold of that sum in a sandbox is worth. -/
noncomputable def Try.pinned : Pinned := { name := "ytlklhgapnenekaa", sum := "f2bde16b56bc3a48e41bb49bf39aaf19b3375764122336cfd7593afc76f858db", checked := Try.checked }
namespace Rows
def none {H : Type} : Left H := { results := [], args := [] }

/-- 'letterbecklaw1.PeriodFine': WHATEVER THE INPUT: true; the input reads as it did. -/
def periodFineSpec : ChangeSpec := { name := "periodFine", fn := fun _ => fun
  | [d1, d2, d3] => { results := [.lit (.bool true)], args := [d1, d2, d3] }
  | _ => none }
def periodFineRow : OpenClaim := { program := "ytlklhgapnenekaa", sum := "f2bde16b56bc3a48e41bb49bf39aaf19b3375764122336cfd7593afc76f858db", func := "letterbeck/letterbecklaw1.PeriodFine", spec := "periodFine", apart := false }
def PeriodFineSaid : Prop := periodFineRow.holds Try.pinned (OpenSpec.ofChange periodFineSpec)

/-- ITS FALSE NEIGHBOUR: 'it returns false'. Refute it at one input. -/
def periodFineWrong : ChangeSpec := { name := "periodFine", fn := fun _ => fun
  | [d1, d2, d3] => { results := [.lit (.bool false)], args := [d1, d2, d3] }
  | _ => none }
def PeriodFineWrongFalsely : Prop := periodFineRow.holds Try.pinned (OpenSpec.ofChange periodFineWrong)

/-- 'letterbecklaw1.PeriodTimes': WHATEVER THE INPUT: true; the input reads as it did. -/
def periodTimesSpec : ChangeSpec := { name := "periodTimes", fn := fun _ => fun
  | [d1, d2, d3, d4] => { results := [.lit (.bool true)], args := [d1, d2, d3, d4] }
  | _ => none }
def periodTimesRow : OpenClaim := { program := "ytlklhgapnenekaa", sum := "f2bde16b56bc3a48e41bb49bf39aaf19b3375764122336cfd7593afc76f858db", func := "letterbeck/letterbecklaw1.PeriodTimes", spec := "periodTimes", apart := false }
def PeriodTimesSaid : Prop := periodTimesRow.holds Try.pinned (OpenSpec.ofChange periodTimesSpec)

/-- ITS FALSE NEIGHBOUR: 'it returns false'. Refute it at one input. -/
def periodTimesWrong : ChangeSpec := { name := "periodTimes", fn := fun _ => fun
  | [d1, d2, d3, d4] => { results := [.lit (.bool false)], args := [d1, d2, d3, d4] }
  | _ => none }
def PeriodTimesWrongFalsely : Prop := periodTimesRow.holds Try.pinned (OpenSpec.ofChange periodTimesWrong)

/-- 'letterbecklaw1.PeriodEdges': WHATEVER THE INPUT: true; the input reads as it did. -/
def periodEdgesSpec : ChangeSpec := { name := "periodEdges", fn := fun _ => fun
  | [d] => { results := [.lit (.bool true)], args := [d] }
  | _ => none }
def periodEdgesRow : OpenClaim := { program := "ytlklhgapnenekaa", sum := "f2bde16b56bc3a48e41bb49bf39aaf19b3375764122336cfd7593afc76f858db", func := "letterbeck/letterbecklaw1.PeriodEdges", spec := "periodEdges", apart := false }
def PeriodEdgesSaid : Prop := periodEdgesRow.holds Try.pinned (OpenSpec.ofChange periodEdgesSpec)

/-- ITS FALSE NEIGHBOUR: 'it returns false'. Refute it at one input. -/
def periodEdgesWrong : ChangeSpec := { name := "periodEdges", fn := fun _ => fun
  | [d] => { results := [.lit (.bool false)], args := [d] }
  | _ => none }
def PeriodEdgesWrongFalsely : Prop := periodEdgesRow.holds Try.pinned (OpenSpec.ofChange periodEdgesWrong)

/-- 'letterbecktop.TopPeriods': WHATEVER THE INPUT: true; the input reads as it did. -/
def topPeriodsSpec : ChangeSpec := { name := "topPeriods", fn := fun _ => fun
  | [d] => { results := [.lit (.bool true)], args := [d] }
  | _ => none }
def topPeriodsRow : OpenClaim := { program := "ytlklhgapnenekaa", sum := "f2bde16b56bc3a48e41bb49bf39aaf19b3375764122336cfd7593afc76f858db", func := "letterbeck/letterbecktop.TopPeriods", spec := "topPeriods", apart := false }
def TopPeriodsSaid : Prop := topPeriodsRow.holds Try.pinned (OpenSpec.ofChange topPeriodsSpec)

/-- ITS FALSE NEIGHBOUR: 'it returns false'. Refute it at one input. -/
def topPeriodsWrong : ChangeSpec := { name := "topPeriods", fn := fun _ => fun
  | [d] => { results := [.lit (.bool false)], args := [d] }
  | _ => none }
def TopPeriodsWrongFalsely : Prop := topPeriodsRow.holds Try.pinned (OpenSpec.ofChange topPeriodsWrong)

/- THE SECOND FORM. 'bulk': how many values and letters a reading holds, each counted each time it is reached (what is shared counts as often as it is met; a slice's spare places count too). A statement '..UptoSaid' is the law's where the arguments, and the package variables that the reading takes, are together of bulk at most 1048576: NARROWER than '..Said'. Prove '..Said' where nothing that the law and all that it calls make is longer than what came in: it says more and counts as full. Else prove '..UptoSaid'. A law counts once. -/
mutual
def uptoBulk {H : Type} : DataW H → Nat
  | .lit (.string bytes) => bytes.length + 1
  | .lit _ => 1
  | .nil => 1
  | .ptr d => uptoBulk d + 1
  | .slice elems spare => uptoBulkAll elems + uptoBulkAll spare + 1
  | .agg parts => uptoBulkAll parts + 1
  | .iface _ d => uptoBulk d + 1
  | .map entries => uptoBulkEntries entries + 1
  | .held _ => 1
def uptoBulkAll {H : Type} : List (DataW H) → Nat
  | [] => 0
  | d :: r => uptoBulk d + uptoBulkAll r
def uptoBulkEntries {H : Type} : List (Lit × DataW H) → Nat
  | [] => 0
  | x :: r => uptoBulkEntry x + uptoBulkEntries r
def uptoBulkEntry {H : Type} : Lit × DataW H → Nat
  | (.string bytes, d) => bytes.length + uptoBulk d + 1
  | (_, d) => uptoBulk d + 1
 end
def uptoSmall : (H : Type) → List (DataW H) → Bool := fun _ ds => decide (uptoBulkAll ds ≤ 1048576)
def OpenSpec.upto (s : _root_.Go.ChangeSpec) : _root_.Go.OpenSpec := { _root_.Go.OpenSpec.ofChange s with cond := some uptoSmall }

/-- 'letterbecklaw1.PeriodFine', WHERE WHAT IT READS IS OF BULK AT MOST 1048576: true; the input reads as it did. -/
def periodFineUptoRow : OpenClaim := { program := "ytlklhgapnenekaa", sum := "f2bde16b56bc3a48e41bb49bf39aaf19b3375764122336cfd7593afc76f858db", func := "letterbeck/letterbecklaw1.PeriodFine", spec := "periodFine", apart := false, narrowed := true }
def PeriodFineUptoSaid : Prop := periodFineUptoRow.holds Try.pinned (OpenSpec.upto periodFineSpec)

/-- 'letterbecklaw1.PeriodTimes', WHERE WHAT IT READS IS OF BULK AT MOST 1048576: true; the input reads as it did. -/
def periodTimesUptoRow : OpenClaim := { program := "ytlklhgapnenekaa", sum := "f2bde16b56bc3a48e41bb49bf39aaf19b3375764122336cfd7593afc76f858db", func := "letterbeck/letterbecklaw1.PeriodTimes", spec := "periodTimes", apart := false, narrowed := true }
def PeriodTimesUptoSaid : Prop := periodTimesUptoRow.holds Try.pinned (OpenSpec.upto periodTimesSpec)

/-- 'letterbecklaw1.PeriodEdges', WHERE WHAT IT READS IS OF BULK AT MOST 1048576: true; the input reads as it did. -/
def periodEdgesUptoRow : OpenClaim := { program := "ytlklhgapnenekaa", sum := "f2bde16b56bc3a48e41bb49bf39aaf19b3375764122336cfd7593afc76f858db", func := "letterbeck/letterbecklaw1.PeriodEdges", spec := "periodEdges", apart := false, narrowed := true }
def PeriodEdgesUptoSaid : Prop := periodEdgesUptoRow.holds Try.pinned (OpenSpec.upto periodEdgesSpec)

/-- 'letterbecktop.TopPeriods', WHERE WHAT IT READS IS OF BULK AT MOST 1048576: true; the input reads as it did. -/
def topPeriodsUptoRow : OpenClaim := { program := "ytlklhgapnenekaa", sum := "f2bde16b56bc3a48e41bb49bf39aaf19b3375764122336cfd7593afc76f858db", func := "letterbeck/letterbecktop.TopPeriods", spec := "topPeriods", apart := false, narrowed := true }
def TopPeriodsUptoSaid : Prop := topPeriodsUptoRow.holds Try.pinned (OpenSpec.upto topPeriodsSpec)

end Rows
end Go.Proofs.Ytlklhgapnenekaa
