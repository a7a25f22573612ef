/-
  Contracts of letterbecksame.Error: of no error it says yes to 0, of an Errno it says yes to that number. Conditions: errors.errorType as the program's text lays it.
-/
import Derived.Test.YtdhklkpeepmedaaDoorAs
namespace Go.Proofs.YtdhklkpeepmedaaDoor
open Go.RowKit

/-- The variable errors.errorType holds the handle of the type error. -/
def Laid (w : World) : Prop := w.cell? ⟨0, 0, none⟩ = some (.iface 100 (.agg #[.pointer (some ⟨1, 29, none⟩)]))
theorem Laid.below {w w' : World} (h : Laid w) {B : Nat} (hB : 0 < B) (hb : Below B w w') : Laid w' := (hb.cell (p := ⟨0, 0, none⟩) hB).trans h
theorem Laid.pos {w : World} (h : Laid w) : 0 < w.heap.size := by
  unfold Laid at h
  rcases Nat.lt_or_ge 0 w.heap.size with h' | h'
  · exact h'
  · simp [World.cell?, Array.getElem?_eq_none h'] at h

theorem error_nil (w : World) : Calls Tryd.prog 8 #[.nilIface, .int .i64 0] w fun e w' => e = .returned (.bool true) ∧ w' = w := by
  go_enter Tryd.func8, Tryd.ntmps8
  go_wp2_with fail
  refine (told_nil _).mono ?_
  rintro e w' ⟨rfl, rfl⟩
  go_wp2
  go_ret
  exact ⟨rfl, rfl⟩
theorem error_err (k : Int) (w : World) (hg : Laid w) : Calls Tryd.prog 8 #[.iface 43 (.int .i64 k), .int .i64 k] w fun e w' => e = .returned (.bool true) ∧ Below w.heap.size w w' := by
  have hcon := told_err k w hg
  go_enter Tryd.func8, Tryd.ntmps8
  go_wp2_with fail
  refine hcon.mono ?_
  rintro e w' ⟨rfl, hb⟩
  clear hcon
  go_wp2
  go_ret
  exact ⟨by simp, hb⟩
end Go.Proofs.YtdhklkpeepmedaaDoor
