/-
  Contract of letterbecklaw2.long: 4 of a text that is longer than it may be, else 0. Conditions: the row's own size.
-/
import Derived.Test.YtaodocdddfkglaaDoorBase
namespace Go.Proofs.YtaodocdddfkglaaDoor
open Go.RowKit

theorem long2_no (s : ByteArray) (m : Nat) (w : World) (h : s.size ≤ m) : Calls Tryd.prog 4 #[.string s, .int .i64 (m : Int)] w fun e w' => e = .returned (.int .i64 0) ∧ w' = w := by
  go_enter Tryd.func4, Tryd.ntmps4
  go_wp2
  go_ret
  exact ⟨rfl, rfl⟩
theorem long2_yes (s : ByteArray) (m : Nat) (w : World) (h : m < s.size) : Calls Tryd.prog 4 #[.string s, .int .i64 (m : Int)] w fun e w' => e = .returned (.int .i64 4) ∧ w' = w := by

  go_enter Tryd.func4, Tryd.ntmps4
  go_wp2
  go_ret
  exact ⟨rfl, rfl⟩
end Go.Proofs.YtaodocdddfkglaaDoor
