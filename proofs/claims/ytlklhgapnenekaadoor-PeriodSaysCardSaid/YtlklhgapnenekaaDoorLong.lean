/-
  Contract of letterbecklaw1.long: 4 of a text that is too long, else 0. Conditions: the row's own size.
-/
import Derived.Test.YtlklhgapnenekaaDoorBase
namespace Go.Proofs.YtlklhgapnenekaaDoor
open Go.RowKit

theorem long_no (s : ByteArray) (w : World) (h : s.size ≤ 24) : Calls Tryd.prog 4 #[.string s] w fun e w' => e = .returned (.int .i64 0) ∧ w' = w := by
  go_enter Tryd.func4, Tryd.ntmps4
  go_wp2
  go_ret
  exact ⟨rfl, rfl⟩
theorem long_yes (s : ByteArray) (w : World) (h : 24 < s.size) (hs : s.size ≤ maxLen) : Calls Tryd.prog 4 #[.string s] w fun e w' => e = .returned (.int .i64 4) ∧ w' = w := by
  unfold maxLen at hs
  go_enter Tryd.func4, Tryd.ntmps4
  go_wp2
  go_ret
  exact ⟨rfl, rfl⟩

end Go.Proofs.YtlklhgapnenekaaDoor
