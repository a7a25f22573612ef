/-
  Contract of letterbeckref2.in: it answers whether a number lies between two others, and changes nothing. No condition.
-/
import Derived.Test.YtmfpjbhgmcmceaaDoorBase
namespace Go.Proofs.YtmfpjbhgmcmceaaDoor
open Go.RowKit

theorem in2_yes (n lo hi : Int) (w : World) (h1 : lo ≤ n) (h2 : n ≤ hi) : Calls Tryd.prog 21 #[.int .i64 n, .int .i64 lo, .int .i64 hi] w fun e w' => e = .returned (.bool true) ∧ w' = w := by
  go_enter Tryd.func21, Tryd.ntmps21
  go_wp2
  go_ret
  exact ⟨by first | rfl | simp, rfl⟩
theorem in2_no (n lo hi : Int) (w : World) (h : ¬ (lo ≤ n ∧ n ≤ hi)) : Calls Tryd.prog 21 #[.int .i64 n, .int .i64 lo, .int .i64 hi] w fun e w' => e = .returned (.bool false) ∧ w' = w := by
  by_cases h1 : lo ≤ n
  · have h2 : ¬ n ≤ hi := fun h2 => h ⟨h1, h2⟩
    clear h
    go_enter Tryd.func21, Tryd.ntmps21
    go_wp2
    go_ret
    exact ⟨by first | rfl | simp [h2], rfl⟩
  · have hd : decide (lo ≤ n) = false := by simpa using h1
    clear h
    go_enter Tryd.func21, Tryd.ntmps21
    go_wp2
    go_ret
    exact ⟨by first | rfl | simp [hd], rfl⟩
end Go.Proofs.YtmfpjbhgmcmceaaDoor
