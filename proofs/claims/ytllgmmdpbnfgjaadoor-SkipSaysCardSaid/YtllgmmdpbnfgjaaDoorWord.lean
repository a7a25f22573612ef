/-
  Contract of letterbeckref1.Word: what is wrong with a text and a word: 4, 5 or 0. Conditions: the row's own sizes.
-/
import Derived.Test.YtllgmmdpbnfgjaaDoorCheck
namespace Go.Proofs.YtllgmmdpbnfgjaaDoor
open Go.RowKit

theorem word_ok (t u : ByteArray) (w : World) (h1 : t.size ≤ 24) (h2 : u.size ≤ 24) (h0 : 0 < u.size) :
    Calls Tryd.prog 4 #[.string t, .string u] w fun e w' => e = .returned (.int .i64 0) ∧ w' = w := by
  have hq : ((u.size : Int) == 0) = false := beq_eq_false_iff_ne.2 (by omega)
  go_enter Tryd.func4, Tryd.ntmps4
  go_wp2
  go_ret
  exact ⟨rfl, rfl⟩
theorem word_bad (t u : ByteArray) (k : Int) (w : World) (h : BadW t u k) (ht : t.size ≤ maxLen) (hu : u.size ≤ maxLen) :
    Calls Tryd.prog 4 #[.string t, .string u] w fun e w' => e = .returned (.int .i64 k) ∧ w' = w := by
  unfold maxLen at ht hu
  rcases h with ⟨rfl, h⟩ | ⟨rfl, h1, h2⟩
  · by_cases h1 : 24 < t.size
    · clear h
      go_enter Tryd.func4, Tryd.ntmps4
      go_wp2
      go_ret
      exact ⟨rfl, rfl⟩
    · have h2 : 24 < u.size := by omega
      have h1 : t.size ≤ 24 := by omega
      clear h
      go_enter Tryd.func4, Tryd.ntmps4
      go_wp2
      go_ret
      exact ⟨rfl, rfl⟩
  · have hq : ((u.size : Int) == 0) = true := by simp [h2]
    have h3 : u.size ≤ 24 := by omega
    clear h2
    go_enter Tryd.func4, Tryd.ntmps4
    go_wp2
    go_ret
    exact ⟨rfl, rfl⟩
end Go.Proofs.YtllgmmdpbnfgjaaDoor
