/-
  Contract of letterbeckref2.List: what is wrong with a list. Conditions: none but the sizes that a row itself sets.
-/
import Derived.Test.YtmfpjbhgmcmceaaDoorBase
import Derived.Test.YtmfpjbhgmcmceaaDoorRsgood
import Derived.Test.YtmfpjbhgmcmceaaDoorAllr
namespace Go.Proofs.YtmfpjbhgmcmceaaDoor
open Go.RowKit

theorem goodR_in {l : List Int} (h : GoodR l) : InL 0 1000 l := fun _ hi => goodR_at h hi
theorem rlist_ok (A : Option Addr) (n c : Nat) (l : List Int) (w : World) (hl : IsInts w w.heap.size A n l) (hg : GoodR l) :
    Calls Tryd.prog 4 #[.slice A n c] w fun e w' => e = .returned (.int .i64 0) ∧ w' = w := by
  have hn : n ≤ 20 := by rw [← hl.1]; exact hg.1
  have H1 := hid ((rallin_any A n c l 0 1000 w (by omega) hl).mono fun e w' ⟨h, hw⟩ => (show e = Ending.returned (.bool true) ∧ w' = w from ⟨by
    rcases h with ⟨_, h⟩ | ⟨h, _⟩
    · exact h
    · exact absurd (goodR_in hg) h, hw⟩))
  clear hl hg
  go_enter Tryd.func4, Tryd.ntmps4
  go_wp2_with fail
  refine H1.out.mono ?_
  rintro e w1 ⟨rfl, hw1⟩
  subst w1
  go_wp2_with fail
  go_ret
  exact ⟨rfl, rfl⟩
theorem rlist_bad (A : Option Addr) (n c : Nat) (l : List Int) (k : Int) (w : World) (hn : n ≤ maxLen) (hl : IsInts w w.heap.size A n l) (hk : BadR l k) :
    Calls Tryd.prog 4 #[.slice A n c] w fun e w' => e = .returned (.int .i64 k) ∧ w' = w := by
  unfold maxLen at hn
  have hln := hl.1
  rcases hk with ⟨h1, rfl⟩ | ⟨h1, rfl, i, hi, h2⟩
  · have h20 : 20 < n := by omega
    clear hl hln h1
    go_enter Tryd.func4, Tryd.ntmps4
    go_wp2_with fail
    go_ret
    exact ⟨rfl, rfl⟩
  · have h20 : n ≤ 20 := by omega
    have H1 := hid ((rallin_any A n c l 0 1000 w (by omega) hl).mono fun e w' ⟨h, hw⟩ => (show e = Ending.returned (.bool false) ∧ w' = w from ⟨by
      rcases h with ⟨h, _⟩ | ⟨_, h⟩
      · exact absurd (h i hi) h2
      · exact h, hw⟩))
    clear hl hln h1 hi h2
    go_enter Tryd.func4, Tryd.ntmps4
    go_wp2_with fail
    refine H1.out.mono ?_
    rintro e w1 ⟨rfl, hw1⟩
    subst w1
    go_wp2_with fail
    go_ret
    exact ⟨rfl, rfl⟩
end Go.Proofs.YtmfpjbhgmcmceaaDoor
