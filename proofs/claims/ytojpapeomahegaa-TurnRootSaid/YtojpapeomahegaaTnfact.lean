/-
  The closed fact of the rotations' laws: turnFact returns true. No condition.
-/
import Derived.Test.YtojpapeomahegaaTsame
import Derived.Test.YtojpapeomahegaaTroot
import Derived.Test.YtojpapeomahegaaOn
namespace Go.Proofs.Ytojpapeomahegaa
open Go.RowKit

theorem lst_fact : Lst (cy ⟨#[98, 97, 98]⟩) 3 1 := by
  have h10 : Ls (cy ⟨#[98, 97, 98]⟩) 3 1 0 := ⟨0, by omega, fun l hl => absurd hl (by omega), by decide +kernel⟩
  have h12 : Ls (cy ⟨#[98, 97, 98]⟩) 3 1 2 := ⟨0, by omega, fun l hl => absurd hl (by omega), by decide +kernel⟩
  exact lstTo_end (lstTo_no (lstTo_yes (lstTo_one _ _) h10) fun h21 => ls_irr (less_trans h12 h21))
theorem rt_fact : Rt (cy ⟨#[97, 98, 97, 98]⟩) 4 2 := by
  refine .inr ⟨by omega, by omega, fun x => ?_, fun j hj hp => ?_⟩
  · have h0 : ∀ y, y < 4 → cy ⟨#[97, 98, 97, 98]⟩ (y + 2) = cy ⟨#[97, 98, 97, 98]⟩ y := by decide +kernel
    have := h0 (x % 4) (Nat.mod_lt _ (by omega))
    have hp : Pr (cy ⟨#[97, 98, 97, 98]⟩) 4 := cy_pr ⟨#[97, 98, 97, 98]⟩
    rw [← pr_at hp (x % 4 + 2), Nat.mod_add_mod, pr_at hp, pr_at hp] at this
    exact this
  · refine Nat.le_of_not_lt fun hl => ?_
    obtain rfl : j = 1 := by omega
    exact absurd (hp 0) (by decide +kernel)
theorem same_fact : SameR ⟨#[97, 98, 99]⟩ ⟨#[99, 97, 98]⟩ := .inr ⟨2, by decide, by decide +kernel⟩

set_option maxHeartbeats 1000000 in
theorem tnfact_any (w : World) : Calls Try.prog 7 #[] w fun e w' => e = .returned (.bool true) ∧ Below w.heap.size w w' := by
  have H1 := fun W => hid (least_any ⟨#[98, 97, 98]⟩ W (by decide))
  have H2 := fun W => hid (root_any ⟨#[97, 98, 97, 98]⟩ W (by decide))
  have H3 := fun W => hid (same_any ⟨#[97, 98, 99]⟩ ⟨#[99, 97, 98]⟩ W (by decide) (by decide))
  go_enter Try.func7, Try.ntmps7
  go_wp2_with fail
  refine (H1 _).out.mono ?_
  rintro e w1 ⟨b, rfl, hl, hw1⟩
  subst w1
  obtain rfl : b = 1 := lst_one hl lst_fact
  clear H1 hl
  go_wp2_with fail
  refine (H2 _).out.mono ?_
  rintro e w2 ⟨r, rfl, hr, hb2⟩
  obtain rfl : r = 2 := rt_one hr rt_fact
  clear H2 hr
  go_wp2_with fail
  refine (H3 _).out.mono ?_
  rintro e w3 ⟨r, rfl, hr, q, hw3⟩
  have hb3 : Below w.heap.size w w3 := by rw [hw3]; exact below_drewN hb2 _
  obtain rfl : r = true := hr.2 same_fact
  clear H3 hr hw3 hb2
  go_wp2
  go_ret
  exact ⟨rfl, hb3⟩
end Go.Proofs.Ytojpapeomahegaa
