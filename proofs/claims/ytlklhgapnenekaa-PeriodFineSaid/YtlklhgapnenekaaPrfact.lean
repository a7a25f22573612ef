/-
  The closed fact of the periods' laws: periodFact returns true. No condition.
-/
import Derived.Test.YtlklhgapnenekaaPeri
import Derived.Test.YtlklhgapnenekaaInts
namespace Go.Proofs.Ytlklhgapnenekaa
open Go.RowKit

theorem pall_abaab (w : World) : Calls Try.prog 10 #[.string ⟨#[97, 98, 97, 97, 98]⟩] w fun e w' => ∃ A c, e = .returned (.tuple #[.slice A 2 c, .nilIface]) ∧ IsInts w' w'.heap.size A 2 [3, 5] ∧ Below w.heap.size w w' :=
  (pall_any ⟨#[97, 98, 97, 97, 98]⟩ w (by decide)).mono fun e w' ⟨v, h1, h3, h4⟩ => by
    have he : perL ⟨#[97, 98, 97, 97, 98]⟩ = [3, 5] := by decide +kernel
    rw [he] at h3
    obtain ⟨A, c, rfl, hI⟩ := own_n (n := 2) h3 rfl
    exact ⟨A, c, h1, hI, h4⟩
theorem abab_has : hasB ⟨#[97, 98, 97, 98]⟩ 2 = true := by decide +kernel

set_option maxHeartbeats 400000 in
theorem prfact_any (w : World) : Calls Try.prog 7 #[] w fun e w' => e = .returned (.bool true) ∧ Below w.heap.size w w' := by
  have H2 := fun W => hid (has_any ⟨#[97, 98, 97, 98]⟩ 2 W (by decide))
  rw [abab_has] at H2
  go_enter Try.func7, Try.ntmps7
  go_wp2_with fail
  refine (pall_abaab _).mono ?_
  rintro e w1 ⟨A, c, rfl, hI, hb1⟩
  go_wp2_with fail
  refine (H2 _).out.mono ?_
  rintro e w2 ⟨rfl, hw2⟩
  subst w2
  have hs1 := hb1.size
  have HI := hid (hI.alloc (Nat.le_refl _) (.cells #[.int .i64 3, .int .i64 5] 3))
  clear H2 hI
  go_wp2_with fail
  refine (ints_yes _ _ 2 2 _ _ [3, 5] _ _ _ (by omega) (by omega) HI.out (IsInts.lit w1 [3, 5] _ 3 rfl)).mono ?_
  rintro e w3 ⟨rfl, q, rfl⟩
  go_wp2
  go_ret
  exact ⟨rfl, below_drewN (hb1.alloc hs1 _) q⟩
end Go.Proofs.Ytlklhgapnenekaa
