/-
  The closed fact of the Lyndon words' laws: lyndonFact returns true. No condition.
-/
import Derived.Test.YtoopnkjgdgbmnaaLyndon
import Derived.Test.YtoopnkjgdgbmnaaInts
namespace Go.Proofs.Ytoopnkjgdgbmnaa
open Go.RowKit

instance (f : Nat → UInt8) (n i : Nat) : Decidable (Upl f n i) :=
  decidable_of_iff (∃ k, k < n ∧ i + k < n ∧ (∀ l, l < k → f l = f (i + l)) ∧ f k < f (i + k)) ⟨fun ⟨k, _, h⟩ => ⟨k, h⟩, fun ⟨k, h⟩ => ⟨k, by omega, h⟩⟩
instance (f : Nat → UInt8) (n : Nat) : Decidable (Lyn f n) :=
  decidable_of_iff (0 < n ∧ ∀ i, i < n → 0 < i → Upl f n i) ⟨fun ⟨a, h⟩ => ⟨a, fun i h1 h2 => h i h2 h1⟩, fun ⟨a, h⟩ => ⟨a, fun i h1 h2 => h i h2 h1⟩⟩
instance (f : Nat → UInt8) (n w : Nat) : Decidable (Lgw f n w) :=
  decidable_of_iff (w ≤ n ∧ Lyn f w ∧ ∀ m, m < n + 1 → w < m → ¬ Lyn f m) ⟨fun ⟨a, b, h⟩ => ⟨a, b, fun m h1 h2 => h m (by omega) h1⟩, fun ⟨a, b, h⟩ => ⟨a, b, fun m h1 h2 => h m h2 (by omega)⟩⟩
theorem banana_rest : Rest (sg ⟨#[98, 97, 110, 97, 110, 97]⟩) 6 0 [1, 2, 2, 1] :=
  .step (w := 1) (by omega) (by decide +kernel) (.step (w := 2) (by omega) (by decide +kernel) (.step (w := 2) (by omega) (by decide +kernel) (.step (w := 1) (by omega) (by decide +kernel) .done)))
theorem aab_is : lynB ⟨#[97, 97, 98]⟩ = true := lynB_yes (by decide +kernel)
theorem parts_banana (w : World) : Calls Try.prog 7 #[.string ⟨#[98, 97, 110, 97, 110, 97]⟩] w fun e w' => ∃ A c, e = .returned (.tuple #[.slice A 4 c, .nilIface]) ∧ IsInts w' w'.heap.size A 4 [1, 2, 2, 1] ∧ Below w.heap.size w w' :=
  (parts_any ⟨#[98, 97, 110, 97, 110, 97]⟩ w (by decide)).mono fun e w' ⟨v, xs, h1, h2, h3, h4⟩ => by
    obtain rfl : xs = [1, 2, 2, 1] := rest_one h2 banana_rest
    obtain ⟨A, c, rfl, hI⟩ := own_n (n := 4) h3 rfl
    exact ⟨A, c, h1, hI, h4⟩

set_option maxHeartbeats 400000 in
theorem lnfact_any (w : World) : Calls Try.prog 6 #[] w fun e w' => e = .returned (.bool true) ∧ Below w.heap.size w w' := by
  have H2 := fun W => hid (is_any ⟨#[97, 97, 98]⟩ W (by decide))
  rw [aab_is] at H2
  go_enter Try.func6, Try.ntmps6
  go_wp2_with fail
  refine (parts_banana _).mono ?_
  rintro e w1 ⟨A, c, rfl, hI, hb1⟩
  go_wp2_with fail
  refine (H2 _).out.mono ?_
  rintro e w2 ⟨rfl, hc2⟩
  have hb2 := Below.on hb1 hc2 (Nat.le_refl _)
  have hs2 := hb2.size
  have HI := hid ((hI.up hc2).alloc (Nat.le_refl _) (.cells #[.int .i64 1, .int .i64 2, .int .i64 2, .int .i64 1] 3))
  clear H2 hI hc2 hb1
  go_wp2_with fail
  refine (ints_yes _ _ 4 4 _ _ [1, 2, 2, 1] _ _ _ (by omega) (by omega) HI.out (IsInts.lit w2 [1, 2, 2, 1] _ 3 rfl)).mono ?_
  rintro e w3 ⟨rfl, q, rfl⟩
  go_wp2
  go_ret
  exact ⟨rfl, below_drewN (hb2.alloc hs2 _) q⟩
end Go.Proofs.Ytoopnkjgdgbmnaa
