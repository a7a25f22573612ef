/-
  The closed fact of the Z laws: zetaFact returns true. No condition.
-/
import Derived.Test.YtgpailgadpndjaaZeta
import Derived.Test.YtgpailgadpndjaaInts
namespace Go.Proofs.Ytgpailgadpndjaa
open Go.RowKit

theorem zof_aabaa (w : World) : Calls Try.prog 9 #[.string ⟨#[97, 97, 98, 97, 97]⟩] w fun e w' => e = .returned (.tuple #[.slice (some ⟨w.heap.size, 0, none⟩) 5 5, .nilIface]) ∧
    OwnI w' w.heap.size 3 (.slice (some ⟨w.heap.size, 0, none⟩) 5 5) [5, 1, 0, 2, 1] ∧ Below w.heap.size w w' := by
  have h := zof_any ⟨#[97, 97, 98, 97, 97]⟩ w (by decide)
  have e : zL ⟨#[97, 97, 98, 97, 97]⟩ (ByteArray.size ⟨#[97, 97, 98, 97, 97]⟩) = [5, 1, 0, 2, 1] := by decide +kernel
  rw [e] at h
  exact h

set_option maxHeartbeats 400000 in
theorem zfact_any (w : World) : Calls Try.prog 5 #[] w fun e w' => e = .returned (.bool true) ∧ Below w.heap.size w w' := by
  go_enter Try.func5, Try.ntmps5
  go_wp2_with fail
  refine (zof_aabaa _).mono ?_
  rintro e w1 ⟨rfl, ho1, hb1⟩
  obtain ⟨A1, c1, hA1, _, hI1⟩ := IsInts.of_own ho1
  injection hA1 with hA1 _ _
  subst hA1
  have hs1 := hb1.size
  have H1 := hid (hI1.alloc (Nat.le_refl _) (.cells #[.int .i64 5, .int .i64 1, .int .i64 0, .int .i64 2, .int .i64 1] 3))
  clear hI1 ho1
  go_wp2_with fail
  refine (ints_any _ _ 5 5 _ _ [5, 1, 0, 2, 1] [5, 1, 0, 2, 1] _ _ _ (by omega) (by omega) H1.out (IsInts.lit w1 [5, 1, 0, 2, 1] _ 3 rfl)).mono ?_
  rintro e w3 ⟨rfl, q, rfl⟩
  rw [sameInts_true rfl]
  go_wp2
  go_ret
  exact ⟨rfl, below_drewN (hb1.alloc (by omega) _) q⟩
end Go.Proofs.Ytgpailgadpndjaa
