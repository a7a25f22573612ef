/-
  The closed fact of the find laws: findFact returns true. No condition.
-/
import Derived.Test.YtdlekgockdahfaaFind
import Derived.Test.YtdlekgockdahfaaInts
namespace Go.Proofs.Ytdlekgockdahfaa
open Go.RowKit

theorem fall_aaaa (w : World) : Calls Try.prog 8 #[.string ⟨#[97, 97, 97, 97]⟩, .string ⟨#[97, 97]⟩] w fun e w' => ∃ v, e = .returned (.tuple #[v, .nilIface]) ∧
    OwnI w' w.heap.size 3 v [0, 1, 2] ∧ Below w.heap.size w w' := by
  have h := fall_any ⟨#[97, 97, 97, 97]⟩ ⟨#[97, 97]⟩ w (by decide) (by decide) (by decide)
  have e : occL ⟨#[97, 97, 97, 97]⟩ ⟨#[97, 97]⟩ = [0, 1, 2] := by decide +kernel
  rw [e] at h
  exact h
theorem apart_aaaa (w : World) : Calls Try.prog 11 #[.string ⟨#[97, 97, 97, 97]⟩, .string ⟨#[97, 97]⟩] w fun e w' => e = .returned (.tuple #[.int .i64 2, .nilIface]) ∧ Below w.heap.size w w' := by
  have h := apart_any ⟨#[97, 97, 97, 97]⟩ ⟨#[97, 97]⟩ w (by decide) (by decide) (by decide)
  have e : (apL (ByteArray.size ⟨#[97, 97]⟩) (occL ⟨#[97, 97, 97, 97]⟩ ⟨#[97, 97]⟩)).1 = 2 := by decide +kernel
  rw [e] at h
  exact h

set_option maxHeartbeats 400000 in
theorem ffact_any (w : World) : Calls Try.prog 7 #[] w fun e w' => e = .returned (.bool true) ∧ Below w.heap.size w w' := by
  go_enter Try.func7, Try.ntmps7
  go_wp2_with fail
  refine (fall_aaaa _).mono ?_
  rintro e w1 ⟨v, rfl, ho1, hb1⟩
  obtain ⟨A1, c1, rfl, _, hI1⟩ := IsInts.of_own ho1
  clear ho1
  go_wp2_with fail
  refine (apart_aaaa _).mono ?_
  rintro e w2 ⟨rfl, hb2⟩
  have hI2 := hI1.below hb2
  have hs1 := hb1.size
  have hs2 := hb2.size
  have hb2 := hb1.trans (hb2.mono hs1)
  have H1 := hid (hI2.alloc hs2 (.cells #[.int .i64 0, .int .i64 1, .int .i64 2] 3))
  clear hI1 hI2
  go_wp2_with fail
  refine (ints_any _ _ 3 3 _ _ [0, 1, 2] [0, 1, 2] _ _ _ (by omega) (by omega) H1.out (IsInts.lit w2 [0, 1, 2] _ 3 rfl)).mono ?_
  rintro e w3 ⟨rfl, q, rfl⟩
  rw [sameInts_true rfl]
  go_wp2
  go_ret
  exact ⟨rfl, below_drewN (hb2.alloc (by omega) _) q⟩
end Go.Proofs.Ytdlekgockdahfaa
