/-
  The closed fact of the laws on runs: runsFact returns true. No condition.
-/
import Derived.Test.YtpnnaomkbncbeaaRwrite
import Derived.Test.YtpnnaomkbncbeaaRread
import Derived.Test.YtpnnaomkbncbeaaRsame
namespace Go.Proofs.Ytpnnaomkbncbeaa
open Go.RowKit

theorem good_lit : Good [(97, 2), (98, 1)] := ⟨by decide, fun q h => by obtain rfl : (98, 1) = q := by simpa using h
                                                                        decide, by decide, fun q h => by simp at h, trivial⟩
theorem ok_lit : OkTo [(120, 3)] 1 := okTo_good.2 ⟨⟨by decide, fun q h => by simp at h, trivial⟩, by decide⟩
theorem read_fact (w : World) : Calls Try.prog 8 #[.slice (some ⟨w.heap.size, 0, none⟩) 1 1] (w.alloc (.cells #[.int .u8 120, .int .i64 3] 35)) fun e w' =>
    e = .returned (.tuple #[.string ⟨#[120, 120, 120]⟩, .nilIface]) ∧ Below w.heap.size w w' := by
  have hb : Below w.heap.size w (w.alloc (.cells #[.int .u8 120, .int .i64 3] 35)) := (Below.refl _ _).alloc (Nat.le_refl _) _
  have hI := (IsRuns.lit w [(120, 3)] #[.int .u8 120, .int .i64 3] 35 rfl).keep (B' := (w.alloc (.cells #[.int .u8 120, .int .i64 3] 35)).heap.size) (by simp) fun _ _ _ => rfl
  exact (read_ok _ 1 1 [(120, 3)] _ (by unfold maxLen; omega) hI ok_lit).mono fun e w' ⟨he, hb'⟩ => ⟨he, hb.trans (hb'.mono hb.size)⟩

set_option maxHeartbeats 1000000 in
theorem rfact_any (w : World) : Calls Try.prog 6 #[] w fun e w' => e = .returned (.bool true) ∧ Below w.heap.size w w' := by
  have H1 := hid (write_is ⟨#[97, 97, 98]⟩ [(97, 2), (98, 1)] w (by decide) good_lit (by decide))
  go_enter Try.func6, Try.ntmps6
  go_wp2_with fail
  refine H1.out.mono ?_
  rintro e w1 ⟨A1, c1, rfl, hI1, hb1⟩
  have HI1 := hid hI1
  clear hI1 H1
  change Hid (IsRuns w1 w1.heap.size A1 2 [(97, 2), (98, 1)]) at HI1
  go_wp2_with fail
  refine (read_fact w1).mono ?_
  rintro e w2 ⟨rfl, hb2⟩
  have HI3 := hid (HI1.out.on hb2)
  have hb12 := hb1.trans (hb2.mono hb1.size)
  clear HI1 hb1 hb2
  have HB : Hid (∀ o, Below w2.heap.size w2 (w2.alloc o)) := hid fun o => (Below.refl _ _).alloc (Nat.le_refl _) _
  have HC := hid (runs_yes A1 (some ⟨w2.heap.size, 0, none⟩) 2 c1 2 [(97, 2), (98, 1)] _ _ _ (by omega) (HI3.out.below (HB.out _)) (IsRuns.lit w2 [(97, 2), (98, 1)] #[.int .u8 97, .int .i64 2, .int .u8 98, .int .i64 1] 35 rfl))
  go_wp2_with fail
  refine HC.out.mono ?_
  rintro e w3 ⟨rfl, q, hw3⟩
  have hb3 : Below w2.heap.size w2 w3 := by rw [hw3]; exact below_drewN (HB.out _) q
  have hb13 := hb12.trans (hb3.mono hb12.size)
  clear hw3 HC HB hb3 hb12
  go_wp2_with fail
  go_ret
  exact ⟨rfl, hb13⟩
end Go.Proofs.Ytpnnaomkbncbeaa
