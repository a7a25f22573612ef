/-
  The closed fact of the skip laws: skipFact returns true. No condition.
-/
import Derived.Test.YtllgmmdpbnfgjaaSkip
namespace Go.Proofs.Ytllgmmdpbnfgjaa
open Go.RowKit

def abcabd : ByteArray := ⟨#[97, 98, 99, 97, 98, 100]⟩
def abd : ByteArray := ⟨#[97, 98, 100]⟩
theorem abd_fst : Fst (sg abcabd) (sg abd) 6 3 3 2 := by
  have e1 : hop (sg abcabd) (sg abd) 3 1 = 3 := by decide +kernel
  have e0 : ocB (sg abcabd) (sg abd) 6 3 0 = false := by decide +kernel
  have e2 : ocB (sg abcabd) (sg abd) 6 3 3 = true := by decide +kernel
  refine ⟨1, fun i hi => ?_, .inl ⟨by rw [e1]; exact ocB_iff.1 e2, by rw [e1]; rfl, rfl⟩⟩
  obtain rfl : i = 0 := by omega
  refine ⟨by simp [hop], fun ho => ?_⟩
  have := ocB_iff.2 ho
  rw [show hop (sg abcabd) (sg abd) 3 0 = 0 from rfl, e0] at this
  cases this
theorem first_abd (w : World) : Calls Try.prog 7 #[.string ⟨#[97, 98, 99, 97, 98, 100]⟩, .string ⟨#[97, 98, 100]⟩] w fun e w' => e = .returned (.tuple #[.int .i64 3, .int .i64 2, .nilIface]) ∧ Below w.heap.size w w' := by
  refine (first_any abcabd abd w (by decide) (by decide) (by decide)).mono ?_
  rintro e w' ⟨a, k, rfl, hf, hb⟩
  obtain ⟨rfl, rfl⟩ := fst_one hf abd_fst
  exact ⟨rfl, hb⟩
theorem leap_abd (w : World) : Calls Try.prog 10 #[.string ⟨#[97, 98, 100]⟩, .int .u8 97] w fun e w' => e = .returned (.tuple #[.int .i64 2, .nilIface]) ∧ Below w.heap.size w w' := by
  have h := leap_any abd 97 w (by decide) (by decide)
  have e : lp (sg abd) abd.size 97 = 2 := by decide +kernel
  rw [e] at h
  exact h
theorem skfact_any (w : World) : Calls Try.prog 6 #[] w fun e w' => e = .returned (.bool true) ∧ Below w.heap.size w w' := by
  go_enter Try.func6, Try.ntmps6
  go_wp2_with fail
  refine (first_abd _).mono ?_
  rintro e w1 ⟨rfl, hb1⟩
  go_wp2_with fail
  refine (leap_abd _).mono ?_
  rintro e w2 ⟨rfl, hb2⟩
  have hb2 := hb1.trans (hb2.mono hb1.size)
  go_wp2
  go_ret
  exact ⟨rfl, hb2⟩
end Go.Proofs.Ytllgmmdpbnfgjaa
