/-
  The closed fact of the laws on brackets: dyckFact returns true. No condition.
-/
import Derived.Test.YtlbefiaieehcfaaDyk
namespace Go.Proofs.Ytlbefiaieehcfaa
open Go.RowKit

theorem br_two : brS ⟨#[40, 41, 40, 41]⟩ = 0 := by decide
set_option maxHeartbeats 1000000 in
theorem dkfact_any (w : World) : Calls Try.prog 7 #[] w fun e w' => e = .returned (.bool true) ∧ Below w.heap.size w w' := by
  have H1 := dmany_any 3 w (by omega)
  rw [bl_three] at H1
  have H1 := hid H1
  have H2 := fun W => hid (dat_ok 2 1 _ W (by omega) ev_two)
  have H3 := fun W => dplace_ok ⟨#[40, 41, 40, 41]⟩ W br_two
  rw [show rk 0 (bs ⟨#[40, 41, 40, 41]⟩) = 1 from rk_two] at H3
  have H3 := fun W => hid (H3 W)
  have hq : ((txt [40, 41, 40, 41]).toList == [40, 41, 40, 41]) = true := by rw [ByteArray.toList_eq]; rfl
  generalize txt [40, 41, 40, 41] = t at H2 hq
  go_enter Try.func7, Try.ntmps7
  go_wp2_with fail
  refine H1.out.mono ?_
  rintro e w1 ⟨rfl, hb1⟩
  clear H1
  go_wp2_with fail
  refine (H2 _).out.mono ?_
  rintro e w2 ⟨rfl, hb2⟩
  have hbA := hb1.trans (hb2.mono hb1.size)
  clear H2 hb1 hb2
  go_wp2_with fail
  refine (H3 _).out.mono ?_
  rintro e w3 ⟨rfl, hb3⟩
  have hbB := hbA.trans (hb3.mono hbA.size)
  clear H3 hbA hb3
  go_wp2_with fail
  go_ret
  exact ⟨by first | rfl | simp, hbB⟩
/-- How many there are, by Catalan's number. -/
theorem dmany_cat (n : Nat) (w : World) (hn : n ≤ 8) :
    Calls Try.prog 8 #[.int .i64 (n : Int)] w fun e w' => e = .returned (.tuple #[.int .i64 (cat n : Nat), .nilIface]) ∧ Below w.heap.size w w' := by
  rw [← bal_cat n hn]
  exact dmany_any n w hn
end Go.Proofs.Ytlbefiaieehcfaa
