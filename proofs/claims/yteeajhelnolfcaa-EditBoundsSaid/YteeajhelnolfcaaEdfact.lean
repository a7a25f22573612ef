/-
  The closed fact of the laws on distances: editFact returns true. No condition.
-/
import Derived.Test.YteeajhelnolfcaaEfar
import Derived.Test.YteeajhelnolfcaaEstp
import Derived.Test.YteeajhelnolfcaaEdrow
namespace Go.Proofs.Yteeajhelnolfcaa
open Go.RowKit

set_option maxHeartbeats 1000000 in
theorem efact_any (w : World) : Calls Try.prog 7 #[] w fun e w' => e = .returned (.bool true) ∧ Below w.heap.size w w' := by
  have H1 := fun W => efar_any ⟨#[107, 105, 116, 116, 101, 110]⟩ ⟨#[115, 105, 116, 116, 105, 110, 103]⟩ W (by decide) (by decide)
  rw [show far (bs ⟨#[107, 105, 116, 116, 101, 110]⟩) (bs ⟨#[115, 105, 116, 116, 105, 110, 103]⟩) = 3 from far_kitten] at H1
  have H1 := hid H1
  have H2 := fun W => hid (esteps_any ⟨#[97, 98]⟩ ⟨#[98]⟩ W (by decide) (by decide))
  go_enter Try.func7, Try.ntmps7
  go_wp2_with fail
  refine (H1.out _).mono ?_
  rintro e w1 ⟨rfl, hb1⟩
  go_wp2_with fail
  refine (H2 _).out.mono ?_
  rintro e w2 ⟨⟨o, rfl, ho⟩, hb2⟩
  obtain rfl : o = [45, 61] := least_one ho least_ab
  have hbw := hb1.trans (hb2.mono hb1.size)
  clear H1 H2 hb1 hb2 ho
  have hq : ((txt [45, 61]).toList == [45, 61]) = true := by rw [ByteArray.toList_eq]; rfl
  go_wp2_with fail
  go_ret
  exact ⟨rfl, hbw⟩
end Go.Proofs.Yteeajhelnolfcaa
