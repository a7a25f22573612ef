/-
  The closed fact of the laws on common texts: commonFact returns true. No condition.
-/
import Derived.Test.YtaodocdddfkglaaCcom
import Derived.Test.YtaodocdddfkglaaCrow
namespace Go.Proofs.Ytaodocdddfkglaa
open Go.RowKit

set_option maxHeartbeats 1000000 in
theorem cfact_any (w : World) : Calls Try.prog 7 #[] w fun e w' => e = .returned (.bool true) ∧ Below w.heap.size w w' := by
  have H1 := fun W => cof_any ⟨#[97, 98, 99, 98]⟩ ⟨#[98, 99, 97, 98]⟩ W (by decide) (by decide)
  have H2 := fun W => clong_any ⟨#[97, 98, 99, 98]⟩ ⟨#[98, 99, 97, 98]⟩ W (by decide) (by decide)
  have H3 := fun W => cwithin_any ⟨#[97, 99]⟩ ⟨#[97, 98, 99]⟩ W (by decide) (by decide)
  rw [show cmn (bs ⟨#[97, 98, 99, 98]⟩) (bs ⟨#[98, 99, 97, 98]⟩) = [98, 99, 98] from cmn_abcb] at H1 H2
  rw [show wiB (bs ⟨#[97, 99]⟩) (bs ⟨#[97, 98, 99]⟩) = true from by decide] at H3
  have H1 := hid H1
  have H2 := hid H2
  have H3 := hid H3
  go_enter Try.func7, Try.ntmps7
  go_wp2_with fail
  refine (H1.out _).mono ?_
  rintro e w1 ⟨rfl, hb1⟩
  go_wp2_with fail
  refine (H2.out _).mono ?_
  rintro e w2 ⟨rfl, hb2⟩
  have hb12 := hb1.trans (hb2.mono hb1.size)
  go_wp2_with fail
  refine (H3.out _).mono ?_
  rintro e w3 ⟨rfl, hb3⟩
  have hbw := hb12.trans (hb3.mono hb12.size)
  clear H1 H2 H3 hb1 hb2 hb3 hb12
  have hq : ((txt [98, 99, 98]).toList == [98, 99, 98]) = true := by rw [ByteArray.toList_eq]; rfl
  go_wp2_with fail
  go_ret
  exact ⟨rfl, hbw⟩
end Go.Proofs.Ytaodocdddfkglaa
