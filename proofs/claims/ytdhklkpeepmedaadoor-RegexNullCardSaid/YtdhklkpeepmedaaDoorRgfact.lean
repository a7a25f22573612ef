/-
  Contract of letterbecklaw3.regexFact: it is true; the old memory is left alone. Conditions: errors.errorType as the program's text lays it.
-/
import Derived.Test.YtdhklkpeepmedaaDoorErr
import Derived.Test.YtdhklkpeepmedaaDoorRgx
import Derived.Test.YtdhklkpeepmedaaDoorStr
namespace Go.Proofs.YtdhklkpeepmedaaDoor
open Go.RowKit

theorem rg_sgn : sgnL (bs (txt [98, 97, 124, 97])) = [97, 98] := by rw [bs_txt]; decide
theorem rg_ltr : ((bs (txt [98, 97, 124, 97])).filter ltr).length = 3 := by rw [bs_txt]; decide
set_option maxHeartbeats 4000000 in
set_option maxRecDepth 100000 in
theorem regexFact_any (w0 w : World) (hg : Laid w0) (hb0 : Below w0.heap.size w0 w) :
    Calls Tryd.prog 15 #[] w fun e w' => e = .returned (.bool true) ∧ Below w.heap.size w w' := by
  have hp := hg.pos
  have H1 := fun W => hid (rgnull_ok (txt [97, 42, 124, 98]) _ W rg_one)
  have H2 := fun W => hid (rgsigns_ok (txt [98, 97, 124, 97]) _ W rg_ba)
  have H3 := fun W => hid (rgcheck_bad (txt [40, 97]) 2 W (by decide) rg_opena)
  have H4 := fun W => hid (rgcheck_bad (txt [42]) 2 W (by decide) rg_stars)
  have HE := fun W (h : Below w0.heap.size w0 W) => hid (error_err 2 W (hg.below hp h))
  rw [rg_sgn, rg_ltr] at H2
  have hab : ((txt [97, 98]).toList == [97, 98]) = true := by rw [ByteArray.toList_eq]; rfl
  have hn : nul (.alt (.star (.ch (97 : UInt8))) (.ch 98)) = true := rfl
  rw [hn] at H1
  clear hg hp hn
  generalize txt [97, 98] = t at H2 hab
  unfold txt at H1 H2 H3 H4
  go_enter Tryd.func15, Tryd.ntmps15
  go_wp2_with fail
  refine (H1 _).out.mono ?_
  rintro e w1 ⟨rfl, hb1⟩
  have hbA := hb0.trans (hb1.mono hb0.size)
  go_wp2_with fail
  refine (H2 _).out.mono ?_
  rintro e w2 ⟨rfl, hb2⟩
  have hbB := hbA.trans (hb2.mono hbA.size)
  have hw2 := hb1.trans (hb2.mono hb1.size)
  clear H1 H2 hb1 hbA hb2
  go_wp2_with fail
  refine (H3 _).out.mono ?_
  rintro e w3 ⟨rfl, hb3⟩
  have hbC := hbB.trans (hb3.mono hbB.size)
  have hw3 := hw2.trans (hb3.mono hw2.size)
  clear H3 hbB hb3 hw2
  go_wp2_with fail
  refine (HE _ hbC).out.mono ?_
  rintro e w4 ⟨rfl, hb4⟩
  have hbD := hbC.trans (hb4.mono hbC.size)
  have hw4 := hw3.trans (hb4.mono hw3.size)
  clear hbC hb4 hw3
  go_wp2_with fail
  refine (H4 _).out.mono ?_
  rintro e w5 ⟨rfl, hb5⟩
  have hbE := hbD.trans (hb5.mono hbD.size)
  have hw5 := hw4.trans (hb5.mono hw4.size)
  clear H4 hbD hb5 hw4
  go_wp2_with fail
  refine (HE _ hbE).out.mono ?_
  rintro e w6 ⟨rfl, hb6⟩
  have hw6 := hw5.trans (hb6.mono hw5.size)
  clear HE hbE hb6 hw5
  go_wp2_with fail
  go_ret
  exact ⟨by first | rfl | simp, hw6⟩
end Go.Proofs.YtdhklkpeepmedaaDoor
