/-
  The walk of EditSays: it returns true for every two texts, and leaves the old memory alone. Conditions: the row's own sizes; errors.errorType as the program's text lays it.
-/
import Derived.Test.YteeajhelnolfcaaDoorErr
import Derived.Test.YteeajhelnolfcaaDoorLong2
import Derived.Test.YteeajhelnolfcaaDoorSteps
import Derived.Test.YteeajhelnolfcaaDoorEfar
import Derived.Test.YteeajhelnolfcaaDoorEstp
import Derived.Test.YteeajhelnolfcaaDoorStr
namespace Go.Proofs.YteeajhelnolfcaaDoor
open Go.RowKit

set_option maxHeartbeats 4000000 in
set_option maxRecDepth 100000 in
theorem editSays_any (a b : ByteArray) (w : World) (ha : a.size ≤ maxLen) (hb : b.size ≤ maxLen) (hg : Laid w) :
    Calls Tryd.prog 3 #[.string a, .string b] w fun e w' => e = .returned (.bool true) ∧ Below w.heap.size w w' := by
  have hp := hg.pos
  by_cases h : a.size ≤ 24 ∧ b.size ≤ 24
  · obtain ⟨ha2, hb2⟩ := h
    have H1 := fun W => hid (long2_no a 24 W ha2)
    have H2 := fun W => hid (long2_no b 24 W hb2)
    have H3 := fun W => hid (rtable_any a b W ha2 hb2)
    have H4 := fun W => hid (rsteps_any a b W ha2 hb2)
    have H5 := fun W => hid (efar_any a b W ha2 hb2)
    have H6 := fun W => hid (esteps_any a b W ha2 hb2)
    clear ha hb hg hp
    go_enter Tryd.func3, Tryd.ntmps3
    go_wp2_with fail
    refine (H1 _).out.mono ?_
    rintro e w1 ⟨rfl, hw1⟩
    subst w1
    go_wp2_with fail
    refine (H2 _).out.mono ?_
    rintro e w1 ⟨rfl, hw1⟩
    subst w1
    go_wp2_with fail
    refine (H3 _).out.mono ?_
    rintro e w1 ⟨v, gs, rfl, hgl, htab, hb1⟩
    obtain ⟨G, c, rfl, hGb, hG, _⟩ := htab.shape (by omega)
    have c0 := htab.outer (i := 0) (by omega)
    have v0 := htab.cell (i := 0) (j := 0) (by omega) (by omega)
    rw [tb_zero] at v0
    have hgn : 0 < gs.length := by omega
    clear H1 H2 H3 htab hgl
    generalize gs.length = n at hgn ⊢
    generalize gs.getD 0 0 = g0 at c0 v0
    generalize far (bs a) (bs b) = X at v0 H5
    go_wp2_with fail
    refine (H4 _).out.mono ?_
    rintro e w2 ⟨⟨o, rfl, ho⟩, hb2'⟩
    have hb12 := hb1.trans (hb2'.mono hb1.size)
    clear H4 hb1 hb2' c0 v0
    go_wp2_with fail
    refine (H5 _).out.mono ?_
    rintro e w3 ⟨rfl, hb3⟩
    have hb13 := hb12.trans (hb3.mono hb12.size)
    clear H5 hb3 hb12
    go_wp2_with fail
    refine (error_nil _).mono ?_
    rintro e w4 ⟨rfl, hw4⟩
    subst w4
    go_wp2_with fail
    refine (H6 _).out.mono ?_
    rintro e w4 ⟨⟨o', rfl, ho'⟩, hb4⟩
    obtain rfl := least_one ho ho'
    have hb14 := hb13.trans (hb4.mono hb13.size)
    clear H6 hb4 hb13 ho ho'
    have hq := same_yes (rfl : txt o = txt o)
    go_wp2_with fail
    refine (error_nil _).mono ?_
    rintro e w5 ⟨rfl, hw5⟩
    subst w5
    go_wp2_with fail
    go_ret
    exact ⟨rfl, hb14⟩
  · have hf : 24 < a.size ∨ 24 < b.size := by omega
    have H5 := fun W => hid (efar_full a b W hf ha hb)
    have H6 := fun W => hid (esteps_full a b W hf ha hb)
    have hq : ByteArray.empty.toList.isEmpty = true := by rw [ByteArray.toList_eq]; rfl
    have hq2 : (ByteArray.empty.toList == ([] : List UInt8)) = true := by rw [ByteArray.toList_eq]; rfl
    generalize ByteArray.empty = u at H6 hq hq2
    go_enter Tryd.func3, Tryd.ntmps3
    by_cases h1 : a.size ≤ 24
    focus
      have H1 := fun W => hid (long2_no a 24 W h1)
      have H2 := fun W => hid (long2_yes b 24 W (by omega))
      clear h hf
      go_wp2_with fail
      refine (H1 _).out.mono ?_
      rintro e w1 ⟨rfl, hw1⟩
      subst w1
      go_wp2_with fail
      refine (H2 _).out.mono ?_
      rintro e w1 ⟨rfl, hw1⟩
      subst w1
      clear H1 H2
      go_wp2_with fail
    rotate_left
    focus
      have H1 := fun W => hid (long2_yes a 24 W (by omega))
      clear h hf
      go_wp2_with fail
      refine (H1 _).out.mono ?_
      rintro e w1 ⟨rfl, hw1⟩
      subst w1
      clear H1
      go_wp2_with fail
    rotate_left
    all_goals (
      clear ha hb h1
      refine (H5 _).out.mono ?_
      rintro e w3 ⟨rfl, hb3⟩
      have hg3 := hg.below hp hb3
      clear H5
      go_wp2_with fail
      refine (error_err 4 _ hg3).mono ?_
      rintro e w4 ⟨rfl, hb4⟩
      have hbA := hb3.trans (hb4.mono hb3.size)
      have hg4 := hg.below hp hbA
      clear hb3 hb4 hg3
      go_wp2_with fail
      refine (H6 _).out.mono ?_
      rintro e w5 ⟨rfl, hb5⟩
      have hbB := hbA.trans (hb5.mono hbA.size)
      have hg5 := hg.below hp hbB
      clear H6 hb5 hbA hg4
      go_wp2_with fail
      refine (error_err 4 _ hg5).mono ?_
      rintro e w6 ⟨rfl, hb6⟩
      have hbC := hbB.trans (hb6.mono hbB.size)
      clear hb6 hbB hg5
      go_wp2_with fail
      go_ret
      exact ⟨rfl, hbC⟩)
end Go.Proofs.YteeajhelnolfcaaDoor
