/-
  The walk of CommonSays: it returns true for every two texts, and leaves the old memory alone. Conditions: the row's own sizes; errors.errorType as the program's text lays it.
-/
import Derived.Test.YtaodocdddfkglaaDoorErr
import Derived.Test.YtaodocdddfkglaaDoorLong2
import Derived.Test.YtaodocdddfkglaaDoorCommon
import Derived.Test.YtaodocdddfkglaaDoorWithin
import Derived.Test.YtaodocdddfkglaaDoorCcom
import Derived.Test.YtaodocdddfkglaaDoorStr
namespace Go.Proofs.YtaodocdddfkglaaDoor
open Go.RowKit

set_option maxHeartbeats 4000000 in
set_option maxRecDepth 100000 in
theorem commonSays_any (a b : ByteArray) (w : World) (ha : a.size ≤ maxLen) (hb : b.size ≤ maxLen) (hg : Laid w) :
    Calls Tryd.prog 3 #[.string a, .string b] w fun e w' => e = .returned (.bool true) ∧ Below w.heap.size w w' := by
  have hp := hg.pos
  by_cases h : a.size ≤ 24 ∧ b.size ≤ 24
  · obtain ⟨ha2, hb2⟩ := h
    have H1 := fun W => hid (long2_no a 24 W ha2)
    have H2 := fun W => hid (long2_no b 24 W hb2)
    have H3 := fun W => hid (rcommon_any a b W ha2 hb2)
    have H4 := fun W => hid (rwithin_any a b W (by omega) (by omega))
    have H5 := fun W => hid (clong_any a b W ha2 hb2)
    have H6 := fun W => hid (cof_any a b W ha2 hb2)
    have H7 := fun W => hid (cwithin_any a b W ha2 hb2)
    have hq := same_yes (rfl : txt (cmn (bs a) (bs b)) = txt (cmn (bs a) (bs b)))
    have hl : (txt (cmn (bs a) (bs b))).size = (cmn (bs a) (bs b)).length := txt_size _
    rw [← hl] at H5
    clear ha hb hg hp hl
    generalize txt (cmn (bs a) (bs b)) = t at H3 H5 H6 hq
    generalize wiB (bs a) (bs b) = r at H4 H7
    go_enter Tryd.func3, Tryd.ntmps3
    go_wp2_with fail
    refine (H1 _).out.mono ?_
    rintro e w1 ⟨rfl, hw1⟩
    subst w1
    go_wp2_with fail
    refine (H2 _).out.mono ?_
    rintro e w1 ⟨rfl, hw1⟩
    subst w1
    go_wp2_with fail
    refine (H3 _).out.mono ?_
    rintro e w1 ⟨rfl, hb1⟩
    clear H1 H2 H3
    go_wp2_with fail
    refine (H5 _).out.mono ?_
    rintro e w3 ⟨rfl, hb3⟩
    have hb13 := hb1.trans (hb3.mono hb1.size)
    clear H5 hb3 hb1
    go_wp2_with fail
    refine (error_nil _).mono ?_
    rintro e w4 ⟨rfl, hw4⟩
    subst w4
    go_wp2_with fail
    refine (H6 _).out.mono ?_
    rintro e w4 ⟨rfl, hb4⟩
    have hb14 := hb13.trans (hb4.mono hb13.size)
    clear H6 hb4 hb13
    go_wp2_with fail
    refine (error_nil _).mono ?_
    rintro e w5 ⟨rfl, hw5⟩
    subst w5
    go_wp2_with fail
    refine (H7 _).out.mono ?_
    rintro e w5 ⟨rfl, hb5⟩
    have hb15 := hb14.trans (hb5.mono hb14.size)
    clear H7 hb5 hb14
    go_wp2_with fail
    refine (error_nil _).mono ?_
    rintro e w6 ⟨rfl, hw6⟩
    subst w6
    go_wp2_with fail
    refine (H4 _).out.mono ?_
    rintro e w6 ⟨rfl, q, hw6⟩
    have hbZ : Below w.heap.size w w6 := by rw [hw6]; exact below_drewN hb15 q
    clear hw6 H4 hb15
    go_wp2_with fail
    go_ret
    exact ⟨ret_bool (by simp), hbZ⟩
  · have hf : 24 < a.size ∨ 24 < b.size := by omega
    have H5 := fun W => hid (clong_full a b W hf ha hb)
    have H6 := fun W => hid (cof_full a b W hf ha hb)
    have H7 := fun W => hid (cwithin_full a b W hf ha hb)
    have hq : ByteArray.empty.toList.isEmpty = true := by rw [ByteArray.toList_eq]; rfl
    have hq2 : (ByteArray.empty.toList == ([] : List UInt8)) = true := by rw [ByteArray.toList_eq]; rfl
    generalize ByteArray.empty = u at H6 hq hq2
    go_enter Tryd.func3, Tryd.ntmps3
    by_cases h1 : a.size ≤ 24
    focus
      have H1 := fun W => hid (long2_no a 24 W h1)
      have H2 := fun W => hid (long2_yes b 24 W (by omega))
      clear h hf
      go_wp2_with fail
      refine (H1 _).out.mono ?_
      rintro e w1 ⟨rfl, hw1⟩
      subst w1
      go_wp2_with fail
      refine (H2 _).out.mono ?_
      rintro e w1 ⟨rfl, hw1⟩
      subst w1
      clear H1 H2
      go_wp2_with fail
    rotate_left
    focus
      have H1 := fun W => hid (long2_yes a 24 W (by omega))
      clear h hf
      go_wp2_with fail
      refine (H1 _).out.mono ?_
      rintro e w1 ⟨rfl, hw1⟩
      subst w1
      clear H1
      go_wp2_with fail
    rotate_left
    all_goals (
      clear ha hb h1
      refine (H5 _).out.mono ?_
      rintro e w3 ⟨rfl, hb3⟩
      have hg3 := hg.below hp hb3
      clear H5
      go_wp2_with fail
      refine (error_err 4 _ hg3).mono ?_
      rintro e w4 ⟨rfl, hb4⟩
      have hbA := hb3.trans (hb4.mono hb3.size)
      clear hb3 hb4 hg3
      go_wp2_with fail
      refine (H6 _).out.mono ?_
      rintro e w5 ⟨rfl, hb5⟩
      have hbB := hbA.trans (hb5.mono hbA.size)
      have hg5 := hg.below hp hbB
      clear H6 hb5 hbA
      go_wp2_with fail
      refine (error_err 4 _ hg5).mono ?_
      rintro e w6 ⟨rfl, hb6⟩
      have hbC := hbB.trans (hb6.mono hbB.size)
      clear hb6 hbB hg5
      go_wp2_with fail
      refine (H7 _).out.mono ?_
      rintro e w7 ⟨rfl, hb7⟩
      have hbD := hbC.trans (hb7.mono hbC.size)
      have hg7 := hg.below hp hbD
      clear H7 hb7 hbC
      go_wp2_with fail
      refine (error_err 4 _ hg7).mono ?_
      rintro e w8 ⟨rfl, hb8⟩
      have hbE := hbD.trans (hb8.mono hbD.size)
      clear hb8 hbD hg7
      go_wp2_with fail
      go_ret
      exact ⟨rfl, hbE⟩)
end Go.Proofs.YtaodocdddfkglaaDoor
