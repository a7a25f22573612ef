/-
  The walk of TurnSays: it returns true for every two texts, and leaves the old memory alone. Conditions: the row's own size; errors.errorType as the program's text lays it.
-/
import Derived.Test.YtojpapeomahegaaDoorErr
import Derived.Test.YtojpapeomahegaaDoorLong
import Derived.Test.YtojpapeomahegaaDoorOn
import Derived.Test.YtojpapeomahegaaDoorTroot
import Derived.Test.YtojpapeomahegaaDoorRturns
namespace Go.Proofs.YtojpapeomahegaaDoor
open Go.RowKit

set_option maxHeartbeats 1600000 in
set_option maxRecDepth 100000 in
theorem tnsays_long (a b : ByteArray) (w : World) (h : 24 < a.size) (hs : a.size ≤ maxLen) (hg : Laid w) :
    Calls Tryd.prog 3 #[.string a, .string b] w fun e w' => e = .returned (.bool true) ∧ Below w.heap.size w w' := by
  have H1 := fun w => hid (long_yes a w h hs)
  have H2 := fun w => hid (least_long a w h hs)
  have H3 := fun w => hid (root_long a w h hs)
  have H4 := fun w => hid (same_long_a a b w h hs)
  have hp := hg.pos
  unfold maxLen at hs
  go_enter Tryd.func3, Tryd.ntmps3
  go_wp2_with fail
  refine (H1 _).out.mono ?_
  rintro e w1 ⟨rfl, hw1⟩
  subst w1
  go_wp2_with fail
  refine (H2 _).out.mono ?_
  rintro e w1 ⟨rfl, hw1⟩
  subst w1
  go_wp2_with fail
  refine (error_err 4 _ hg).mono ?_
  rintro e w3 ⟨rfl, hb3⟩
  have hg3 := hg.below hp hb3
  go_wp2_with fail
  refine (H3 _).out.mono ?_
  rintro e w4 ⟨rfl, hw4⟩
  subst w4
  go_wp2_with fail
  refine (error_err 4 _ hg3).mono ?_
  rintro e w5 ⟨rfl, hc5⟩
  have hb5 := Below.on hb3 hc5 (Nat.le_refl _)
  have hg5 := hg.below hp hb5
  clear hb3 hc5 hg3
  go_wp2_with fail
  refine (H4 _).out.mono ?_
  rintro e w6 ⟨rfl, hw6⟩
  subst w6
  go_wp2_with fail
  refine (error_err 4 _ hg5).mono ?_
  rintro e w7 ⟨rfl, hc7⟩
  have hb7 := Below.on hb5 hc7 (Nat.le_refl _)
  clear hb5 hc7 hg5
  go_wp2
  go_ret
  exact ⟨rfl, hb7⟩

set_option maxHeartbeats 1600000 in
set_option maxRecDepth 100000 in
theorem tnsays_any (a b : ByteArray) (w : World) (h : a.size ≤ 24) (hs : b.size ≤ maxLen) (hg : Laid w) :
    Calls Tryd.prog 3 #[.string a, .string b] w fun e w' => e = .returned (.bool true) ∧ Below w.heap.size w w' := by
  have HR := fun w => hid (rleast_any a w h)
  have HS := fun w => hid (rroot_any a w h)
  have HL := fun w => hid (least_any a w h)
  have HT := fun w => hid (root_any a w h)
  have hp := hg.pos
  have HZ := hid hs
  clear hs
  go_enter Tryd.func3, Tryd.ntmps3
  go_wp2_with fail
  refine (long_no a _ h).mono ?_
  rintro e w1 ⟨rfl, hw1⟩
  subst w1
  go_wp2_with fail
  refine (HR _).out.mono ?_
  rintro e w2 ⟨x, rfl, hx, q2, hw2⟩
  have hb2 : Below w.heap.size w w2 := by rw [hw2]; exact below_drewN (Below.refl _ _) _
  have HX := hid hx
  clear hw2 hx HR
  go_wp2_with fail
  refine (HS _).out.mono ?_
  rintro e w3 ⟨r, rfl, hr, hw3⟩
  subst w3
  have HRt := hid hr
  clear hr HS
  go_wp2_with fail
  refine (HL _).out.mono ?_
  rintro e w3 ⟨y, rfl, hy, hw3⟩
  subst w3
  obtain rfl : y = x := lst_one hy HX.out
  clear hy HX HL
  go_wp2_with fail
  refine (error_nil _).mono ?_
  rintro e w3 ⟨rfl, hw3⟩
  subst w3
  go_wp2_with fail
  refine (HT _).out.mono ?_
  rintro e w4 ⟨r', rfl, hr', hc4⟩
  have hb4 := Below.on hb2 hc4 (Nat.le_refl _)
  obtain rfl : r' = r := rt_one hr' HRt.out
  clear hr' hc4 hb2 HRt HT
  go_wp2_with fail
  refine (error_nil _).mono ?_
  rintro e w5 ⟨rfl, hw5⟩
  subst w5
  have hg4 := hg.below hp hb4
  by_cases hb : b.size ≤ 24
  · have H1 := fun W => hid (same_any a b W h hb)
    have H2 := fun W => hid (rsame_any a b W h)
    have H3 := fun W => hid (long_no b W hb)
    go_wp2_with fail
    refine (H3 _).out.mono ?_
    rintro e w5 ⟨rfl, hw5⟩
    subst w5
    go_wp2_with fail
    refine (H1 _).out.mono ?_
    rintro e w5 ⟨p, rfl, hp5, q5, hw5⟩
    have hb5 : Below w.heap.size w w5 := by rw [hw5]; exact below_drewN hb4 _
    have HP5 := hid hp5
    clear hw5 hb4 hp5 hg4 H1 H3
    go_wp2_with fail
    refine (error_nil _).mono ?_
    rintro e w6 ⟨rfl, hw6⟩
    subst w6
    go_wp2_with fail
    refine (H2 _).out.mono ?_
    rintro e w6 ⟨p', rfl, hp6, q6, hw6⟩
    have hb6 : Below w.heap.size w w6 := by rw [hw6]; exact below_drewN hb5 _
    obtain rfl : p = p' := by rw [Bool.eq_iff_iff, HP5.out, hp6]
    clear hw6 hb5 hp6 HP5 H2
    go_wp2
    go_ret
    exact ⟨ret_bool (by cases p <;> rfl), hb6⟩
  · have H1 := fun W => hid (same_long_b a b W h (by omega) HZ.out)
    have H3 := fun W => hid (long_yes b W (by omega) HZ.out)
    go_wp2_with fail
    refine (H3 _).out.mono ?_
    rintro e w5 ⟨rfl, hw5⟩
    subst w5
    go_wp2_with fail
    refine (H1 _).out.mono ?_
    rintro e w5 ⟨rfl, q5, hw5⟩
    have hb5 : Below w.heap.size w w5 := by rw [hw5]; exact below_drewN hb4 _
    have hg5 := hg.below hp hb5
    clear hw5 hb4 hg4 H1 H3
    go_wp2_with fail
    refine (error_err 4 _ hg5).mono ?_
    rintro e w6 ⟨rfl, hc6⟩
    have hb6 := Below.on hb5 hc6 (Nat.le_refl _)
    clear hb5 hc6 hg5
    go_wp2
    go_ret
    exact ⟨rfl, hb6⟩
theorem tnsays_all (a b : ByteArray) (w : World) (ha : a.size ≤ maxLen) (hb : b.size ≤ maxLen) (hg : Laid w) :
    Calls Tryd.prog 3 #[.string a, .string b] w fun e w' => e = .returned (.bool true) ∧ Below w.heap.size w w' := by
  by_cases h : a.size ≤ 24
  · exact tnsays_any a b w h hb hg
  · exact tnsays_long a b w (by omega) ha hg
end Go.Proofs.YtojpapeomahegaaDoor
