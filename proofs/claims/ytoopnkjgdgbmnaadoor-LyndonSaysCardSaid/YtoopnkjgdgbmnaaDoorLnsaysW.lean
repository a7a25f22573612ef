/-
  The walk of LyndonSays: it returns true for every text, and leaves the old memory alone. Conditions: the row's own size; errors.errorType as the program's text lays it.
-/
import Derived.Test.YtoopnkjgdgbmnaaDoorErr
import Derived.Test.YtoopnkjgdgbmnaaDoorLong
import Derived.Test.YtoopnkjgdgbmnaaDoorLyndon
import Derived.Test.YtoopnkjgdgbmnaaDoorRlyns
import Derived.Test.YtoopnkjgdgbmnaaDoorInts
namespace Go.Proofs.YtoopnkjgdgbmnaaDoor
open Go.RowKit

set_option maxHeartbeats 800000 in
set_option maxRecDepth 100000 in
theorem lnsays_long (s : ByteArray) (w : World) (h : 24 < s.size) (hs : s.size ≤ maxLen) (hg : Laid w) :
    Calls Tryd.prog 3 #[.string s] w fun e w' => e = .returned (.bool true) ∧ Below w.heap.size w w' := by
  have H1 := fun w => hid (long_yes s w h hs)
  have H2 := fun w => hid (parts_long s w h hs)
  have H3 := fun w => hid (is_long s w h hs)
  have HI := fun w => hid (ints_ok none none 0 0 0 0 [] w 0 0 (by omega) (by omega) IsInts.nil IsInts.nil)
  have hp := hg.pos
  unfold maxLen at hs
  go_enter Tryd.func3, Tryd.ntmps3
  go_wp2_with fail
  refine (H1 _).out.mono ?_
  rintro e w1 ⟨rfl, hw1⟩
  subst w1
  go_wp2_with fail
  refine (H2 _).out.mono ?_
  rintro e w1 ⟨rfl, hw1⟩
  subst w1
  go_wp2_with fail
  refine (error_err 4 _ hg).mono ?_
  rintro e w3 ⟨rfl, hb3⟩
  go_wp2_with fail
  refine (HI _).out.mono ?_
  rintro e w4 ⟨rfl, hc4⟩
  have hb4 := Below.on hb3 hc4 (Nat.le_refl _)
  have hg4 := hg.below hp hb4
  clear hb3 hc4
  go_wp2_with fail
  refine (H3 _).out.mono ?_
  rintro e w5 ⟨rfl, hw5⟩
  subst w5
  go_wp2_with fail
  refine (error_err 4 _ hg4).mono ?_
  rintro e w6 ⟨rfl, hc6⟩
  have hb6 := Below.on hb4 hc6 (Nat.le_refl _)
  clear hb4 hc6 hg4
  go_wp2
  go_ret
  exact ⟨rfl, hb6⟩

set_option maxHeartbeats 800000 in
set_option maxRecDepth 100000 in
theorem lnsays_any (s : ByteArray) (w : World) (h : s.size ≤ 24) :
    Calls Tryd.prog 3 #[.string s] w fun e w' => e = .returned (.bool true) ∧ Below w.heap.size w w' := by
  have H1 := fun w => hid (long_no s w h)
  have H2 := fun w => hid (rparts_any s w h)
  have H3 := fun w => hid (parts_any s w h)
  have H4 := fun w => hid (is_any s w h)
  have H5 := fun w => hid (rlyn_any s w (by omega))
  generalize lynB s = z at H4 H5
  go_enter Tryd.func3, Tryd.ntmps3
  go_wp2_with fail
  refine (H1 _).out.mono ?_
  rintro e w1 ⟨rfl, hw1⟩
  subst w1
  go_wp2_with fail
  refine (H2 _).out.mono ?_
  rintro e w2 ⟨v, xs, rfl, hr2, ho2, hb2⟩
  have hlen := rest_len hr2
  obtain ⟨n, hn⟩ : ∃ n, xs.length = n := ⟨_, rfl⟩
  obtain ⟨A2, c2, rfl, hI2⟩ := own_n ho2 hn
  have HR := hid hr2
  have HN := hid hn
  have HI2 := hid hI2
  rw [hn] at hlen
  clear H1 H2 hr2 ho2 hn hI2
  go_wp2_with fail
  refine (H3 _).out.mono ?_
  rintro e w3 ⟨v3, ys, rfl, hr3, ho3, hc3⟩
  obtain rfl : ys = xs := rest_one hr3 HR.out
  obtain ⟨A3, c3, rfl, hI3⟩ := own_n ho3 HN.out
  have hb3 := Below.on hb2 hc3 (Nat.le_refl _)
  have HJ := hid (HI2.out.up hc3)
  have HI3 := hid hI3
  clear H3 hr3 ho3 hc3 hI3 HI2 HR hb2
  go_wp2_with fail
  refine (error_nil _).mono ?_
  rintro e w4 ⟨rfl, hw4⟩
  subst w4
  have HQ := hid (ints_ok A3 A2 n n c3 c2 ys w3 _ _ (by omega) (by omega) HI3.out HJ.out)
  clear HI3 HJ HN
  go_wp2_with fail
  refine HQ.out.mono ?_
  rintro e w4 ⟨rfl, hc4⟩
  have hb4 := Below.on hb3 hc4 (Nat.le_refl _)
  clear hb3 hc4 HQ
  go_wp2_with fail
  refine (H4 _).out.mono ?_
  rintro e w5 ⟨rfl, hc5⟩
  have hb5 := Below.on hb4 hc5 (Nat.le_refl _)
  clear hb4 hc5 H4
  go_wp2_with fail
  refine (error_nil _).mono ?_
  rintro e w6 ⟨rfl, hw6⟩
  subst w6
  go_wp2_with fail
  refine (H5 _).out.mono ?_
  rintro e w6 ⟨rfl, q, hw6⟩
  have hb6 : Below w.heap.size w w6 := by rw [hw6]; exact below_drewN hb5 q
  clear hw6 hb5 H5
  go_wp2
  go_ret
  exact ⟨ret_bool (by cases z <;> rfl), hb6⟩
theorem lnsays_all (s : ByteArray) (w : World) (hs : s.size ≤ maxLen) (hg : Laid w) :
    Calls Tryd.prog 3 #[.string s] w fun e w' => e = .returned (.bool true) ∧ Below w.heap.size w w' := by
  by_cases h : s.size ≤ 24
  · exact lnsays_any s w h
  · exact lnsays_long s w (by omega) hs hg
end Go.Proofs.YtoopnkjgdgbmnaaDoor
