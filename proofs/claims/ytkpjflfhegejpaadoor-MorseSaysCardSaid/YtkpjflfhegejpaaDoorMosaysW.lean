/-
  The walk of MorseSays: it returns true at every number and every text, and leaves the old memory alone. Conditions: the row's own sizes; errors.errorType as the program's text lays it.
-/
import Derived.Test.YtkpjflfhegejpaaDoorErr
import Derived.Test.YtkpjflfhegejpaaDoorMors
import Derived.Test.YtkpjflfhegejpaaDoorIn3
import Derived.Test.YtkpjflfhegejpaaDoorOdd
import Derived.Test.YtkpjflfhegejpaaDoorTwc
import Derived.Test.YtkpjflfhegejpaaDoorStr
namespace Go.Proofs.YtkpjflfhegejpaaDoor
open Go.RowKit

set_option maxHeartbeats 4000000 in
set_option maxRecDepth 100000 in
theorem morseSays_any (x : Int) (s : ByteArray) (w : World) (hs : s.size ≤ maxLen) (hg : Laid w) :
    Calls Tryd.prog 3 #[.int .i64 x, .string s] w fun e w' => e = .returned (.bool true) ∧ Below w.heap.size w w' := by
  have hp := hg.pos
  have HE := fun k W (h : Below w.heap.size w W) => hid (error_err k W (hg.below hp h))
  have hs2 : s.size ≤ 9223372036854775807 := by unfold maxLen at hs; omega
  by_cases hx : 0 ≤ x ∧ x ≤ 200
  focus
    obtain ⟨n, rfl⟩ : ∃ n : Nat, x = (n : Int) := ⟨x.toNat, by omega⟩
    have hn : n ≤ 200 := by omega
    have HI := fun W => hid (in_yes (n : Int) 0 200 W hx.1 hx.2)
    have HM := fun W => hid (rmorse_any n W (by omega))
    have HW := fun W => hid (wword_any n W hn)
    have hq := same_yes (rfl : txt (mw n) = txt (mw n))
    generalize txt (mw n) = t at HM HW hq
    clear hg hp hx
    go_enter Tryd.func3, Tryd.ntmps3
    go_wp2_with fail
    refine (HI _).out.mono ?_
    rintro e w1 ⟨rfl, hw1⟩
    subst w1
    go_wp2_with fail
    refine (HM _).out.mono ?_
    rintro e w1 ⟨rfl, hb1⟩
    go_wp2_with fail
    refine (HW _).out.mono ?_
    rintro e w2 ⟨rfl, hb2⟩
    have hbA := hb1.trans (hb2.mono hb1.size)
    clear hb1 hb2 HI HM HW
    go_wp2_with fail
    refine (error_nil _).mono ?_
    rintro e w3 ⟨rfl, hw3⟩
    subst w3
  rotate_left
  focus
    have HI := fun W => hid (in_not x 0 200 W hx)
    have HW := fun W => hid (wword_bad x W hx)
    clear hg hp hx
    go_enter Tryd.func3, Tryd.ntmps3
    go_wp2_with fail
    refine (HI _).out.mono ?_
    rintro e w1 ⟨rfl, hw1⟩
    subst w1
    go_wp2_with fail
    refine (HW _).out.mono ?_
    rintro e w1 ⟨rfl, hb1⟩
    clear HI HW
    go_wp2_with fail
    refine (HE 1 _ hb1).out.mono ?_
    rintro e w2 ⟨rfl, hb2⟩
    have hbA := hb1.trans (hb2.mono hb1.size)
    clear hb1 hb2
  rotate_left
  all_goals (
    by_cases hl : 200 < s.size
    · have HT := fun W => hid (wtwice_full s W hl hs)
      have HO := fun W => hid (wover_full s W hl hs)
      clear hs
      go_wp2_with fail
      refine (HT _).out.mono ?_
      rintro e w4 ⟨rfl, hb4⟩
      have hbB := hbA.trans (hb4.mono hbA.size)
      go_wp2_with fail
      refine (HE 4 _ hbB).out.mono ?_
      rintro e w5 ⟨rfl, hb5⟩
      have hbC := hbB.trans (hb5.mono hbB.size)
      clear hbA hb4 hbB hb5 HT
      go_wp2_with fail
      refine (HO _).out.mono ?_
      rintro e w6 ⟨rfl, hb6⟩
      have hbD := hbC.trans (hb6.mono hbC.size)
      go_wp2_with fail
      refine (HE 4 _ hbD).out.mono ?_
      rintro e w7 ⟨rfl, hb7⟩
      have hbE := hbD.trans (hb7.mono hbD.size)
      clear hbC hb6 hbD hb7 HO HE
      go_wp2_with fail
      go_ret
      exact ⟨by first | rfl | simp, hbE⟩
    · have hl2 : s.size ≤ 200 := by omega
      have HA := fun W => hid (rtwice_any s false W hl2)
      have HC := fun W => hid (rtwice_any s true W hl2)
      have HT := fun W => hid (wtwice_any s W hl2)
      have HO := fun W => hid (wover_any s W hl2)
      clear hs hl HE
      go_wp2_with fail
      refine (HA _).out.mono ?_
      rintro e w4 ⟨a, b, rfl, hF, hb4⟩
      have hbB := hbA.trans (hb4.mono hbA.size)
      clear HA hbA hb4
      go_wp2_with fail
      refine (HC _).out.mono ?_
      rintro e w5 ⟨c, d, rfl, hG, hb5⟩
      have hbC := hbB.trans (hb5.mono hbB.size)
      clear HC hbB hb5
      go_wp2_with fail
      refine (HT _).out.mono ?_
      rintro e w6 ⟨a', b', rfl, hF', hb6⟩
      obtain ⟨ea, eb⟩ := fsq_one hF' hF
      subst ea
      subst eb
      have hbD := hbC.trans (hb6.mono hbC.size)
      have qa : (a' == a') = true := beq_iff_eq.2 rfl
      have qb : (b' == b') = true := beq_iff_eq.2 rfl
      clear HT hbC hb6 hF hF'
      go_wp2_with fail
      refine (error_nil _).mono ?_
      rintro e w7 ⟨rfl, hw7⟩
      subst w7
      go_wp2_with fail
      refine (HO _).out.mono ?_
      rintro e w8 ⟨c', d', rfl, hG', hb8⟩
      obtain ⟨ec, ed⟩ := fsq_one hG' hG
      subst ec
      subst ed
      have hbE := hbD.trans (hb8.mono hbD.size)
      have qc : (c' == c') = true := beq_iff_eq.2 rfl
      have qd : (d' == d') = true := beq_iff_eq.2 rfl
      clear HO hbD hb8 hG hG'
      go_wp2_with fail
      refine (error_nil _).mono ?_
      rintro e w9 ⟨rfl, hw9⟩
      subst w9
      go_wp2_with fail
      go_ret
      exact ⟨by first | rfl | simp, hbE⟩)
end Go.Proofs.YtkpjflfhegejpaaDoor
