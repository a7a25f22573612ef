/-
  The walk of LyndonTurn: it returns true for every text, and leaves the old memory alone. No condition but the row's own size.
-/
import Derived.Test.YtoopnkjgdgbmnaaLnfact
import Derived.Test.YtoopnkjgdgbmnaaTleast
import Derived.Test.YtoopnkjgdgbmnaaTroot
import Derived.Test.YtoopnkjgdgbmnaaRturn
import Derived.Test.YtoopnkjgdgbmnaaIn
namespace Go.Proofs.Ytoopnkjgdgbmnaa
open Go.RowKit

set_option maxHeartbeats 400000 in
theorem lturn_long (s : ByteArray) (w : World) (h : 24 < s.size) (hs : s.size ≤ maxLen) :
    Calls Try.prog 5 #[.string s] w fun e w' => e = .returned (.bool true) ∧ Below w.heap.size w w' := by
  have H1 := fun w => hid (least_long s w h hs)
  have H2 := fun w => hid (root_long s w h hs)
  have H3 := fun w => hid (is_long s w h hs)
  unfold maxLen at hs
  go_enter Try.func5, Try.ntmps5
  go_wp2_with fail
  refine (lnfact_any _).mono ?_
  rintro e w1 ⟨rfl, hb1⟩
  go_wp2_with fail
  refine (H1 _).out.mono ?_
  rintro e w2 ⟨rfl, hw2⟩
  subst w2
  go_wp2_with fail
  refine (H2 _).out.mono ?_
  rintro e w2 ⟨rfl, hw2⟩
  subst w2
  go_wp2_with fail
  refine (H3 _).out.mono ?_
  rintro e w2 ⟨rfl, hw2⟩
  subst w2
  go_wp2
  go_ret
  exact ⟨rfl, hb1⟩

set_option maxHeartbeats 1600000 in
theorem lturn_any (s : ByteArray) (w : World) (h : s.size ≤ 24) :
    Calls Try.prog 5 #[.string s] w fun e w' => e = .returned (.bool true) ∧ Below w.heap.size w w' := by
  have H1 := fun w => hid (least_any s w h)
  have H2 := fun w => hid (root_any s w h)
  have H3 := fun w => hid (is_any s w h)
  go_enter Try.func5, Try.ntmps5
  go_wp2_with fail
  refine (lnfact_any _).mono ?_
  rintro e w1 ⟨rfl, hb1⟩
  go_wp2_with fail
  refine (H1 _).out.mono ?_
  rintro e w2 ⟨b, rfl, hl, hw2⟩
  subst w2
  have HL := hid hl
  have hbs := lst_le hl
  clear H1 hl
  go_wp2_with fail
  refine (H2 _).out.mono ?_
  rintro e w2 ⟨r, rfl, hr, hc2⟩
  have hb2 := Below.on hb1 hc2 (Nat.le_refl _)
  have HR := hid hr
  have hrs := rt_le (cy_pr s) hr
  clear H2 hr hc2 hb1
  by_cases h0 : s.size = 0
  · have e : lynB s = false := lynB_no fun hy => by have := hy.1; omega
    rw [e] at H3
    clear e HL HR
    go_wp2_with fail
    refine (H3 _).out.mono ?_
    rintro e w3 ⟨rfl, hc3⟩
    have hb3 := Below.on hb2 hc3 (Nat.le_refl _)
    clear hb2 hc3 H3
    go_wp2
    go_ret
    exact ⟨rfl, hb3⟩
  · have hn : 0 < s.size := by omega
    have hz : ((s.size : Int) == 0) = false := by simpa using h0
    have hbn := lst_lt hn HL.out
    have hts := turn_size s b (by omega)
    have I1 := fun W => hid (in_yes (b : Int) 0 ((s.size : Int) - 1) W (by omega) (by omega))
    have I2 := fun W => hid (rturn_any s b W (by omega) (by omega))
    have I3 := fun W => hid (is_any (turnS s b) W (by omega))
    obtain ⟨x, hx1, hx2⟩ : ∃ x : Bool, ((r : Int) == (s.size : Int)) = x ∧ lynB (turnS s b) = x := by
      have hi := lyn_least hn HL.out HR.out
      rw [← hts] at hi
      by_cases hrn : r = s.size
      · exact ⟨true, by simp; omega, lynB_yes ((by rw [hts] at hi ⊢; exact hi.2 hrn))⟩
      · exact ⟨false, by simp; omega, lynB_no fun hy => hrn (by rw [hts] at hi hy; exact hi.1 hy)⟩
    obtain ⟨y, hy1⟩ : ∃ y : Bool, ((b : Int) == 0) = y := ⟨_, rfl⟩
    have hxy : lynB s = (y && x) := by
      have hi := lyn_self hn HL.out HR.out
      rw [← hx1, ← hy1]
      by_cases hly : Lyn (sg s) s.size
      · obtain ⟨rfl, e⟩ := hi.1 hly
        rw [lynB_yes hly]; simp [e]
      · rw [lynB_no hly]
        symm
        rw [Bool.and_eq_false_iff]
        by_cases hb0 : b = 0
        · exact .inr (by simp; intro e; exact hly (hi.2 ⟨hb0, by omega⟩))
        · exact .inl (by simp; omega)
    rw [hxy] at H3
    rw [hx2] at I3
    generalize turnS s b = t at I2 I3
    clear hxy hx2 hts HL HR h0
    rcases x with _ | _ <;> rcases y with _ | _ <;> simp only [Bool.and_true, Bool.and_false, Bool.and_self] at H3
    all_goals
      go_wp2_with fail
      refine (H3 _).out.mono ?_
      rintro e w3 ⟨rfl, hc3⟩
      have hb3 := Below.on hb2 hc3 (Nat.le_refl _)
      clear hb2 hc3 H3
      go_wp2_with fail
      refine (I1 _).out.mono ?_
      rintro e w4 ⟨rfl, hw4⟩
      subst w4
      go_wp2_with fail
      refine (I2 _).out.mono ?_
      rintro e w4 ⟨rfl, q, hw4⟩
      have hb4 : Below w.heap.size w w4 := by rw [hw4]; exact below_drewN hb3 q
      clear hw4 hb3
      go_wp2_with fail
      refine (I3 _).out.mono ?_
      rintro e w5 ⟨rfl, hc5⟩
      have hb5 := Below.on hb4 hc5 (Nat.le_refl _)
      clear hb4 hc5 I3
      go_wp2
      go_ret
      exact ⟨rfl, hb5⟩
theorem lnturn_any (s : ByteArray) (w : World) (hs : s.size ≤ maxLen) :
    Calls Try.prog 5 #[.string s] w fun e w' => e = .returned (.bool true) ∧ Below w.heap.size w w' := by
  by_cases h : s.size ≤ 24
  · exact lturn_any s w h
  · exact lturn_long s w (by omega) hs
end Go.Proofs.Ytoopnkjgdgbmnaa
