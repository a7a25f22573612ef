/-
  The walk of TurnLeast: it returns true for every text and every number, and leaves the old memory alone. No condition but the row's own size.
-/
import Derived.Test.YtojpapeomahegaaTnfact
import Derived.Test.YtojpapeomahegaaRturn
import Derived.Test.YtojpapeomahegaaLess
import Derived.Test.YtojpapeomahegaaIn
namespace Go.Proofs.Ytojpapeomahegaa
open Go.RowKit

set_option maxHeartbeats 400000 in
theorem tleast_long (s : ByteArray) (i : Int) (w : World) (h : 24 < s.size) (hs : s.size ≤ maxLen) :
    Calls Try.prog 3 #[.string s, .int .i64 i] w fun e w' => e = .returned (.bool true) ∧ Below w.heap.size w w' := by
  have H1 := fun w => hid (least_long s w h hs)
  unfold maxLen at hs
  go_enter Try.func3, Try.ntmps3
  go_wp2_with fail
  refine (tnfact_any _).mono ?_
  rintro e w1 ⟨rfl, hb1⟩
  go_wp2_with fail
  refine (H1 _).out.mono ?_
  rintro e w2 ⟨rfl, hw2⟩
  subst w2
  go_wp2
  go_ret
  exact ⟨rfl, hb1⟩

set_option maxHeartbeats 1600000 in
theorem tleast_any (s : ByteArray) (i : Int) (w : World) (h : s.size ≤ 24) :
    Calls Try.prog 3 #[.string s, .int .i64 i] w fun e w' => e = .returned (.bool true) ∧ Below w.heap.size w w' := by
  have H1 := fun w => hid (least_any s w h)
  go_enter Try.func3, Try.ntmps3
  go_wp2_with fail
  refine (tnfact_any _).mono ?_
  rintro e w1 ⟨rfl, hb1⟩
  go_wp2_with fail
  refine (H1 _).out.mono ?_
  rintro e w2 ⟨b, rfl, hl, hw2⟩
  subst w2
  have hbs := lst_le hl
  have HL := hid hl
  clear H1 hl
  by_cases h0 : s.size = 0
  · obtain rfl : b = 0 := by omega
    clear HL
    go_wp2
    go_ret
    exact ⟨rfl, hb1⟩
  · have hn : 0 < s.size := by omega
    have hbn := lst_lt hn HL.out
    have hz : ((s.size : Int) == 0) = false := by simpa using h0
    have H1 := fun W => hid (in_yes (b : Int) 0 ((s.size : Int) - 1) W (by omega) (by omega))
    clear h0
    go_wp2_with fail
    refine (H1 _).out.mono ?_
    rintro e w3 ⟨rfl, hw3⟩
    subst w3
    clear H1
    by_cases h1 : 0 ≤ i ∧ i ≤ (s.size : Int) - 1
    · obtain ⟨i, rfl⟩ := Int.eq_ofNat_of_zero_le h1.1
      have hi : i < s.size := by omega
      have H1 := fun W => hid (in_yes (i : Int) 0 ((s.size : Int) - 1) W (by omega) (by omega))
      have hts := turn_size s i (by omega)
      have H2 := fun W => hid (rturn_any s i W (by omega) (by omega))
      have H3 := fun W => hid (least_any (turnS s i) W (by omega))
      have H4 := fun W => hid (same_any s (turnS s i) W h (by omega))
      have H6 := fun W => hid (rturn_any s b W (by omega) (by omega))
      have HB : Hid (lxB (turnS s i) (turnS s b) = false) := hid (lxB_no fun hx => HL.out.2.1 i hi ((lx_turn (by omega) (by omega)).1 hx))
      have H7 := fun W => hid (before_any (turnS s i) (turnS s b) W (by omega) (by rw [turn_size s b hbs]; omega))
      have HS : Hid (SameR s (turnS s i)) := hid (.inr ⟨i, hi, rfl⟩)
      have HI : Hid (∀ k, Lst (cy (turnS s i)) (turnS s i).size k → turnS (turnS s i) k = turnS s b) := hid fun k hk => ((same_iff HL.out hk).2 (.inr ⟨i, hi, rfl⟩)).symm
      generalize turnS s i = t at H2 H3 H4 H7 HB HS HI hts
      generalize turnS s b = u at H6 H7 HB HI
      rw [HB.out] at H7
      clear h1 HL HB
      go_wp2_with fail
      refine (H1 _).out.mono ?_
      rintro e w4 ⟨rfl, hw4⟩
      subst w4
      clear H1
      go_wp2_with fail
      refine (H2 _).out.mono ?_
      rintro e w4 ⟨rfl, q4, hw4⟩
      have hb4 : Below w.heap.size w w4 := by rw [hw4]; exact below_drewN hb1 _
      clear H2 hw4 hb1
      go_wp2_with fail
      refine (H3 _).out.mono ?_
      rintro e w5 ⟨k, rfl, hk, hw5⟩
      subst w5
      have hks := lst_lt (by omega) hk
      have he := HI.out k hk
      have H5 := fun W => hid (rturn_any t k W (by omega) (by omega))
      rw [he] at H5
      clear H3 hk HI he
      go_wp2_with fail
      refine (H4 _).out.mono ?_
      rintro e w5 ⟨r, rfl, hr, q5, hw5⟩
      obtain rfl : r = true := hr.2 HS.out
      have hb5 : Below w.heap.size w w5 := by rw [hw5]; exact below_drewN hb4 _
      have H1 := fun W => hid (in_yes (k : Int) 0 ((s.size : Int) - 1) W (by omega) (by omega))
      clear H4 hr HS hw5 hb4 hts
      go_wp2_with fail
      refine (H1 _).out.mono ?_
      rintro e w6 ⟨rfl, hw6⟩
      subst w6
      clear H1
      go_wp2_with fail
      refine (H5 _).out.mono ?_
      rintro e w6 ⟨rfl, q6, hw6⟩
      have hb6 : Below w.heap.size w w6 := by rw [hw6]; exact below_drewN hb5 _
      clear H5 hw6 hb5
      go_wp2_with fail
      refine (H6 _).out.mono ?_
      rintro e w7 ⟨rfl, q7, hw7⟩
      have hb7 : Below w.heap.size w w7 := by rw [hw7]; exact below_drewN hb6 _
      clear hw7 hb6
      go_wp2_with fail
      refine (H6 _).out.mono ?_
      rintro e w8 ⟨rfl, q8, hw8⟩
      have hb8 : Below w.heap.size w w8 := by rw [hw8]; exact below_drewN hb7 _
      clear hw8 hb7 H6
      go_wp2_with fail
      refine (H7 _).out.mono ?_
      rintro e w9 ⟨rfl, q9, hw9⟩
      have hb9 : Below w.heap.size w w9 := by rw [hw9]; exact below_drewN hb8 _
      clear hw9 hb8 H7
      go_wp2
      go_ret
      exact ⟨rfl, hb9⟩
    · have H1 := fun W => hid (in_not i 0 ((s.size : Int) - 1) W h1)
      clear h1
      go_wp2_with fail
      refine (H1 _).out.mono ?_
      rintro e w4 ⟨rfl, hw4⟩
      subst w4
      go_wp2
      go_ret
      exact ⟨rfl, hb1⟩
theorem tnleast_any (s : ByteArray) (i : Int) (w : World) (hs : s.size ≤ maxLen) :
    Calls Try.prog 3 #[.string s, .int .i64 i] w fun e w' => e = .returned (.bool true) ∧ Below w.heap.size w w' := by
  by_cases h : s.size ≤ 24
  · exact tleast_any s i w h
  · exact tleast_long s i w (by omega) hs
end Go.Proofs.Ytojpapeomahegaa
