/-
  The walk of TurnTurns: it returns true for every text and every number, and leaves the old memory alone. No condition but the row's own size.
-/
import Derived.Test.YtojpapeomahegaaTnfact
import Derived.Test.YtojpapeomahegaaRturn
import Derived.Test.YtojpapeomahegaaIn
import Derived.Deep.QuietTactic
import Derived.BigQuiet
namespace Go.Proofs.Ytojpapeomahegaa
open Go.RowKit

set_option maxHeartbeats 400000 in
theorem tturns_long (s : ByteArray) (i : Int) (w : World) (h : 24 < s.size) (hs : s.size ≤ maxLen) :
    Calls Try.prog 5 #[.string s, .int .i64 i] w fun e w' => e = .returned (.bool true) ∧ Below w.heap.size w w' := by
  have H1 := fun w => hid (root_long s w h hs)
  unfold maxLen at hs
  go_enter Try.func5, Try.ntmps5
  go_wp2_with fail
  refine (tnfact_any _).mono ?_
  rintro e w1 ⟨rfl, hb1⟩
  go_wp2_with fail
  refine (H1 _).out.mono ?_
  rintro e w2 ⟨rfl, hw2⟩
  subst w2
  go_wp2
  go_ret
  exact ⟨rfl, hb1⟩

set_option maxHeartbeats 1600000 in
theorem tturns_any (s : ByteArray) (i : Int) (w : World) (h : s.size ≤ 24) :
    Calls Try.prog 5 #[.string s, .int .i64 i] w fun e w' => e = .returned (.bool true) ∧ Below w.heap.size w w' := by
  have H1 := fun w => hid (root_any s w h)
  go_enter Try.func5, Try.ntmps5
  go_wp2_with fail
  refine (tnfact_any _).mono ?_
  rintro e w1 ⟨rfl, hb1⟩
  go_wp2_with fail
  refine (H1 _).out.mono ?_
  rintro e w2 ⟨r, rfl, hr, hc2⟩
  have hb2 := Below.on hb1 hc2 (Nat.le_refl _)
  have hrs := rt_le (cy_pr s) hr
  have HR := hid hr
  clear H1 hr hc2 hb1
  by_cases h1 : 0 ≤ i ∧ i ≤ (s.size : Int) - 1
  · obtain ⟨i, rfl⟩ := Int.eq_ofNat_of_zero_le h1.1
    have hi : i < s.size := by omega
    have hn : 0 < s.size := by omega
    have r0 := rt_pos hn HR.out
    have hts := turn_size s i (by omega)
    have H1 := fun W => hid (in_yes (i : Int) 0 ((s.size : Int) - 1) W (by omega) (by omega))
    have H2 := fun W => hid (in_yes (r : Int) 1 (s.size : Int) W (by omega) (by omega))
    have H3 := fun W => hid (rturn_any s i W (by omega) (by omega))
    have H4 := fun W => hid (root_any (turnS s i) W (by omega))
    have HS := hid (rot_self hn HR.out (i := i) (by omega))
    have HT := hid (root_turn HR.out (i := i) (by omega) hn)
    generalize turnS s i = t at H3 H4 HS HT
    clear h1 HR hts
    go_wp2_with fail
    refine (H1 _).out.mono ?_
    rintro e w3 ⟨rfl, hw3⟩
    subst w3
    go_wp2_with fail
    refine (H2 _).out.mono ?_
    rintro e w3 ⟨rfl, hw3⟩
    subst w3
    go_wp2_with fail
    refine (H3 _).out.mono ?_
    rintro e w3 ⟨rfl, q3, hw3⟩
    have hb3 : Below w.heap.size w w3 := by rw [hw3]; exact below_drewN hb2 _
    clear H1 H2 hw3 hb2
    go_wp2_with fail
    refine (H4 _).out.mono ?_
    rintro e w4 ⟨r', rfl, hr', hc4⟩
    have hb4 := Below.on hb3 hc4 (Nat.le_refl _)
    obtain rfl : r' = r := rt_one hr' HT.out
    clear H4 hr' hc4 hb3 HT
    have g0 : ¬ ((r' : Int) = 0) := by omega
    by_cases he : t = s
    · have hq := same_yes he
      have hm : (i : Int) % (r' : Int) = 0 := by
        rw [← Int.natCast_emod, Nat.mod_eq_zero_of_dvd (HS.out.1 he)]; rfl
      clear he HS
      go_wp2_with fail
      go_quiet ((go_at_call 10; exact Calls.quiet_of (H3 _).out))
      go_wp2
      go_ret
      exact ⟨rfl, below_drewN hb4 _⟩
    · have hq := same_no he
      have hm : ¬ (i : Int) % (r' : Int) = 0 := by
        rw [← Int.natCast_emod]
        intro e
        exact he (HS.out.2 (Nat.dvd_of_mod_eq_zero (by omega)))
      clear he HS
      go_wp2_with fail
      go_quiet ((go_at_call 10; exact Calls.quiet_of (H3 _).out))
      go_wp2
      go_ret
      exact ⟨ret_bool (by first | rfl | simp [hm]), below_drewN hb4 _⟩
  · have H1 := fun W => hid (in_not i 0 ((s.size : Int) - 1) W h1)
    clear h1
    go_wp2_with fail
    refine (H1 _).out.mono ?_
    rintro e w4 ⟨rfl, hw4⟩
    subst w4
    go_wp2
    go_ret
    exact ⟨rfl, hb2⟩
theorem tnturns_any (s : ByteArray) (i : Int) (w : World) (hs : s.size ≤ maxLen) :
    Calls Try.prog 5 #[.string s, .int .i64 i] w fun e w' => e = .returned (.bool true) ∧ Below w.heap.size w w' := by
  by_cases h : s.size ≤ 24
  · exact tturns_any s i w h
  · exact tturns_long s i w (by omega) hs
end Go.Proofs.Ytojpapeomahegaa
