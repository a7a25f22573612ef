/-
  The walk of WheelSays: it returns true for every two texts and number, and leaves the old memory alone. Conditions: the row's own size; errors.errorType as the program's text lays it.
-/
import Derived.Test.YtldhcmoecmfigaaDoorErr
import Derived.Test.YtldhcmoecmfigaaDoorLong2
import Derived.Test.YtldhcmoecmfigaaDoorIn2
import Derived.Test.YtldhcmoecmfigaaDoorOn
import Derived.Test.YtldhcmoecmfigaaDoorWback
import Derived.Test.YtldhcmoecmfigaaDoorRunw
namespace Go.Proofs.YtldhcmoecmfigaaDoor
open Go.RowKit

set_option maxHeartbeats 4000000 in
set_option maxRecDepth 100000 in
theorem wheelSays_any (s t : ByteArray) (r : Int) (w : World) (hs : s.size ≤ maxLen) (ht : t.size ≤ maxLen) (hg : Laid w) :
    Calls Tryd.prog 3 #[.string s, .string t, .int .i64 r] w fun e w' => e = .returned (.bool true) ∧ Below w.heap.size w w' := by
  have hp := hg.pos
  go_enter Tryd.func3, Tryd.ntmps3
  by_cases h : s.size ≤ 24
  focus
    have H1 := fun W => hid (long2_no s 24 W h)
    have H2 := fun W => hid (rwheel_any s W h)
    have H3 := fun W => hid (there_any s W h)
    have hn1 : wheelN (bs s) ≤ 24 := Nat.le_trans (wheelN_le _) (by rw [bs_len]; exact h)
    generalize wheelN (bs s) = n1 at H2 H3 hn1
    generalize txt (wheelT (bs s)) = x at H2 H3
    have hq := same_yes (rfl : x = x)
    clear hs
    go_wp2_with fail
    refine (H1 _).out.mono ?_
    rintro e w1 ⟨rfl, hw1⟩
    subst w1
    go_wp2_with fail
    refine (H2 _).out.mono ?_
    rintro e w2 ⟨rfl, hb2⟩
    go_wp2_with fail
    refine (H3 _).out.mono ?_
    rintro e w3 ⟨rfl, hb3⟩
    have hbB := hb2.trans (hb3.mono hb2.size)
    have hg3 := hg.below hp hbB
    clear hb2 hb3 H1 H2 H3
    go_wp2_with fail
    refine (error_nil _).mono ?_
    rintro e w4 ⟨rfl, hw4⟩
    subst w4
    go_wp2_with fail
    clear hq
  rotate_left
  focus
    have H1 := fun W => hid (long2_yes s 24 W (by omega))
    have H3 := fun W => hid (there_long s W (by omega) hs)
    clear hs
    go_wp2_with fail
    refine (H1 _).out.mono ?_
    rintro e w1 ⟨rfl, hw1⟩
    subst w1
    go_wp2_with fail
    refine (H3 _).out.mono ?_
    rintro e w2 ⟨rfl, hw2⟩
    subst w2
    go_wp2_with fail
    refine (error_err 4 _ hg).mono ?_
    rintro e w3 ⟨rfl, hbB⟩
    have hg3 := hg.below hp hbB
    clear H1 H3
    go_wp2_with fail
  rotate_left
  all_goals (
    clear hg h
    by_cases h2 : t.size ≤ 24
    · have H1 := fun W => hid (long2_no t 24 W h2)
      clear ht
      by_cases hout : OutW t r
      · have H0 := fun W => hid (in_not r 0 ((t.size : Int) - 1) W (by rcases hout with h | h <;> omega))
        have H4 := fun W => hid (back_out t r W h2 hout)
        refine (H1 _).out.mono ?_
        rintro e w1 ⟨rfl, hw1⟩
        subst w1
        go_wp2_with fail
        refine (H0 _).out.mono ?_
        rintro e w1 ⟨rfl, hw1⟩
        subst w1
        have hz : ((t.size : Int) = 0 ∧ ¬ r = 0) ∨ ¬ (t.size : Int) = 0 := by rcases hout with h | h <;> omega
        clear H0 H1 hout
        rcases hz with ⟨z1, z2⟩ | z1
        · have z3 : ((t.size : Int) == 0) = true := by simp [z1]
          have z4 : (r == 0) = false := by simpa using z2
          clear z1 z2
          go_wp2_with fail
          refine (H4 _).out.mono ?_
          rintro e w5 ⟨rfl, hb5⟩
          have hbC := hbB.trans (hb5.mono hbB.size)
          have hg5 := hg3.below (Nat.lt_of_lt_of_le hp hbB.size) hb5
          clear hb5 hg3 H4
          go_wp2_with fail
          refine (error_err 1 _ hg5).mono ?_
          rintro e w6 ⟨rfl, hb6⟩
          have hbD := hbC.trans (hb6.mono hbC.size)
          clear hb6 hbC hg5 hbB
          go_wp2_with fail
          go_ret
          exact ⟨rfl, hbD⟩
        · have z3 : ((t.size : Int) == 0) = false := by simpa using z1
          clear z1
          go_wp2_with fail
          refine (H4 _).out.mono ?_
          rintro e w5 ⟨rfl, hb5⟩
          have hbC := hbB.trans (hb5.mono hbB.size)
          have hg5 := hg3.below (Nat.lt_of_lt_of_le hp hbB.size) hb5
          clear hb5 hg3 H4
          go_wp2_with fail
          refine (error_err 1 _ hg5).mono ?_
          rintro e w6 ⟨rfl, hb6⟩
          have hbD := hbC.trans (hb6.mono hbC.size)
          clear hb6 hbC hg5 hbB
          go_wp2_with fail
          go_ret
          exact ⟨rfl, hbD⟩
      · obtain ⟨k, rfl⟩ : ∃ k : Nat, r = k := ⟨r.toNat, by unfold OutW at hout; omega⟩
        have hr : (0 < t.size → k < t.size) ∧ (t.size = 0 → k = 0) := by unfold OutW at hout; omega
        obtain ⟨o, hO⟩ := stb_ex (bs t)
        have H5 := fun W => hid (runwheel_any t o hO k W h2 hr)
        have H4 : ∀ W, Hid (Calls Tryd.prog 10 #[.string t, .int .i64 k] W fun e w' => ((wheelT (wlk (bs t) o t.size k) = bs t ∧ e = .returned (.tuple #[.string (txt (wlk (bs t) o t.size k)), .nilIface])) ∨ (wheelT (wlk (bs t) o t.size k) ≠ bs t ∧ e = .returned (.tuple #[.string ByteArray.empty, .iface 40 (.int .i64 6)]))) ∧ Below W.heap.size W w') := fun W => hid ((back_any t k W h2 hr).mono fun e w' ⟨o', hO', hc, hb⟩ => by
          obtain rfl := stb_one hO' hO
          exact ⟨hc, hb⟩)
        have hin : (0 < t.size ∧ ∀ W, Hid (Calls Tryd.prog 8 #[.int .i64 k, .int .i64 0, .int .i64 ((t.size : Int) - 1)] W fun e w' => e = .returned (.bool true) ∧ w' = W)) ∨ ((t.size : Int) = 0 ∧ (k : Int) = 0 ∧ ∀ W, Hid (Calls Tryd.prog 8 #[.int .i64 k, .int .i64 0, .int .i64 ((t.size : Int) - 1)] W fun e w' => e = .returned (.bool false) ∧ w' = W)) := by
          rcases Nat.eq_zero_or_pos t.size with e | e
          · exact .inr ⟨by omega, by have := hr.2 e; omega, fun W => hid (in_not _ 0 _ W (by omega))⟩
          · exact .inl ⟨e, fun W => hid (in_yes _ 0 _ W (by omega) (by have := hr.1 e; omega))⟩
        refine (H1 _).out.mono ?_
        rintro e w1 ⟨rfl, hw1⟩
        subst w1
        clear hO hr hout H1
        rcases hin with ⟨_, H0⟩ | ⟨z1, z2, H0⟩
        focus
          go_wp2_with fail
          refine (H0 _).out.mono ?_
          rintro e w1 ⟨rfl, hw1⟩
          subst w1
          go_wp2_with fail
        rotate_left
        focus
          have z3 : ((t.size : Int) == 0) = true := by simp [z1]
          have z4 : ((k : Int) == 0) = true := by simp [z2]
          clear z1 z2
          go_wp2_with fail
          refine (H0 _).out.mono ?_
          rintro e w1 ⟨rfl, hw1⟩
          subst w1
          go_wp2_with fail
        rotate_left
        all_goals (
          clear H0
          refine (H5 _).out.mono ?_
          rintro e w5 ⟨rfl, hb5⟩
          have hbC := hbB.trans (hb5.mono hbB.size)
          have hg5 := hg3.below (Nat.lt_of_lt_of_le hp hbB.size) hb5
          clear hb5 hg3 H5
          by_cases heq : wheelT (wlk (bs t) o t.size k) = bs t
          · have H6 : ∀ W, Hid (Calls Tryd.prog 10 #[.string t, .int .i64 k] W fun e w' => e = .returned (.tuple #[.string (txt (wlk (bs t) o t.size k)), .nilIface]) ∧ Below W.heap.size W w') := fun W => hid ((H4 W).out.mono fun e w' ⟨hc, hb⟩ => ⟨by rcases hc with ⟨_, h⟩ | ⟨h, _⟩; (exact h); (exact absurd heq h), hb⟩)
            rw [decide_eq_true heq]
            clear heq H4
            generalize txt (wlk (bs t) o t.size k) = U at H6
            have hq := same_yes (rfl : U = U)
            go_wp2_with fail
            refine (H6 _).out.mono ?_
            rintro e w6 ⟨rfl, hb6⟩
            have hbD := hbC.trans (hb6.mono hbC.size)
            clear hb6 hbC hg5 hbB H6
            go_wp2_with fail
            refine (error_nil _).mono ?_
            rintro e w7 ⟨rfl, hw7⟩
            subst w7
            go_wp2_with fail
            go_ret
            exact ⟨rfl, hbD⟩
          · have H6 : ∀ W, Hid (Calls Tryd.prog 10 #[.string t, .int .i64 k] W fun e w' => e = .returned (.tuple #[.string ByteArray.empty, .iface 40 (.int .i64 6)]) ∧ Below W.heap.size W w') := fun W => hid ((H4 W).out.mono fun e w' ⟨hc, hb⟩ => ⟨by rcases hc with ⟨h, _⟩ | ⟨_, h⟩; (exact absurd h heq); (exact h), hb⟩)
            rw [decide_eq_false heq]
            clear heq H4
            generalize txt (wlk (bs t) o t.size k) = U
            go_wp2_with fail
            refine (H6 _).out.mono ?_
            rintro e w6 ⟨rfl, hb6⟩
            have hbD := hbC.trans (hb6.mono hbC.size)
            have hg6 := hg5.below (Nat.lt_of_lt_of_le hp hbC.size) hb6
            clear hb6 hbC hg5 hbB H6
            go_wp2_with fail
            refine (error_err 6 _ hg6).mono ?_
            rintro e w7 ⟨rfl, hb7⟩
            have hbE := hbD.trans (hb7.mono hbD.size)
            clear hb7 hbD hg6
            go_wp2_with fail
            go_ret
            exact ⟨rfl, hbE⟩)
    · have H1 := fun W => hid (long2_yes t 24 W (by omega))
      have H4 := fun W => hid (back_long t r W (by omega) ht)
      clear ht
      refine (H1 _).out.mono ?_
      rintro e w1 ⟨rfl, hw1⟩
      subst w1
      go_wp2_with fail
      refine (H4 _).out.mono ?_
      rintro e w5 ⟨rfl, hb5⟩
      have hbC := hbB.trans (hb5.mono hbB.size)
      have hg5 := hg3.below (Nat.lt_of_lt_of_le hp hbB.size) hb5
      clear hb5 hg3 H4 H1
      go_wp2_with fail
      refine (error_err 4 _ hg5).mono ?_
      rintro e w6 ⟨rfl, hb6⟩
      have hbD := hbC.trans (hb6.mono hbC.size)
      clear hb6 hbC hg5 hbB
      go_wp2_with fail
      go_ret
      exact ⟨rfl, hbD⟩)
end Go.Proofs.YtldhcmoecmfigaaDoor
