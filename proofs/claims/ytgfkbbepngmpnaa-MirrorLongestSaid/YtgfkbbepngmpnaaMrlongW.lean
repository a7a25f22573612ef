/-
  The walk of MirrorLongest: it returns true for every text and every two numbers, and leaves the old memory alone. No condition but the row's own size.
-/
import Derived.Test.YtgfkbbepngmpnaaMrfact
import Derived.Test.YtgfkbbepngmpnaaRmir
import Derived.Test.YtgfkbbepngmpnaaIn
namespace Go.Proofs.Ytgfkbbepngmpnaa
open Go.RowKit

set_option maxHeartbeats 400000 in
theorem mlong_long (s : ByteArray) (i k : Int) (w : World) (h : 24 < s.size) (hs : s.size ≤ maxLen) :
    Calls Try.prog 4 #[.string s, .int .i64 i, .int .i64 k] w fun e w' => e = .returned (.bool true) ∧ Below w.heap.size w w' := by
  have H1 := fun w => hid (longest_long s w h hs)
  unfold maxLen at hs
  go_enter Try.func4, Try.ntmps4
  go_wp2_with fail
  refine (mrfact_any _).mono ?_
  rintro e w1 ⟨rfl, hb1⟩
  go_wp2_with fail
  refine (H1 _).out.mono ?_
  rintro e w2 ⟨rfl, hb2⟩
  have hb3 := Below.on hb1 hb2 (Nat.le_refl _)
  go_wp2
  go_ret
  exact ⟨rfl, hb3⟩

set_option maxHeartbeats 1600000 in
theorem mlong_any (s : ByteArray) (i k : Int) (w : World) (h : s.size ≤ 24) :
    Calls Try.prog 4 #[.string s, .int .i64 i, .int .i64 k] w fun e w' => e = .returned (.bool true) ∧ Below w.heap.size w w' := by
  have H1 := fun w => hid (longest_any s w h)
  go_enter Try.func4, Try.ntmps4
  go_wp2_with fail
  refine (mrfact_any _).mono ?_
  rintro e w1 ⟨rfl, hb1⟩
  go_wp2_with fail
  refine (H1 _).out.mono ?_
  rintro e w2 ⟨a, m, rfl, hl, hc2⟩
  have hb2 := Below.on hb1 hc2 (Nat.le_refl _)
  have hsum := hl.1
  have HL := hid hl
  clear H1 hb1 hc2 hl
  by_cases h0 : s.size = 0
  · obtain rfl : a = 0 := by omega
    obtain rfl : m = 0 := by omega
    clear HL
    go_wp2
    go_ret
    exact ⟨rfl, hb2⟩
  · have hm := lgst_pos HL.out (by omega)
    have hz : ((s.size : Int) == 0) = false := by simpa using h0
    have HP := hid HL.out.2.1
    have HM := fun W => hid (rmirror_yes s a (a + m) W (by omega) (by omega) (by omega) HP.out)
    have hcut : ∀ W : World, Sem.run Try.prog (Instr.slice 9 (.string s) (some (.int .i64 (a : Int))) (some (.int .i64 ((a : Int) + (m : Int)))) none) W = .ok (.string (s.extract a (a + m))) W := fun W =>
      run_slice_string W 9 s .i64 .i64 (a : Int) ((a : Int) + (m : Int)) Try.underlying9 (by omega) (by omega) (by omega)
    have H1 := fun W => hid (in_yes (a : Int) 0 ((s.size : Int) - 1) W (by omega) (by omega))
    have H2 := fun W => hid (in_yes (m : Int) 1 ((s.size : Int) - (a : Int)) W (by omega) (by omega))
    generalize s.extract a (a + m) = t at HM hcut
    clear HP
    go_wp2_with fail
    refine (H1 _).out.mono ?_
    rintro e w3 ⟨rfl, hw3⟩
    subst w3
    go_wp2_with fail
    refine (H2 _).out.mono ?_
    rintro e w3 ⟨rfl, hw3⟩
    subst w3
    go_wp2_with fail
    refine (HM _).out.mono ?_
    rintro e w3 ⟨rfl, q3, hw3⟩
    have hb3 : Below w.heap.size w w3 := by rw [hw3]; exact below_drewN hb2 _
    clear hw3 HM hcut H1 H2 hb2
    by_cases h1 : 0 ≤ i ∧ i ≤ (s.size : Int) - 1
    · obtain ⟨i, rfl⟩ := Int.eq_ofNat_of_zero_le h1.1
      have hi : i < s.size := by omega
      have H1 := fun W => hid (in_yes (i : Int) 0 ((s.size : Int) - 1) W (by omega) (by omega))
      clear h1
      go_wp2_with fail
      refine (H1 _).out.mono ?_
      rintro e w4 ⟨rfl, hw4⟩
      subst w4
      clear H1
      by_cases h2 : (i : Int) + 1 ≤ k ∧ k ≤ (s.size : Int)
      · obtain ⟨k, rfl⟩ := Int.eq_ofNat_of_zero_le (show 0 ≤ k by omega)
        have hk : i < k ∧ k ≤ s.size := by omega
        have hk1 := hk.1
        have hk2 := hk.2
        have H2 := fun W => hid (in_yes (k : Int) ((i : Int) + 1) (s.size : Int) W h2.1 h2.2)
        have HM := fun W => hid (rmirror_cut s i k W (by omega) (by omega) (by omega))
        have hcut : ∀ W : World, Sem.run Try.prog (Instr.slice 9 (.string s) (some (.int .i64 (i : Int))) (some (.int .i64 (k : Int))) none) W = .ok (.string (s.extract i k)) W := fun W =>
          run_slice_string W 9 s .i64 .i64 (i : Int) (k : Int) Try.underlying9 (by omega) (by omega) (by omega)
        generalize s.extract i k = u at HM hcut
        clear h2 hk
        go_wp2_with fail
        refine (H2 _).out.mono ?_
        rintro e w4 ⟨rfl, hw4⟩
        subst w4
        go_wp2_with fail
        refine (HM _).out.mono ?_
        rintro e w4 ⟨r, rfl, hr, q4, hw4⟩
        have hb4 : Below w.heap.size w w4 := by rw [hw4]; exact below_drewN hb3 _
        clear hw4 HM hcut H2 hb3
        cases r with
        | false =>
          clear hr
          go_wp2
          go_ret
          exact ⟨rfl, hb4⟩
        | true =>
          obtain ⟨hle, hat⟩ := HL.out.2.2.2 i k hk1 hk2 (hr.1 rfl)
          clear hr HL
          by_cases hlt : k - i < m
          · have d1 : decide ((k : Int) - (i : Int) < (m : Int)) = true := by simp; omega
            go_wp2
            go_ret
            exact ⟨rfl, hb4⟩
          · have he : k - i = m := by omega
            have ha := hat he
            have d1 : decide ((k : Int) - (i : Int) < (m : Int)) = false := by simp; omega
            have d2 : ((k : Int) - (i : Int) == (m : Int)) = true := by simp; omega
            clear hat he hlt
            go_wp2
            go_ret
            exact ⟨rfl, hb4⟩
      · have H2 := fun W => hid (in_not k ((i : Int) + 1) (s.size : Int) W h2)
        clear h2
        go_wp2_with fail
        refine (H2 _).out.mono ?_
        rintro e w4 ⟨rfl, hw4⟩
        subst w4
        go_wp2
        go_ret
        exact ⟨rfl, hb3⟩
    · have H1 := fun W => hid (in_not i 0 ((s.size : Int) - 1) W h1)
      clear h1
      go_wp2_with fail
      refine (H1 _).out.mono ?_
      rintro e w4 ⟨rfl, hw4⟩
      subst w4
      go_wp2
      go_ret
      exact ⟨rfl, hb3⟩
end Go.Proofs.Ytgfkbbepngmpnaa
