/-
  The walk of MirrorBack: it returns true for every text, and leaves the old memory alone. No condition but the row's own size.
-/
import Derived.Test.YtgfkbbepngmpnaaMrfact
import Derived.Test.YtgfkbbepngmpnaaBack
import Derived.Test.YtgfkbbepngmpnaaTurned
namespace Go.Proofs.Ytgfkbbepngmpnaa
open Go.RowKit

set_option maxHeartbeats 400000 in
theorem mback_long (s : ByteArray) (w : World) (h : 24 < s.size) (hs : s.size ≤ maxLen) :
    Calls Try.prog 3 #[.string s] w fun e w' => e = .returned (.bool true) ∧ Below w.heap.size w w' := by
  have hbz := backS_size s s.size (Nat.le_refl _)
  have H1 := fun w => hid (odd_long s w h hs)
  have H2 := fun w => hid (odd_long (backS s s.size) w (by omega) (by omega))
  have H3 := fun w => hid (even_long s w h hs)
  have H4 := fun w => hid (even_long (backS s s.size) w (by omega) (by omega))
  have HB := fun w => hid (back_any s w hs)
  clear hbz
  generalize backS s s.size = b at H2 H4 HB
  unfold maxLen at hs
  go_enter Try.func3, Try.ntmps3
  go_wp2_with fail
  refine (mrfact_any _).mono ?_
  rintro e w1 ⟨rfl, hb1⟩
  go_wp2_with fail
  refine (H1 _).out.mono ?_
  rintro e w2 ⟨rfl, hb2⟩
  have hb2 := Below.on hb1 hb2 (Nat.le_refl _)
  go_wp2_with fail
  refine (HB _).out.mono ?_
  rintro e w3 ⟨rfl, hw3⟩
  subst w3
  go_wp2_with fail
  refine (H2 _).out.mono ?_
  rintro e w3 ⟨rfl, hb3⟩
  have hb3 := Below.on hb2 hb3 (Nat.le_refl _)
  go_wp2_with fail
  refine (H3 _).out.mono ?_
  rintro e w4 ⟨rfl, hb4⟩
  have hb4 := Below.on hb3 hb4 (Nat.le_refl _)
  go_wp2_with fail
  refine (HB _).out.mono ?_
  rintro e w5 ⟨rfl, hw5⟩
  subst w5
  go_wp2_with fail
  refine (H4 _).out.mono ?_
  rintro e w5 ⟨rfl, hb5⟩
  have hb5 := Below.on hb4 hb5 (Nat.le_refl _)
  go_wp2
  go_ret
  exact ⟨rfl, hb5⟩

set_option maxHeartbeats 1600000 in
theorem mback_any (s : ByteArray) (w : World) (h : s.size ≤ 24) :
    Calls Try.prog 3 #[.string s] w fun e w' => e = .returned (.bool true) ∧ Below w.heap.size w w' := by
  have hbz := backS_size s s.size (Nat.le_refl _)
  have H1 := fun w => hid (odd_any s w h)
  have H2 := fun w => hid (odd_any (backS s s.size) w (by omega))
  have H3 := fun w => hid (even_any s w h)
  have H4 := fun w => hid (even_any (backS s s.size) w (by omega))
  have HB := fun w => hid (back_any s w (by unfold maxLen; omega))
  rw [hbz] at H2 H4
  rw [← odd_back fun i hi => sg_back s i hi] at H2
  have HE : Hid (∀ i, 0 < i → i < s.size → (evenL (sg s) s.size s.size).getD i 0 = (evenL (sg (backS s s.size)) s.size s.size).getD (s.size - i) 0) := hid fun i h0 hi => by
    rw [evenL_get _ _ _ _ hi, evenL_get _ _ _ _ (by omega), even_back (fun i hi => sg_back s i hi) (by omega)]
  have h1 := oddL_len (sg s) s.size s.size
  have h3 := evenL_len (sg s) s.size s.size
  have h4 := evenL_len (sg (backS s s.size)) s.size s.size
  have L1 := hid h1
  have L3 := hid h3
  have L4 := hid h4
  clear hbz h1 h3 h4
  generalize evenL (sg s) s.size s.size = es at H3 HE L3
  generalize evenL (sg (backS s s.size)) s.size s.size = fs at H4 HE L4
  generalize backS s s.size = b at H2 H4 HB
  generalize oddL (sg s) s.size s.size = xs at H1 H2 L1
  go_enter Try.func3, Try.ntmps3
  go_wp2_with fail
  refine (mrfact_any _).mono ?_
  rintro e w1 ⟨rfl, hb1⟩
  go_wp2_with fail
  refine (H1 _).out.mono ?_
  rintro e w2 ⟨v2, rfl, ho2, hc2⟩
  obtain ⟨A2, c2, rfl, hI2⟩ := own_n ho2 L1.out
  have hb2 := Below.on hb1 hc2 (Nat.le_refl _)
  have J2 := hid hI2
  clear ho2 hI2 hc2 hb1 H1
  go_wp2_with fail
  refine (HB _).out.mono ?_
  rintro e w3 ⟨rfl, hw3⟩
  subst w3
  go_wp2_with fail
  refine (H2 _).out.mono ?_
  rintro e w3 ⟨v3, rfl, ho3, hc3⟩
  obtain ⟨A3, c3, rfl, hI3⟩ := own_n (n := s.size) ho3 (by rw [List.length_reverse]; exact L1.out)
  have hb3 := Below.on hb2 hc3 (Nat.le_refl _)
  have J2' := hid (J2.out.up hc3)
  have J3 := hid hI3
  clear ho3 hI3 hc3 hb2 H2 J2
  go_wp2_with fail
  refine (H3 _).out.mono ?_
  rintro e w4 ⟨v4, rfl, ho4, hc4⟩
  obtain ⟨A4, c4, rfl, hI4⟩ := own_n ho4 L3.out
  have hb4 := Below.on hb3 hc4 (Nat.le_refl _)
  have J2 := hid (J2'.out.up hc4)
  have J3' := hid (J3.out.up hc4)
  have J4 := hid hI4
  clear ho4 hI4 hc4 hb3 H3 J2' J3
  go_wp2_with fail
  refine (HB _).out.mono ?_
  rintro e w5 ⟨rfl, hw5⟩
  subst w5
  go_wp2_with fail
  refine (H4 _).out.mono ?_
  rintro e w5 ⟨v5, rfl, ho5, hc5⟩
  obtain ⟨A5, c5, rfl, hI5⟩ := own_n ho5 L4.out
  have hb5 := Below.on hb4 hc5 (Nat.le_refl _)
  have J2' := hid (J2.out.up hc5)
  have J3 := hid (J3'.out.up hc5)
  have J4' := hid (J4.out.up hc5)
  have J5 := hid hI5
  clear ho5 hI5 hc5 hb4 H4 J2 J3' J4 HB
  have HT := hid (turned_ints A2 s.size c2 xs w5 (by omega) J2'.out)
  go_wp2_with fail
  refine HT.out.mono ?_
  rintro e w6 ⟨v6, rfl, ho6, hc6⟩
  obtain ⟨A6, c6, rfl, hI6⟩ := own_n (n := s.size) ho6 (by rw [List.length_reverse]; exact L1.out)
  have hb6 := Below.on hb5 hc6 (Nat.le_refl _)
  have HI := hid (ints_ok A6 A3 s.size s.size c6 c3 xs.reverse w6 _ _ (by omega) (by omega) hI6 (J3.out.up hc6))
  have J4 := hid (J4'.out.up hc6)
  have J5' := hid (J5.out.up hc6)
  clear ho6 hI6 hc6 hb5 HT J3 J4' J5 J2'
  go_wp2_with fail
  refine HI.out.mono ?_
  rintro e w7 ⟨rfl, hc7⟩
  have hb7 := Below.on hb6 hc7 (Nat.le_refl _)
  have J4' := hid (J4.out.up hc7)
  have J5 := hid (J5'.out.up hc7)
  clear hc7 hb6 HI J4 J5'
  go_wp2_with fail
  go_loopw [12] (fun t wr => ∃ k q : Nat, t = .int .i64 k ∧ 1 ≤ k ∧ wr = w7.drewN q) (fun t _ => s.size - (intOf t).toNat)
  case atStart => exact ⟨1, 0, rfl, by omega, rfl⟩
  case round =>
    obtain ⟨k, q, rfl, hk, rfl⟩ := hrel
    by_cases hlt : k < s.size
    · obtain ⟨g, off, rfl, _, hca⟩ := J4'.out.2 (by omega)
      obtain ⟨g', off', rfl, _, hcb⟩ := J5.out.2 (by omega)
      have hx := hca k hlt
      have hy := hcb (s.size - k) (by omega)
      rw [← HE.out k (by omega) hlt] at hy
      generalize es.getD k 0 = X at hx hy
      have e1 : ((s.size : Int) - (k : Int)).toNat = s.size - k := by omega
      have e2 : (0 : Int) ≤ (s.size : Int) - (k : Int) := by omega
      have e3 : (s.size : Int) - (k : Int) < (s.size : Int) := by omega
      clear hca hcb
      go_wp2
      go_quiet (fail)
      go_wp2
      go_roundw
      case rel => exact ⟨k + 1, _, by go_num, by omega, by first | rfl | rw [World.drewN_drewN]⟩
      case measure => simp [intOf]; omega
    · go_wp2
      go_ret
      exact ⟨rfl, below_drewN hb7 _⟩
end Go.Proofs.Ytgfkbbepngmpnaa
