/-
  The walk of PeriodSays: it returns true for every text and every number, and leaves the old memory alone. Conditions: the row's own size; errors.errorType as the program's text lays it.
-/
import Derived.Test.YtlklhgapnenekaaDoorErr
import Derived.Test.YtlklhgapnenekaaDoorLong
import Derived.Test.YtlklhgapnenekaaDoorPeri
import Derived.Test.YtlklhgapnenekaaDoorRper
import Derived.Test.YtlklhgapnenekaaDoorInts
namespace Go.Proofs.YtlklhgapnenekaaDoor
open Go.RowKit

set_option maxHeartbeats 800000 in
set_option maxRecDepth 100000 in
theorem prsays_long (s : ByteArray) (k : Int) (w : World) (h : 24 < s.size) (hs : s.size ≤ maxLen) (hg : Laid w) :
    Calls Tryd.prog 3 #[.string s, .int .i64 k] w fun e w' => e = .returned (.bool true) ∧ Below w.heap.size w w' := by
  have H1 := fun w => hid (long_yes s w h hs)
  have H2 := fun w => hid (pall_long s w h hs)
  have H3 := fun w => hid (has_long s k w h hs)
  have HI := fun w => hid (ints_ok none none 0 0 0 0 [] w 0 0 (by omega) (by omega) IsInts.nil IsInts.nil)
  have hp := hg.pos
  unfold maxLen at hs
  have h1 : decide (1 ≤ s.size) = true := by simp; omega
  go_enter Tryd.func3, Tryd.ntmps3
  go_wp2_with fail
  refine (H1 _).out.mono ?_
  rintro e w1 ⟨rfl, hw1⟩
  subst w1
  go_wp2_with fail
  go_loopw [6, 7] (fun v i wr => v = .slice none 0 0 ∧ i = .int .i64 1 ∧ wr = w) (fun _ _ _ => 0)
  case atStart => exact ⟨rfl, rfl, rfl⟩
  case round =>
  obtain ⟨rfl, rfl, hwr⟩ := hrel
  subst wr
  go_wp2_with fail
  refine (H2 _).out.mono ?_
  rintro e w1 ⟨rfl, hw1⟩
  subst w1
  go_wp2_with fail
  refine (error_err 4 _ hg).mono ?_
  rintro e w3 ⟨rfl, hb3⟩
  go_wp2_with fail
  refine (HI _).out.mono ?_
  rintro e w4 ⟨rfl, hc4⟩
  have hb4 := Below.on hb3 hc4 (Nat.le_refl _)
  have hg4 := hg.below hp hb4
  clear hb3 hc4
  go_wp2_with fail
  refine (H3 _).out.mono ?_
  rintro e w5 ⟨rfl, hw5⟩
  subst w5
  go_wp2_with fail
  refine (error_err 4 _ hg4).mono ?_
  rintro e w6 ⟨rfl, hc6⟩
  have hb6 := Below.on hb4 hc6 (Nat.le_refl _)
  clear hb4 hc6 hg4
  go_wp2
  go_ret
  exact ⟨rfl, hb6⟩

set_option maxHeartbeats 1600000 in
set_option maxRecDepth 100000 in
theorem prsays_any (s : ByteArray) (k : Int) (w : World) (h : s.size ≤ 24) :
    Calls Tryd.prog 3 #[.string s, .int .i64 k] w fun e w' => e = .returned (.bool true) ∧ Below w.heap.size w w' := by
  obtain ⟨i0, hi, hz0, hz1, hz2⟩ := info_parts int_info
  have H1 := fun w => hid (long_no s w h)
  have H2 := fun (j : Nat) w => hid (rper_any s (j : Int) w (by omega))
  have H3 := fun w => hid (pall_any s w h)
  have H4 := fun w => hid (has_any s k w h)
  have H5 := fun w => hid (rper_any s k w (by omega))
  generalize hasB s k = z at H4 H5
  go_enter Tryd.func3, Tryd.ntmps3
  go_wp2_with fail
  refine (H1 _).out.mono ?_
  rintro e w1 ⟨rfl, hw1⟩
  subst w1
  clear H1
  go_wp2_with fail
  go_loopw [6, 7] (fun v i wr => ∃ j : Nat, 1 ≤ j ∧ j ≤ s.size + 1 ∧ i = .int .i64 j ∧ Hid (OwnI wr w.heap.size 3 v (pdsTo (sg s) s.size j)) ∧ Below w.heap.size w wr) (fun _ i _ => s.size + 1 - (intOf i).toNat)
  case atStart => exact ⟨1, Nat.le_refl _, by omega, rfl, hid (by rw [pdsTo_one]; exact OwnI.nil _ _ _), Below.refl _ _⟩
  case round =>
    obtain ⟨j, hj0, hj1, rfl, HO, hbw⟩ := hrel
    have hl := pdsTo_len (sg s) s.size j
    by_cases hlt : j ≤ s.size
    · clear H3 H4 H5
      have hd : decide (j ≤ s.size) = true := by simpa using hlt
      have H2' := fun w => H2 j w
      have hsw := hbw.size
      rw [hasB_nat] at H2'
      by_cases hp : perB (sg s) s.size j = true
      · have HS := hid (pdsTo_yes hp)
        rw [hp] at H2'
        generalize pdsTo (sg s) s.size j = ys at HO HS hl
        clear hp H2
        go_wp2_with fail
        refine (H2' _).out.mono ?_
        rintro e w2 ⟨rfl, q, hw2⟩
        have ho := HO.out.drewN q
        rw [← hw2] at ho
        have hb2 : Below w.heap.size w w2 := by rw [hw2]; exact below_drewN hbw q
        have hs2 := hb2.size
        clear hw2 hbw hsw HO H2'
        go_wp2_with (at_builtin; refine wpList_append_int _ rfl (.tmp 27) (.tmp 29) 23 rfl w.heap.size 3 i0 Tryd.underlying23 hi hz0 hz1 hz2 _ ys rfl ho (j : Int) rfl (by omega) (by omega) ?_)
        intro v' w3 hown3 hb3
        clear ho
        go_wp2
        go_roundw
        case rel => exact ⟨j + 1, by omega, by omega, by go_num, hid (by rw [HS.out]; exact hown3), hb2.trans hb3⟩
        case measure => simp [intOf]; omega
      · have hp : perB (sg s) s.size j = false := by simpa using hp
        have HS := hid (pdsTo_no hp)
        rw [hp] at H2'
        generalize pdsTo (sg s) s.size j = ys at HO HS hl
        clear hp H2
        go_wp2_with fail
        refine (H2' _).out.mono ?_
        rintro e w2 ⟨rfl, q, hw2⟩
        have ho := HO.out.drewN q
        rw [← hw2] at ho
        have HO2 := hid ho
        have hb2 : Below w.heap.size w w2 := by rw [hw2]; exact below_drewN hbw q
        clear ho hw2 hbw hsw HO H2'
        go_wp2
        go_roundw
        case rel => exact ⟨j + 1, by omega, by omega, by go_num, hid (by rw [HS.out]; exact HO2.out), hb2⟩
        case measure => simp [intOf]; omega
    · have hd : decide (j ≤ s.size) = false := by simpa using hlt
      have ho := HO.out
      rw [show j = s.size + 1 by omega, pds_all] at ho
      rw [show j = s.size + 1 by omega, pds_all] at hl
      obtain ⟨n, hn⟩ : ∃ n, (perL s).length = n := ⟨_, rfl⟩
      obtain ⟨A2, c2, rfl, hI2⟩ := own_n ho hn
      rw [hn] at hl
      have HN := hid hn
      have HI2 := hid hI2
      obtain ⟨wz, hwz⟩ : ∃ z, z = wr := ⟨_, rfl⟩
      subst hwz
      clear H2 HO ho hn hI2 hlt
      go_wp2_with fail
      refine (H3 _).out.mono ?_
      rintro e w3 ⟨v3, rfl, ho3, hc3⟩
      obtain ⟨A3, c3, rfl, hI3⟩ := own_n ho3 HN.out
      have hb3 := Below.on hbw hc3 (Nat.le_refl _)
      have HJ := hid (HI2.out.up hc3)
      have HI3 := hid hI3
      clear H3 ho3 hc3 hI3 HI2 hbw
      go_wp2_with fail
      refine (error_nil _).mono ?_
      rintro e w4 ⟨rfl, hw4⟩
      subst w4
      have HQ := hid (ints_ok A3 A2 n n c3 c2 (perL s) w3 _ _ (by omega) (by omega) HI3.out HJ.out)
      clear HI3 HJ HN
      go_wp2_with fail
      refine HQ.out.mono ?_
      rintro e w4 ⟨rfl, hc4⟩
      have hb4 := Below.on hb3 hc4 (Nat.le_refl _)
      clear hb3 hc4 HQ
      go_wp2_with fail
      refine (H4 _).out.mono ?_
      rintro e w5 ⟨rfl, hw5⟩
      subst w5
      go_wp2_with fail
      refine (error_nil _).mono ?_
      rintro e w6 ⟨rfl, hw6⟩
      subst w6
      go_wp2_with fail
      refine (H5 _).out.mono ?_
      rintro e w6 ⟨rfl, q, hw6⟩
      have hb6 : Below w.heap.size w w6 := by rw [hw6]; exact below_drewN hb4 q
      clear hw6 hb4 H5 H4
      go_wp2
      go_ret
      exact ⟨ret_bool (by cases z <;> rfl), hb6⟩
theorem prsays_all (s : ByteArray) (k : Int) (w : World) (hs : s.size ≤ maxLen) (hg : Laid w) :
    Calls Tryd.prog 3 #[.string s, .int .i64 k] w fun e w' => e = .returned (.bool true) ∧ Below w.heap.size w w' := by
  by_cases h : s.size ≤ 24
  · exact prsays_any s k w h
  · exact prsays_long s k w (by omega) hs hg
end Go.Proofs.YtlklhgapnenekaaDoor
