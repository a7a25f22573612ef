/-
  The walk of PeriodTimes: it returns true for every text and every three numbers, and leaves the old memory alone. No condition but the row's own size.
-/
import Derived.Test.YtlklhgapnenekaaPrfact
import Derived.Test.YtlklhgapnenekaaIn
namespace Go.Proofs.Ytlklhgapnenekaa
open Go.RowKit

set_option maxHeartbeats 800000 in
theorem times_long (s : ByteArray) (p n i : Int) (w : World) (h : 24 < s.size) (hs : s.size ≤ maxLen) :
    Calls Try.prog 4 #[.string s, .int .i64 p, .int .i64 n, .int .i64 i] w fun e w' => e = .returned (.bool true) ∧ Below w.heap.size w w' := by
  have H1 := fun W => hid (has_long s p W h hs)
  unfold maxLen at hs
  go_enter Try.func4, Try.ntmps4
  go_wp2_with fail
  refine (prfact_any _).mono ?_
  rintro e w1 ⟨rfl, hb1⟩
  go_wp2_with fail
  refine (H1 _).out.mono ?_
  rintro e w2 ⟨rfl, hw2⟩
  subst w2
  go_wp2
  go_ret
  exact ⟨rfl, hb1⟩
set_option maxHeartbeats 800000 in
theorem times_not (s : ByteArray) (p n i : Int) (w : World) (h : s.size ≤ 24) (hn : hasB s p = false) :
    Calls Try.prog 4 #[.string s, .int .i64 p, .int .i64 n, .int .i64 i] w fun e w' => e = .returned (.bool true) ∧ Below w.heap.size w w' := by
  have H1 := fun W => hid (has_any s p W h)
  rw [hn] at H1
  clear hn
  go_enter Try.func4, Try.ntmps4
  go_wp2_with fail
  refine (prfact_any _).mono ?_
  rintro e w1 ⟨rfl, hb1⟩
  go_wp2_with fail
  refine (H1 _).out.mono ?_
  rintro e w2 ⟨rfl, hw2⟩
  subst w2
  go_wp2
  go_ret
  exact ⟨rfl, hb1⟩
set_option maxHeartbeats 1600000 in
theorem times_yes (s : ByteArray) (p : Nat) (n i : Int) (w : World) (h : s.size ≤ 24) (hp0 : 0 < p) (hp1 : p ≤ s.size) (hp : Pd (sg s) s.size p) :
    Calls Try.prog 4 #[.string s, .int .i64 p, .int .i64 n, .int .i64 i] w fun e w' => e = .returned (.bool true) ∧ Below w.heap.size w w' := by
  have H1 := fun W => hid (has_any s p W h)
  rw [hasB_iff.2 ⟨p, rfl, hp0, hp1, hp⟩] at H1
  have H2 := fun W => hid (in_yes (p : Int) 1 (s.size : Int) W (by omega) (by omega))
  have hpz : ¬ ((p : Int) = 0) := by omega
  have hdl : s.size / p ≤ 24 := Nat.le_trans (Nat.div_le_self _ _) h
  have HD : Hid (wrap64 ((s.size : Int) / (p : Int)) = ((s.size / p : Nat) : Int)) := hid (by
    rw [← Int.natCast_ediv]
    generalize s.size / p = d at hdl
    rw [← IntWalk.i64_left, IntWalk.i64_in _ (by omega)])
  have HM : Hid (∀ m : Nat, 0 < m → m ≤ s.size / p → m * p ≤ s.size) := hid fun m _ hm =>
    Nat.le_trans (Nat.mul_le_mul_right p hm) (Nat.div_mul_le_self _ _)
  have HP := hid hp
  generalize s.size / p = d at HD HM hdl
  clear hp
  go_enter Try.func4, Try.ntmps4
  go_wp2_with fail
  refine (prfact_any _).mono ?_
  rintro e w1 ⟨rfl, hb1⟩
  go_wp2_with fail
  refine (H1 _).out.mono ?_
  rintro e w2 ⟨rfl, hw2⟩
  subst w2
  go_wp2_with fail
  refine (H2 _).out.mono ?_
  rintro e w2 ⟨rfl, hw2⟩
  subst w2
  clear H1 H2
  go_wp2_with fail
  rw [HD.out]
  clear HD
  by_cases hn : 1 ≤ n ∧ n ≤ (d : Int)
  obtain ⟨m, rfl⟩ : ∃ m : Nat, n = m := ⟨n.toNat, by omega⟩
  have hm0 : 0 < m := by omega
  have hmp := HM.out m hm0 (by omega)
  have H3 := fun W => hid (in_yes (m : Int) 1 (d : Int) W hn.1 hn.2)
  have H4 := fun W => hid (has_any s ((m : Int) * (p : Int)) W h)
  rw [hasB_iff.2 ⟨m * p, by push_cast; rfl, Nat.mul_pos hm0 hp0, hmp, pd_times hp0 HP.out⟩] at H4
  have b1 : 0 ≤ (m : Int) * (p : Int) := by rw [← Int.natCast_mul]; omega
  have b2 : (m : Int) * (p : Int) ≤ 24 := by rw [← Int.natCast_mul]; omega
  clear HM hn hmp
  refine (H3 _).out.mono ?_
  rintro e w2 ⟨rfl, hw2⟩
  subst w2
  go_wp2_with fail
  refine (H4 _).out.mono ?_
  rintro e w2 ⟨rfl, hw2⟩
  subst w2
  clear H3 H4 b1 b2
  go_wp2_with fail
  rotate_left
  have H3 := fun W => hid (in_not n 1 (d : Int) W hn)
  clear HM hn
  refine (H3 _).out.mono ?_
  rintro e w2 ⟨rfl, hw2⟩
  subst w2
  clear H3
  go_wp2_with fail
  all_goals
    by_cases hi : 0 ≤ i ∧ i ≤ (s.size : Int) - (p : Int)
    · obtain ⟨j, rfl⟩ : ∃ j : Nat, i = j := ⟨i.toNat, by omega⟩
      have hj : j + p ≤ s.size := by omega
      have hc1 : ∀ W : World, Sem.run Try.prog (Instr.slice 9 (.string s) (some (.int .i64 (j : Int))) none none) W = .ok (.string (s.extract j s.size)) W := fun W =>
        run_slice_string_l W 9 s Try.underlying9 .i64 (j : Int) (by omega) (by omega)
      have hc2 : ∀ W : World, Sem.run Try.prog (Instr.slice 9 (.string s) none (some (.int .i64 ((s.size : Int) - (j : Int)))) none) W = .ok (.string (s.extract 0 (s.size - j))) W := fun W => by
        have := run_slice_string_h (P := Try.prog) W 9 s Try.underlying9 .i64 ((s.size : Int) - (j : Int)) (by omega) (by omega)
        rwa [show ((s.size : Int) - (j : Int)).toNat = s.size - j by omega] at this
      have z1 : (s.extract j s.size).size = s.size - j := by rw [ByteArray.size_extract]; omega
      have z2 : (s.extract 0 (s.size - j)).size = s.size - j := by rw [ByteArray.size_extract]; omega
      have H5 := fun W => hid (in_yes (j : Int) 0 ((s.size : Int) - (p : Int)) W hi.1 hi.2)
      have H6 := fun W => hid (has_any (s.extract j s.size) p W (by omega))
      have H7 := fun W => hid (has_any (s.extract 0 (s.size - j)) p W (by omega))
      rw [hasB_iff.2 ⟨p, rfl, hp0, by omega, pd_tail HP.out (by omega)⟩] at H6
      rw [hasB_iff.2 ⟨p, rfl, hp0, by omega, pd_head HP.out (by omega)⟩] at H7
      generalize s.extract j s.size = t1 at hc1 H6 z1
      generalize s.extract 0 (s.size - j) = t2 at hc2 H7 z2
      clear hi z1 z2
      refine (H5 _).out.mono ?_
      rintro e w2 ⟨rfl, hw2⟩
      subst w2
      go_wp2_with fail
      refine (H6 _).out.mono ?_
      rintro e w2 ⟨rfl, hw2⟩
      subst w2
      go_wp2_with fail
      refine (H7 _).out.mono ?_
      rintro e w2 ⟨rfl, hw2⟩
      subst w2
      go_wp2
      go_ret
      exact ⟨rfl, hb1⟩
    · have H5 := fun W => hid (in_not i 0 ((s.size : Int) - (p : Int)) W hi)
      clear hi
      refine (H5 _).out.mono ?_
      rintro e w2 ⟨rfl, hw2⟩
      subst w2
      go_wp2
      go_ret
      exact ⟨rfl, hb1⟩
theorem prtimes_any (s : ByteArray) (p n i : Int) (w : World) (hs : s.size ≤ maxLen) :
    Calls Try.prog 4 #[.string s, .int .i64 p, .int .i64 n, .int .i64 i] w fun e w' => e = .returned (.bool true) ∧ Below w.heap.size w w' := by
  by_cases h : 24 < s.size
  · exact times_long s p n i w h hs
  · by_cases h1 : hasB s p = true
    · obtain ⟨p, rfl, a1, a2, a3⟩ := hasB_iff.1 h1
      exact times_yes s p n i w (by omega) a1 a2 a3
    · exact times_not s p n i w (by omega) (by simpa using h1)
end Go.Proofs.Ytlklhgapnenekaa
