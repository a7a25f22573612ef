/-
  The walk of TurnRoot: it returns true for every two texts, and leaves the old memory alone. No condition but the row's own size.
-/
import Derived.Test.YtojpapeomahegaaTnfact
import Derived.Test.YtojpapeomahegaaIn
import Derived.Laws.Concat
import Derived.Deep.QuietTactic
import Derived.BigQuiet
namespace Go.Proofs.Ytojpapeomahegaa
open Go.RowKit

theorem void_no {u : ByteArray} (h : 0 < u.size) : u.toList.isEmpty = false := by
  rw [ByteArray.toList_eq, List.isEmpty_eq_false_iff, ne_eq, ← List.length_eq_zero_iff, Array.length_toList]
  exact Nat.ne_of_gt h
theorem void_yes {u : ByteArray} (h : u.size = 0) : u.toList.isEmpty = true := by
  rw [ByteArray.toList_eq, List.isEmpty_iff, ← List.length_eq_zero_iff, Array.length_toList]
  exact h

set_option maxHeartbeats 800000 in
theorem troot_long (a b : ByteArray) (w : World) (h : 24 < a.size ∨ 24 < b.size) (ha : a.size ≤ maxLen) (hb : b.size ≤ maxLen) :
    Calls Try.prog 4 #[.string a, .string b] w fun e w' => e = .returned (.bool true) ∧ Below w.heap.size w w' := by
  by_cases h1 : 24 < a.size
  · have H1 := fun w => hid (root_long a w h1 ha)
    by_cases h2 : 24 < b.size
    · have H2 := fun w => hid (root_long b w h2 hb)
      unfold maxLen at ha hb
      clear h
      go_enter Try.func4, Try.ntmps4
      go_wp2_with fail
      refine (tnfact_any _).mono ?_
      rintro e w1 ⟨rfl, hb1⟩
      go_wp2_with fail
      refine (H1 _).out.mono ?_
      rintro e w2 ⟨rfl, hw2⟩
      subst w2
      go_wp2_with fail
      refine (H2 _).out.mono ?_
      rintro e w2 ⟨rfl, hw2⟩
      subst w2
      go_wp2
      go_ret
      exact ⟨rfl, hb1⟩
    · have H2 := fun w => hid (root_any b w (by omega))
      unfold maxLen at ha hb
      clear h
      go_enter Try.func4, Try.ntmps4
      go_wp2_with fail
      refine (tnfact_any _).mono ?_
      rintro e w1 ⟨rfl, hb1⟩
      go_wp2_with fail
      refine (H1 _).out.mono ?_
      rintro e w2 ⟨rfl, hw2⟩
      subst w2
      go_wp2_with fail
      refine (H2 _).out.mono ?_
      rintro e w2 ⟨r, rfl, hr, hc2⟩
      have hb2 := Below.on hb1 hc2 (Nat.le_refl _)
      clear hr
      go_wp2
      go_ret
      exact ⟨rfl, hb2⟩
  · have h2 : 24 < b.size := by omega
    have H1 := fun w => hid (root_any a w (by omega))
    have H2 := fun w => hid (root_long b w h2 hb)
    unfold maxLen at ha hb
    clear h
    go_enter Try.func4, Try.ntmps4
    go_wp2_with fail
    refine (tnfact_any _).mono ?_
    rintro e w1 ⟨rfl, hb1⟩
    go_wp2_with fail
    refine (H1 _).out.mono ?_
    rintro e w2 ⟨r, rfl, hr, hc2⟩
    have hb2 := Below.on hb1 hc2 (Nat.le_refl _)
    clear hr
    go_wp2_with fail
    refine (H2 _).out.mono ?_
    rintro e w3 ⟨rfl, hw3⟩
    subst w3
    go_wp2
    go_ret
    exact ⟨rfl, hb2⟩

set_option maxHeartbeats 1600000 in
theorem troot_any (a b : ByteArray) (w : World) (ha : a.size ≤ 24) (hb : b.size ≤ 24) :
    Calls Try.prog 4 #[.string a, .string b] w fun e w' => e = .returned (.bool true) ∧ Below w.heap.size w w' := by
  have H1 := fun w => hid (root_any a w ha)
  have H2 := fun w => hid (root_any b w hb)
  go_enter Try.func4, Try.ntmps4
  go_wp2_with fail
  refine (tnfact_any _).mono ?_
  rintro e w1 ⟨rfl, hb1⟩
  go_wp2_with fail
  refine (H1 _).out.mono ?_
  rintro e w2 ⟨r, rfl, hr, hc2⟩
  have hb2 := Below.on hb1 hc2 (Nat.le_refl _)
  have hrs := rt_le (cy_pr a) hr
  have HR := hid hr
  clear H1 hr hc2 hb1
  go_wp2_with fail
  refine (H2 _).out.mono ?_
  rintro e w3 ⟨q, rfl, hq, hc3⟩
  have hb3 := Below.on hb2 hc3 (Nat.le_refl _)
  have hqs := rt_le (cy_pr b) hq
  have HQ := hid hq
  clear H2 hq hc3 hb2
  have H1 := fun W => hid (in_yes (r : Int) 0 (a.size : Int) W (by omega) (by omega))
  have H2 := fun W => hid (in_yes (q : Int) 0 (b.size : Int) W (by omega) (by omega))
  go_wp2_with fail
  refine (H1 _).out.mono ?_
  rintro e w4 ⟨rfl, hw4⟩
  subst w4
  go_wp2_with fail
  refine (H2 _).out.mono ?_
  rintro e w4 ⟨rfl, hw4⟩
  subst w4
  clear H1 H2
  by_cases ha0 : a.size = 0
  · have v1 := void_yes ha0
    obtain rfl : r = 0 := by omega
    by_cases hb0 : b.size = 0
    · have v2 := void_yes hb0
      obtain rfl : q = 0 := by omega
      clear HR HQ
      go_wp2
      go_ret
      exact ⟨rfl, hb3⟩
    · have v2 := void_no (show 0 < b.size by omega)
      have q0 := rt_pos (show 0 < b.size by omega) HQ.out
      have qz : ((q : Int) == 0) = false := by simp; omega
      clear HR HQ
      go_wp2
      go_ret
      exact ⟨rfl, hb3⟩
  · have v1 := void_no (show 0 < a.size by omega)
    have r0 := rt_pos (show 0 < a.size by omega) HR.out
    have rz : ((r : Int) == 0) = false := by simp; omega
    by_cases hb0 : b.size = 0
    · have v2 := void_yes hb0
      obtain rfl : q = 0 := by omega
      clear HR HQ
      go_wp2
      go_ret
      exact ⟨rfl, hb3⟩
    · have v2 := void_no (show 0 < b.size by omega)
      have q0 := rt_pos (show 0 < b.size by omega) HQ.out
      have qz : ((q : Int) == 0) = false := by simp; omega
      have HI := hid (commute_iff (by omega) (by omega) HR.out HQ.out)
      have hc1 : ∀ W : World, Sem.run Try.prog (Instr.slice 9 (.string a) none (some (.int .i64 (r : Int))) none) W = .ok (.string (a.extract 0 r)) W := fun W =>
        run_slice_string_h W 9 a Try.underlying9 .i64 (r : Int) (by omega) (by omega)
      have hc2 : ∀ W : World, Sem.run Try.prog (Instr.slice 9 (.string b) none (some (.int .i64 (q : Int))) none) W = .ok (.string (b.extract 0 q)) W := fun W =>
        run_slice_string_h W 9 b Try.underlying9 .i64 (q : Int) (by omega) (by omega)
      have hadd1 := fun W => run_string_add_sum (P := Try.prog) W a b (by omega)
      have hadd2 := fun W => run_string_add_sum (P := Try.prog) W b a (by omega)
      generalize a ++ b = x at HI hadd1
      generalize b ++ a = y at HI hadd2
      generalize a.extract 0 r = u at HI hc1
      generalize b.extract 0 q = v at HI hc2
      clear HR HQ ha0 hb0
      by_cases he : x = y
      · have e1 := same_yes he
        have e2 := same_yes (HI.out.1 he)
        clear he HI
        go_wp2
        go_quiet (fail)
        go_wp2
        go_ret
        exact ⟨rfl, below_drewN hb3 _⟩
      · have e1 := same_no he
        have e2 := same_no (fun e => he (HI.out.2 e))
        clear he HI
        go_wp2
        go_quiet (fail)
        go_wp2
        go_ret
        exact ⟨rfl, below_drewN hb3 _⟩
theorem tnroot_any (a b : ByteArray) (w : World) (ha : a.size ≤ maxLen) (hb : b.size ≤ maxLen) :
    Calls Try.prog 4 #[.string a, .string b] w fun e w' => e = .returned (.bool true) ∧ Below w.heap.size w w' := by
  by_cases h : 24 < a.size ∨ 24 < b.size
  · exact troot_long a b w h ha hb
  · exact troot_any a b w (by omega) (by omega)
end Go.Proofs.Ytojpapeomahegaa
