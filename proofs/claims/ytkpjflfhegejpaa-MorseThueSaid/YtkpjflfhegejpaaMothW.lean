/-
  The walk of MorseThue: it returns true at all numbers. No condition.
-/
import Derived.Test.YtkpjflfhegejpaaMofact
import Derived.Test.YtkpjflfhegejpaaIn3
namespace Go.Proofs.Ytkpjflfhegejpaa
open Go.RowKit

theorem moth_bad (x i j : Int) (w : World) (hx : ¬ (0 ≤ x ∧ x ≤ 200)) :
    Calls Try.prog 3 #[.int .i64 x, .int .i64 i, .int .i64 j] w fun e w' => e = .returned (.bool true) ∧ Below w.heap.size w w' := by
  have HF := hid (mofact_any w)
  have H1 := fun W => hid (wword_bad x W hx)
  clear hx
  go_enter Try.func3, Try.ntmps3
  go_wp2_with fail
  refine HF.out.mono ?_
  rintro e w1 ⟨rfl, hb1⟩
  go_wp2_with fail
  refine (H1 _).out.mono ?_
  rintro e w2 ⟨rfl, hb2⟩
  have hbA := hb1.trans (hb2.mono hb1.size)
  clear H1 HF hb1 hb2
  go_wp2_with fail
  go_ret
  exact ⟨by first | rfl | simp, hbA⟩
set_option maxHeartbeats 2000000 in
theorem moth_ok (n : Nat) (i j : Int) (w : World) (hn : n ≤ 200) :
    Calls Try.prog 3 #[.int .i64 (n : Int), .int .i64 i, .int .i64 j] w fun e w' => e = .returned (.bool true) ∧ Below w.heap.size w w' := by
  have HF := hid (mofact_any w)
  have H1 := fun W => hid (wword_any n W hn)
  have HO := fun a b W (h1 : a ≤ b) (h2 : b ≤ n) => hid (over_none n a b W hn h1 h2)
  have hsz := txt_mw_size n
  generalize txt (mw n) = s at H1 HO hsz
  have hcut : ∀ (a b : Nat) (W : World), a ≤ b → b ≤ n → Sem.run Try.prog (Instr.slice 9 (.string s) (some (.int .i64 (a : Int))) (some (.int .i64 (b : Int))) none) W = .ok (.string (s.extract a b)) W := fun a b W h1 h2 =>
    run_slice_string W 9 s .i64 .i64 (a : Int) (b : Int) Try.underlying9 (by omega) (by omega) (by omega)
  have HC := hid hcut
  clear hcut
  have hs0 : (s.size : Int) = (n : Int) := by omega
  go_enter Try.func3, Try.ntmps3
  go_wp2_with fail
  refine HF.out.mono ?_
  rintro e w1 ⟨rfl, hb1⟩
  go_wp2_with fail
  refine (H1 _).out.mono ?_
  rintro e w2 ⟨rfl, hb2⟩
  have hbA := hb1.trans (hb2.mono hb1.size)
  clear H1 HF hb1 hb2 hsz
  by_cases hi : 0 ≤ i ∧ i ≤ (n : Int)
  · have HI := fun W => hid (in_yes i 0 (n : Int) W hi.1 hi.2)
    by_cases hj : i ≤ j ∧ j ≤ (n : Int)
    · have HJ := fun W => hid (in_yes j i (n : Int) W hj.1 hj.2)
      obtain ⟨a, rfl⟩ : ∃ a : Nat, i = (a : Int) := ⟨i.toNat, by omega⟩
      obtain ⟨b, rfl⟩ : ∃ b : Nat, j = (b : Int) := ⟨j.toNat, by omega⟩
      have hc := fun W => HC.out a b W (by omega) (by omega)
      have HO2 := fun W => HO a b W (by omega) (by omega)
      clear HO HC
      generalize s.extract a b = t at hc HO2
      go_wp2_with fail
      refine (HI _).out.mono ?_
      rintro e w3 ⟨rfl, hw3⟩
      subst w3
      go_wp2_with fail
      refine (HJ _).out.mono ?_
      rintro e w3 ⟨rfl, hw3⟩
      subst w3
      go_wp2_with fail
      refine (HO2 _).out.mono ?_
      rintro e w3 ⟨rfl, hb3⟩
      go_wp2_with fail
      go_ret
      exact ⟨by first | rfl | simp, hbA.trans (hb3.mono hbA.size)⟩
    · have HJ := fun W => hid (in_not j i (n : Int) W hj)
      have hc := fun W => HC.out 0 n W (by omega) (Nat.le_refl _)
      have HO2 := fun W => HO 0 n W (by omega) (Nat.le_refl _)
      clear HO HC hj
      generalize s.extract 0 n = t at hc HO2
      simp only [Int.natCast_zero] at hc
      go_wp2_with fail
      refine (HI _).out.mono ?_
      rintro e w3 ⟨rfl, hw3⟩
      subst w3
      go_wp2_with fail
      refine (HJ _).out.mono ?_
      rintro e w3 ⟨rfl, hw3⟩
      subst w3
      go_wp2_with fail
      refine (HO2 _).out.mono ?_
      rintro e w3 ⟨rfl, hb3⟩
      go_wp2_with fail
      go_ret
      exact ⟨by first | rfl | simp, hbA.trans (hb3.mono hbA.size)⟩
  · have HI := fun W => hid (in_not i 0 (n : Int) W hi)
    have hc := fun W => HC.out 0 n W (by omega) (Nat.le_refl _)
    have HO2 := fun W => HO 0 n W (by omega) (Nat.le_refl _)
    clear HO HC hi
    generalize s.extract 0 n = t at hc HO2
    simp only [Int.natCast_zero] at hc
    go_wp2_with fail
    refine (HI _).out.mono ?_
    rintro e w3 ⟨rfl, hw3⟩
    subst w3
    go_wp2_with fail
    refine (HO2 _).out.mono ?_
    rintro e w3 ⟨rfl, hb3⟩
    go_wp2_with fail
    go_ret
    exact ⟨by first | rfl | simp, hbA.trans (hb3.mono hbA.size)⟩
theorem moth_any (x i j : Int) (w : World) :
    Calls Try.prog 3 #[.int .i64 x, .int .i64 i, .int .i64 j] w fun e w' => e = .returned (.bool true) ∧ Below w.heap.size w w' := by
  by_cases hx : 0 ≤ x ∧ x ≤ 200
  · obtain ⟨n, rfl⟩ : ∃ n : Nat, x = (n : Int) := ⟨x.toNat, by omega⟩
    exact moth_ok n i j w (by omega)
  · exact moth_bad x i j w hx
end Go.Proofs.Ytkpjflfhegejpaa
