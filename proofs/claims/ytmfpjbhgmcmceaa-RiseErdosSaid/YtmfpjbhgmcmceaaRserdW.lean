/-
  The walk of RiseErdos: it returns true at every list of numbers. Conditions: the row's own sizes.
-/
import Derived.Test.YtmfpjbhgmcmceaaRsfact
import Derived.Test.YtmfpjbhgmcmceaaIn2
import Derived.Test.YtmfpjbhgmcmceaaOn
namespace Go.Proofs.Ytmfpjbhgmcmceaa
open Go.RowKit

set_option maxHeartbeats 1000000 in
theorem rserd_any (A : Option Addr) (n c : Nat) (l : List Int) (w : World) (hn : n ≤ maxLen) (hl : IsInts w w.heap.size A n l) :
    Calls Try.prog 3 #[.slice A n c] w fun e w' => e = .returned (.bool true) ∧ Below w.heap.size w w' := by
  have HF := hid (sfact_any w)
  have HL := hid hl
  have hln : l.length = n := hl.1
  clear hl
  rcases badR_or l with hg | ⟨k, hk⟩
  · have hn2 : n ≤ 20 := by have := hg.1; omega
    have H1 := fun W h => hid (slong_ok A n c l W h hg)
    have H2 := fun W h => hid (sfall_ok A n c l W h hg)
    have e1 := rise_le (l := l) ltB
    have e2 := rise_le (l := l) geB
    have e3 := erdos_list hg
    rw [hln] at e1 e2 e3
    clear hg hn hln
    generalize lg ltB l.reverse = N at H1 e1 e3
    generalize lg geB l.reverse = M at H2 e2 e3
    have hpr : (N : Int) * (M : Int) = ((N * M : Nat) : Int) := by push_cast; rfl
    have hpl : N * M ≤ 400 := Nat.mul_le_mul (show N ≤ 20 by omega) (show M ≤ 20 by omega)
    have HIN1 := fun W => hid (in_yes (N : Int) 0 (n : Int) W (by omega) (by omega))
    have HIN2 := fun W => hid (in_yes (M : Int) 0 (n : Int) W (by omega) (by omega))
    generalize N * M = Pr at hpr hpl e3
    go_enter Try.func3, Try.ntmps3
    go_wp2_with fail
    refine HF.out.mono ?_
    rintro e w1 ⟨rfl, hb1⟩
    have HL1 := hid (HL.out.up hb1)
    clear HF HL
    go_wp2_with fail
    refine (H1 _ HL1.out).out.mono ?_
    rintro e w2 ⟨rfl, hb2⟩
    have HL2 := hid (HL1.out.up hb2)
    have hbA := hb1.trans (hb2.mono hb1.size)
    clear H1 HL1 hb1 hb2
    go_wp2_with fail
    refine (H2 _ HL2.out).out.mono ?_
    rintro e w3 ⟨rfl, hb3⟩
    have hbB := hbA.trans (hb3.mono hbA.size)
    clear H2 HL2 hbA hb3
    go_wp2_with fail
    refine (HIN1 _).out.mono ?_
    rintro e w4 ⟨rfl, hw4⟩
    subst w4
    go_wp2_with fail
    refine (HIN2 _).out.mono ?_
    rintro e w4 ⟨rfl, hw4⟩
    subst w4
    clear HIN1 HIN2 e1 e2
    have e4 : (Pr : Int) ≥ (n : Int) := by omega
    go_wp2_with fail
    go_ret
    exact ⟨rfl, hbB⟩
  · have H1 := fun W h => hid (slong_bad A n c l k W hn h hk)
    have H2 := fun W h => hid (sfall_bad A n c l k W hn h hk)
    clear hk hn hln
    go_enter Try.func3, Try.ntmps3
    go_wp2_with fail
    refine HF.out.mono ?_
    rintro e w1 ⟨rfl, hb1⟩
    have HL1 := hid (HL.out.up hb1)
    clear HF HL
    go_wp2_with fail
    refine (H1 _ HL1.out).out.mono ?_
    rintro e w2 ⟨rfl, hb2⟩
    have HL2 := hid (HL1.out.up hb2)
    have hbA := hb1.trans (hb2.mono hb1.size)
    clear H1 HL1 hb1 hb2
    go_wp2_with fail
    refine (H2 _ HL2.out).out.mono ?_
    rintro e w3 ⟨rfl, hb3⟩
    have hbB := hbA.trans (hb3.mono hbA.size)
    clear H2 HL2 hbA hb3
    go_wp2_with fail
    go_ret
    exact ⟨rfl, hbB⟩
end Go.Proofs.Ytmfpjbhgmcmceaa
