/-
  The walk of DyckCatalan: it returns true at every number. No condition.
-/
import Derived.Test.YtlbefiaieehcfaaDkfact
import Derived.Test.YtlbefiaieehcfaaIn3
namespace Go.Proofs.Ytlbefiaieehcfaa
open Go.RowKit

theorem dkcat_bad (x : Int) (w : World) (hx : ¬ (0 ≤ x ∧ x ≤ 8)) :
    Calls Try.prog 3 #[.int .i64 x] w fun e w' => e = .returned (.bool true) ∧ Below w.heap.size w w' := by
  have HF := hid (dkfact_any w)
  have H1 := fun W => hid (dmany_bad x W hx)
  clear hx
  go_enter Try.func3, Try.ntmps3
  go_wp2_with fail
  refine HF.out.mono ?_
  rintro e w1 ⟨rfl, hb1⟩
  go_wp2_with fail
  refine (H1 _).out.mono ?_
  rintro e w2 ⟨rfl, hb2⟩
  have hbA := hb1.trans (hb2.mono hb1.size)
  clear HF H1 hb1 hb2
  go_wp2_with fail
  go_ret
  exact ⟨rfl, hbA⟩
set_option maxHeartbeats 4000000 in
set_option maxRecDepth 100000 in
theorem dkcat_ok (n : Nat) (w : World) (hn : n ≤ 8) :
    Calls Try.prog 3 #[.int .i64 (n : Int)] w fun e w' => e = .returned (.bool true) ∧ Below w.heap.size w w' := by
  have HF := hid (dkfact_any w)
  have H1 := fun k W (h : k ≤ 8) => hid (dmany_cat k W h)
  go_enter Try.func3, Try.ntmps3
  go_wp2_with fail
  refine HF.out.mono ?_
  rintro e w1 ⟨rfl, hb1⟩
  go_wp2_with fail
  refine (H1 n _ hn).out.mono ?_
  rintro e w2 ⟨rfl, hb2⟩
  have hbA := hb1.trans (hb2.mono hb1.size)
  clear HF hb1 hb2
  by_cases h0 : n = 0
  · have hn0 : ((n : Int) == 0) = true := beq_iff_eq.2 (by omega)
    have hc : ((cat n : Int) == 1) = true := by rw [h0]; rfl
    generalize cat n = X at hc ⊢
    go_wp2_with fail
    go_ret
    exact ⟨rfl, hbA⟩
  · have hn0 : ((n : Int) == 0) = false := beq_eq_false_iff_ne.2 (by omega)
    have hall := hid (cats_all n hn (by omega))
    obtain ⟨C, hC⟩ : ∃ C, C = cat n := ⟨_, rfl⟩
    rw [← hC] at hall ⊢
    clear hC
    go_wp2_with fail
    go_loopw [6, 7] (fun v x wr => ∃ i : Nat, i ≤ n ∧ x = .int .i64 i ∧ v = .int .i64 (cats n i : Nat) ∧ Below w.heap.size w wr) (fun _ x _ => n - (intOf x).toNat)
    case atStart => exact ⟨0, by omega, rfl, rfl, hbA⟩
    case round =>
      clear hbA
      obtain ⟨i, hin, rfl, rfl, hb⟩ := hrel
      by_cases hlt : i < n
      · have hli : (i : Int) < (n : Int) := by omega
        obtain ⟨J, hJ⟩ : ∃ J, J = n - 1 - i := ⟨_, rfl⟩
        have hs := cats_succ n i
        rw [← hJ] at hs
        have l1 := cat_le i (by omega)
        have l2 := cat_le J (by omega)
        have l3 := cats_le n hn i hin
        have hM : cat i * cat J ≤ 1430 * 1430 := Nat.mul_le_mul l1 l2
        have e3 : (cat i : Int) * (cat J : Int) = ((cat i * cat J : Nat) : Int) := by rw [← Int.natCast_mul]
        generalize cat i * cat J = M at hs hM e3
        have e4 : (cats n i : Int) + (M : Int) = ((cats n (i + 1) : Nat) : Int) := by rw [hs]; push_cast; rfl
        have HA := H1 i
        have HB := H1 J
        have hJ8 : J ≤ 8 := by omega
        have hi8 : i ≤ 8 := by omega
        have eJ : (n : Int) - 1 - (i : Int) = (J : Int) := by omega
        have l4 := cats_le n hn (i + 1) (by omega)
        have HI1 := fun W => hid (in_yes (cat i : Int) 0 2000 W (by omega) (by omega))
        have HI2 := fun W => hid (in_yes (cat J : Int) 0 2000 W (by omega) (by omega))
        obtain ⟨Z1, hZ1⟩ : ∃ z, z = cats n (i + 1) := ⟨_, rfl⟩
        rw [← hZ1] at e4 l4
        have HZ1 := hid hZ1
        have HJ := hid hJ
        clear hs hJ hZ1 H1
        generalize cat i = X at HA HI1 e3 l1
        generalize cat J = Y at HB HI2 e3 l2
        generalize cats n i = Z at e4 l3 ⊢
        have eZ : Hid ((Z : Int) + (M : Int) = (Z1 : Int)) := hid e4
        clear e4
        go_wp2_with fail
        refine (HA _ hi8).out.mono ?_
        rintro e w3 ⟨rfl, hb3⟩
        have hbB := hb.trans (hb3.mono hb.size)
        clear HA hb hb3
        go_wp2_with fail
        refine (HB _ hJ8).out.mono ?_
        rintro e w4 ⟨rfl, hb4⟩
        have hbC := hbB.trans (hb4.mono hbB.size)
        clear HB hbB hb4
        go_wp2_with fail
        refine (HI1 _).out.mono ?_
        rintro e w5 ⟨rfl, hw5⟩
        subst w5
        go_wp2_with fail
        refine (HI2 _).out.mono ?_
        rintro e w5 ⟨rfl, hw5⟩
        subst w5
        clear HI1 HI2
        go_wp2_with fail
        go_roundw
        case rel => exact ⟨i + 1, by omega, by go_num, by first | (rw [← HZ1.out, ← eZ.out]) | (rw [← HZ1.out, ← eZ.out]; rfl), hbC⟩
        case measure => simp [intOf]; omega
      · obtain rfl : i = n := by omega
        rw [hall.out]
        have hni : ¬ (i : Int) < (i : Int) := by omega
        have hq : ((C : Int) == (C : Int)) = true := beq_iff_eq.2 rfl
        go_wp2_with fail
        go_ret
        exact ⟨by first | rfl | simp, hb⟩
theorem dkcat_any (x : Int) (w : World) :
    Calls Try.prog 3 #[.int .i64 x] w fun e w' => e = .returned (.bool true) ∧ Below w.heap.size w w' := by
  by_cases hx : 0 ≤ x ∧ x ≤ 8
  · obtain ⟨n, rfl⟩ : ∃ n : Nat, x = (n : Int) := ⟨x.toNat, by omega⟩
    exact dkcat_ok n w (by omega)
  · exact dkcat_bad x w hx
end Go.Proofs.Ytlbefiaieehcfaa
