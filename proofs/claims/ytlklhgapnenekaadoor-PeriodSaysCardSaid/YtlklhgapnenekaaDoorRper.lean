/-
  Contract of letterbeckref1.Period at every number: whether it is a period. Conditions: a text of at most 2^40 bytes.
-/
import Derived.Test.YtlklhgapnenekaaDoorPeriod
import Derived.Test.YtlklhgapnenekaaDoorPer
namespace Go.Proofs.YtlklhgapnenekaaDoor
open Go.RowKit

theorem pd_per (s : ByteArray) (k : Nat) (h0 : 0 < k) (h1 : k ≤ s.size) : pdB (sg s) s.size k = perB (sg s) s.size k := by
  rw [Bool.eq_iff_iff, pdB_iff, perB_iff]
  exact ⟨fun h => ⟨h0, h1, h⟩, fun h => h.2.2⟩
theorem rper_any (s : ByteArray) (k : Int) (w : World) (hs : s.size ≤ 1099511627776) :
    Calls Tryd.prog 5 #[.string s, .int .i64 k] w fun e w' => e = .returned (.bool (hasB s k)) ∧ ∃ q, w' = w.drewN q := by
  by_cases h : 1 ≤ k ∧ k ≤ (s.size : Int)
  · obtain ⟨p, rfl⟩ : ∃ p : Nat, k = p := ⟨k.toNat, by omega⟩
    rw [hasB_nat, ← pd_per s p (by omega) (by omega)]
    exact period_any s p w hs (by omega) (by omega)
  · have HR := hid (hasB_out (s := s) (k := k) (by omega))
    have HI : ∀ W : World, Hid (Calls Tryd.prog 10 #[.int .i64 k, .int .i64 1, .int .i64 (s.size : Int)] W fun e w' => e = .returned (.bool false) ∧ w' = W) := fun W =>
      hid ((rin_any k 1 s.size W).mono fun _ _ ⟨he, hw⟩ => ⟨by rw [he]; simp [rinB]; omega, hw⟩)
    clear h
    go_enter Tryd.func5, Tryd.ntmps5
    go_wp2_with fail
    refine (HI _).out.mono ?_
    rintro e w1 ⟨rfl, hw1⟩
    subst w1
    clear HI
    go_wp2
    go_ret
    exact ⟨ret_bool HR.out.symm, 0, rfl⟩
end Go.Proofs.YtlklhgapnenekaaDoor
