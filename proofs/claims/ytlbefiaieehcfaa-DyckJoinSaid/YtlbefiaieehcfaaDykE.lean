/-
  Contract of dyck.ends: how many ends there are with so many brackets to open and to close. Conditions: at most eight of each; not less than -1 to open.
-/
import Derived.Test.YtlbefiaieehcfaaBase
import Derived.Test.YtlbefiaieehcfaaDykM
namespace Go.Proofs.Ytlbefiaieehcfaa
open Go.RowKit

/-- What the function says. -/
def EnC (a : Int) (c : Nat) (w : World) : Prop :=
  Calls Try.prog 17 #[.int .i64 a, .int .i64 (c : Int)] w fun e w' => e = .returned (.int .i64 (enN a c : Nat)) ∧ w' = w
set_option maxHeartbeats 1000000 in
theorem ends_none (a : Int) (c : Nat) (w : World) (h1 : -1 ≤ a) (h2 : a ≤ 8) (hc : c ≤ 8) (h : a < 0 ∨ (c : Int) < a) : EnC a c w := by
  unfold EnC
  rw [enN_no h]
  rcases h with h | h
  · obtain rfl : a = -1 := by omega
    go_enter Try.func17, Try.ntmps17
    go_wp2_with fail
    go_ret
    exact ⟨rfl, rfl⟩
  · obtain ⟨b, rfl⟩ : ∃ b : Nat, a = b := ⟨a.toNat, by omega⟩
    go_enter Try.func17, Try.ntmps17
    go_wp2_with fail
    go_ret
    exact ⟨rfl, rfl⟩
set_option maxHeartbeats 1000000 in
theorem ends_zero (w : World) : EnC 0 0 w := by
  unfold EnC
  rw [enN_zero]
  go_enter Try.func17, Try.ntmps17
  go_wp2_with fail
  go_ret
  exact ⟨rfl, rfl⟩
set_option maxHeartbeats 1000000 in
theorem ends_step (a d : Nat) (w : World) (ha : a ≤ d + 1) (hd : d + 1 ≤ 8) (ih1 : EnC ((a : Int) - 1) (d + 1) w) (ih2 : EnC (a : Int) d w) : EnC (a : Int) (d + 1) w := by
  have HS := hid (enN_succ ha)
  have hx := enN_le (a := (a : Int) - 1) hd
  have hy := enN_le (a := (a : Int)) (c := d) (by omega)
  unfold EnC at ih1 ih2 ⊢
  obtain ⟨c, hc⟩ : ∃ c, c = d + 1 := ⟨_, rfl⟩
  rw [← hc] at ih1 HS hx ha hd ⊢
  obtain ⟨x, hx0⟩ : ∃ x, enN ((a : Int) - 1) c = x := ⟨_, rfl⟩
  obtain ⟨y, hy0⟩ : ∃ y, enN (a : Int) d = y := ⟨_, rfl⟩
  rw [hx0] at ih1 HS hx
  rw [hy0] at ih2 HS hy
  generalize enN (a : Int) c = z at HS ⊢
  have H1 := hid ih1
  have H2 := hid ih2
  have e1 : (c : Int) - 1 = (d : Int) := by omega
  have e2 : ((c : Int) == 0) = false := beq_eq_false_iff_ne.2 (by omega)
  have e3 : ¬ (c : Int) < (a : Int) := by omega
  have e4 : ¬ (c : Int) = 0 := by omega
  have hc0 : 0 < c := by omega
  clear ih1 ih2 hx0 hy0 hc
  go_enter Try.func17, Try.ntmps17
  go_wp2_with fail
  refine H1.out.mono ?_
  rintro e w1 ⟨rfl, hw1⟩
  subst w1
  clear H1
  go_wp2_with fail
  refine H2.out.mono ?_
  rintro e w2 ⟨rfl, hw2⟩
  subst w2
  clear H2
  go_wp2_with fail
  go_ret
  exact ⟨ret_int (by rw [HS.out]; push_cast; rfl), rfl⟩
theorem ends_any : ∀ (n : Nat) (a : Int) (c : Nat) (w : World), -1 ≤ a → a ≤ 8 → c ≤ 8 → (a + 1).toNat + c ≤ n → EnC a c w := by
  intro n
  induction n with
  | zero => intro a c w h1 h2 h3 h4; exact ends_none a c w h1 h2 h3 (.inl (by omega))
  | succ n ih =>
    intro a c w h1 h2 h3 h4
    by_cases h : a < 0 ∨ (c : Int) < a
    · exact ends_none a c w h1 h2 h3 h
    · obtain ⟨b, rfl⟩ : ∃ b : Nat, a = b := ⟨a.toNat, by omega⟩
      rcases c with _ | d
      · obtain rfl : b = 0 := by omega
        exact ends_zero w
      · exact ends_step b d w (by omega) h3 (ih _ _ w (by omega) (by omega) h3 (by omega)) (ih _ _ w (by omega) h2 (by omega) (by omega))
theorem ends_at (a : Int) (c : Nat) (w : World) (h1 : -1 ≤ a) (h2 : a ≤ 8) (hc : c ≤ 8) :
    Calls Try.prog 17 #[.int .i64 a, .int .i64 (c : Int)] w fun e w' => e = .returned (.int .i64 (enN a c : Nat)) ∧ w' = w :=
  ends_any _ a c w h1 h2 hc (Nat.le_refl _)
end Go.Proofs.Ytlbefiaieehcfaa
