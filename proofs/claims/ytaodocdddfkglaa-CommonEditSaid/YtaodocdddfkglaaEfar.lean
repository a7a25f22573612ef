/-
  Contracts of edit.tooLong and edit.Far: the distance of two texts, or the error of a text that is too long. Conditions: none but the sizes that a row itself sets.
-/
import Derived.Test.YtaodocdddfkglaaEtabl
namespace Go.Proofs.Ytaodocdddfkglaa
open Go.RowKit

theorem long_two (a b : ByteArray) (w : World) (h : 24 < a.size ∨ 24 < b.size) (ha : a.size ≤ maxLen) (hb : b.size ≤ maxLen) :
    Calls Try.prog 21 #[.string a, .string b] w fun e w' => e = .returned (.bool true) ∧ w' = w := by
  unfold maxLen at ha hb
  go_enter Try.func21, Try.ntmps21
  go_wp2
  all_goals go_ret
  all_goals first
    | exact ⟨rfl, rfl⟩
    | exact ⟨ret_bool (show decide (24 < (b.size : Int)) = true by simp; omega), rfl⟩
    | exact ⟨ret_bool (show (decide (24 < (a.size : Int)) || decide (24 < (b.size : Int))) = true by simp; omega), rfl⟩
theorem short_two (a b : ByteArray) (w : World) (ha : a.size ≤ 24) (hb : b.size ≤ 24) :
    Calls Try.prog 21 #[.string a, .string b] w fun e w' => e = .returned (.bool false) ∧ w' = w := by
  go_enter Try.func21, Try.ntmps21
  go_wp2
  go_ret
  exact ⟨ret_bool (show (decide (24 < (a.size : Int)) || decide (24 < (b.size : Int))) = false by simp; omega), rfl⟩

set_option maxRecDepth 100000 in
set_option maxHeartbeats 2000000 in
theorem efar_any (a b : ByteArray) (w : World) (ha : a.size ≤ 24) (hb : b.size ≤ 24) :
    Calls Try.prog 12 #[.string a, .string b] w fun e w' => e = .returned (.tuple #[.int .i64 (far (bs a) (bs b) : Nat), .nilIface]) ∧ Below w.heap.size w w' := by
  have H1 := hid (short_two a b w ha hb)
  have H2 := hid (dist_any a b w ha hb)
  have hm : (a.size + 1) * (b.size + 1) ≤ 625 := Nat.mul_le_mul (show a.size + 1 ≤ 25 by omega) (show b.size + 1 ≤ 25 by omega)
  have hm0 : 0 < (a.size + 1) * (b.size + 1) := Nat.mul_pos (by omega) (by omega)
  have H3 := fun V U T W (h : FarS W V U T ((a.size + 1) * (b.size + 1)) (b.size + 1) (knF a b 0)) => hid (far_fn V U T _ (b.size + 1) 0 0 _ W h (by omega) (by omega))
  have h0 : knF a b 0 (0 * (b.size + 1) + 0) = (far (bs a) (bs b) : Nat) := by
    rw [knF_at (Nat.zero_le _) (Nat.zero_le _), tb_zero]
  rw [h0] at H3
  clear h0 hm hm0 ha hb
  go_enter Try.func12, Try.ntmps12
  go_wp2_with fail
  refine H1.out.mono ?_
  rintro e w1 ⟨rfl, hw1⟩
  subst w1
  go_wp2_with fail
  refine H2.out.mono ?_
  rintro e w1 ⟨V, U, T, rfl, hF, _, _, _, hb1⟩
  have HC := H3 V U T w1 hF
  clear H3 H2 H1 hF
  go_wp2_with fail
  refine HC.out.mono ?_
  rintro e w2 ⟨rfl, hw2⟩
  subst w2
  go_wp2_with fail
  go_ret2
  exact ⟨rfl, hb1⟩
theorem efar_full (a b : ByteArray) (w : World) (h : 24 < a.size ∨ 24 < b.size) (ha : a.size ≤ maxLen) (hb : b.size ≤ maxLen) :
    Calls Try.prog 12 #[.string a, .string b] w fun e w' => e = .returned (.tuple #[.int .i64 0, .iface 47 (.int .i64 4)]) ∧ Below w.heap.size w w' := by
  have H1 := hid (long_two a b w h ha hb)
  clear h
  go_enter Try.func12, Try.ntmps12
  go_wp2_with fail
  refine H1.out.mono ?_
  rintro e w1 ⟨rfl, hw1⟩
  subst w1
  go_wp2_with fail
  go_ret2
  exact ⟨rfl, Below.refl _ _⟩
end Go.Proofs.Ytaodocdddfkglaa
