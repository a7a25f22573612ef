/-
  The closed fact of the laws on pieces: lempelFact returns true. No condition.
-/
import Derived.Test.YtgamegbmikbncaaLwrite
import Derived.Test.YtgamegbmikbncaaLread
import Derived.Test.YtgamegbmikbncaaPsame
namespace Go.Proofs.Ytgamegbmikbncaa
open Go.RowKit

theorem wr_lit : Wr [[]] [97, 97, 98] [(0, 97), (1, 98)] := by
  refine Wr.step (k := 0) (by decide) ⟨by decide, List.nil_prefix, fun j hj _ => ?_, fun j hj => by omega⟩ ?_
  · obtain rfl : j = 0 := by simpa using hj
    exact Nat.le_refl _
  · refine Wr.step (k := 1) (by decide) ⟨by decide, List.prefix_refl _, fun j hj _ => ?_, fun j hj _ => ?_⟩ .fin
    · have : j < 2 := hj
      match j, this with
      | 0, _ => decide
      | 1, _ => decide
    · obtain rfl : j = 0 := by omega
      decide
theorem fine_lit : FineP [(0, 120), (1, 121)] := ⟨by decide, fun j hj => by
  have : j < 2 := hj
  match j, this with
  | 0, _ => exact ⟨by decide, by decide⟩
  | 1, _ => exact ⟨by decide, by decide⟩⟩
theorem lread_fact (w : World) : Calls Try.prog 8 #[.slice (some ⟨w.heap.size, 0, none⟩) 2 2] (w.alloc (.cells #[.int .i64 0, .int .u8 120, .int .i64 1, .int .u8 121] 33)) fun e w' =>
    e = .returned (.tuple #[.string ⟨#[120, 120, 121]⟩, .nilIface]) ∧ Below w.heap.size w w' := by
  have hb : Below w.heap.size w (w.alloc (.cells #[.int .i64 0, .int .u8 120, .int .i64 1, .int .u8 121] 33)) := (Below.refl _ _).alloc (Nat.le_refl _) _
  have hI := (IsPcs.lit w [(0, 120), (1, 121)] #[.int .i64 0, .int .u8 120, .int .i64 1, .int .u8 121] 33 rfl (by unfold maxLen; simp)).keep (B' := (w.alloc (.cells #[.int .i64 0, .int .u8 120, .int .i64 1, .int .u8 121] 33)).heap.size) (by simp) fun _ _ _ => rfl
  exact (lread_ok _ 2 2 [(0, 120), (1, 121)] _ (by unfold maxLen; omega) hI fine_lit).mono fun e w' ⟨he, hb'⟩ => ⟨he, hb.trans (hb'.mono hb.size)⟩

set_option maxHeartbeats 1000000 in
theorem lfact_any (w : World) : Calls Try.prog 6 #[] w fun e w' => e = .returned (.bool true) ∧ Below w.heap.size w w' := by
  have H1 := hid (lwrite_any ⟨#[97, 97, 98]⟩ w (by decide))
  go_enter Try.func6, Try.ntmps6
  go_wp2_with fail
  refine H1.out.mono ?_
  rintro e w1 ⟨A1, c1, ps, rfl, hw1, hI1, hb1⟩
  obtain rfl : ps = [(0, 97), (1, 98)] := wr_one hw1 wr_lit
  have HI1 := hid hI1
  clear hI1 H1 hw1
  change Hid (IsPcs w1 w1.heap.size A1 2 [(0, 97), (1, 98)]) at HI1
  go_wp2_with fail
  refine (lread_fact w1).mono ?_
  rintro e w2 ⟨rfl, hb2⟩
  have HI3 := hid (HI1.out.on hb2)
  have hb12 := hb1.trans (hb2.mono hb1.size)
  clear HI1 hb1 hb2
  have HB : Hid (∀ o, Below w2.heap.size w2 (w2.alloc o)) := hid fun o => (Below.refl _ _).alloc (Nat.le_refl _) _
  have HC := hid (pieces_yes A1 (some ⟨w2.heap.size, 0, none⟩) 2 c1 2 [(0, 97), (1, 98)] _ _ _ (by omega) (HI3.out.below (HB.out _)) (IsPcs.lit w2 [(0, 97), (1, 98)] #[.int .i64 0, .int .u8 97, .int .i64 1, .int .u8 98] 33 rfl (by unfold maxLen; simp)))
  go_wp2_with fail
  refine HC.out.mono ?_
  rintro e w3 ⟨rfl, q, hw3⟩
  have hb3 : Below w2.heap.size w2 w3 := by rw [hw3]; exact below_drewN (HB.out _) q
  have hb13 := hb12.trans (hb3.mono hb12.size)
  clear hw3 HC HB hb3 hb12
  go_wp2_with fail
  go_ret
  exact ⟨rfl, hb13⟩
end Go.Proofs.Ytgamegbmikbncaa
