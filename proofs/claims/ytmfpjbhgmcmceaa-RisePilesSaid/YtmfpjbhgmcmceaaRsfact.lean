/-
  The closed fact of the laws on rising lists: riseFact returns true. No condition.
-/
import Derived.Test.YtmfpjbhgmcmceaaRise
import Derived.Test.YtmfpjbhgmcmceaaInts
namespace Go.Proofs.Ytmfpjbhgmcmceaa
open Go.RowKit

theorem good_312 : GoodR [3, 1, 2] := ⟨by decide, by decide⟩
theorem lit_312 (w : World) : IsInts (w.alloc (.cells #[.int .i64 3, .int .i64 1, .int .i64 2] 3)) (w.alloc (.cells #[.int .i64 3, .int .i64 1, .int .i64 2] 3)).heap.size (some ⟨w.heap.size, 0, none⟩) 3 [3, 1, 2] :=
  (IsInts.lit w [3, 1, 2] #[.int .i64 3, .int .i64 1, .int .i64 2] 3 rfl).keep (by simp) fun _ _ _ => rfl
theorem rfact_long (w : World) : Calls Try.prog 8 #[.slice (some ⟨w.heap.size, 0, none⟩) 3 3] (w.alloc (.cells #[.int .i64 3, .int .i64 1, .int .i64 2] 3)) fun e w' =>
    e = .returned (.tuple #[.int .i64 2, .nilIface]) ∧ Below w.heap.size w w' := by
  have hb : Below w.heap.size w (w.alloc (.cells #[.int .i64 3, .int .i64 1, .int .i64 2] 3)) := (Below.refl _ _).alloc (Nat.le_refl _) _
  exact (slong_ok _ 3 3 [3, 1, 2] _ (lit_312 w) good_312).mono fun e w' ⟨he, hb'⟩ => ⟨by rw [he, lg_312.1]; rfl, hb.trans (hb'.mono hb.size)⟩
theorem rfact_fall (w : World) : Calls Try.prog 9 #[.slice (some ⟨w.heap.size, 0, none⟩) 3 3] (w.alloc (.cells #[.int .i64 3, .int .i64 1, .int .i64 2] 3)) fun e w' =>
    e = .returned (.tuple #[.int .i64 2, .nilIface]) ∧ Below w.heap.size w w' := by
  have hb : Below w.heap.size w (w.alloc (.cells #[.int .i64 3, .int .i64 1, .int .i64 2] 3)) := (Below.refl _ _).alloc (Nat.le_refl _) _
  exact (sfall_ok _ 3 3 [3, 1, 2] _ (lit_312 w) good_312).mono fun e w' ⟨he, hb'⟩ => ⟨by rw [he, lg_312.2.1]; rfl, hb.trans (hb'.mono hb.size)⟩
theorem rfact_shape (w : World) : Calls Try.prog 12 #[.slice (some ⟨w.heap.size, 0, none⟩) 3 3] (w.alloc (.cells #[.int .i64 3, .int .i64 1, .int .i64 2] 3)) fun e w' =>
    ∃ A' c', e = .returned (.tuple #[.slice A' 2 c', .nilIface]) ∧ IsInts w' w'.heap.size A' 2 [2, 1] ∧ Below w.heap.size w w' := by
  have hb : Below w.heap.size w (w.alloc (.cells #[.int .i64 3, .int .i64 1, .int .i64 2] 3)) := (Below.refl _ _).alloc (Nat.le_refl _) _
  exact (sshape_ok _ 3 3 [3, 1, 2] _ (lit_312 w) good_312).mono fun e w' ⟨A', c', he, hI, hb'⟩ => ⟨A', c', by rw [he, lg_312.2.2]; rfl, by rw [lg_312.2.2] at hI; exact hI, hb.trans (hb'.mono hb.size)⟩
set_option maxRecDepth 100000 in
set_option maxHeartbeats 1000000 in
theorem sfact_any (w : World) : Calls Try.prog 7 #[] w fun e w' => e = .returned (.bool true) ∧ Below w.heap.size w w' := by
  have H1 := hid (rfact_long w)
  go_enter Try.func7, Try.ntmps7
  go_wp2_with fail
  refine H1.out.mono ?_
  rintro e w1 ⟨rfl, hb1⟩
  clear H1
  go_wp2_with fail
  refine (rfact_fall w1).mono ?_
  rintro e w2 ⟨rfl, hb2⟩
  have hb12 := hb1.trans (hb2.mono hb1.size)
  clear hb1 hb2
  go_wp2_with fail
  refine (rfact_shape w2).mono ?_
  rintro e w3 ⟨A', c', rfl, hI3, hb3⟩
  have hb13 := hb12.trans (hb3.mono hb12.size)
  have HI3 := hid hI3
  clear hb12 hb3 hI3
  have HB : Hid (∀ o, Below w3.heap.size w3 (w3.alloc o)) := hid fun o => (Below.refl _ _).alloc (Nat.le_refl _) _
  have HC := hid (ints_yes A' (some ⟨w3.heap.size, 0, none⟩) 2 2 c' 2 [2, 1] _ _ _ (by omega) (by omega) (HI3.out.below (HB.out (.cells #[.int .i64 2, .int .i64 1] 3))) (IsInts.lit w3 [2, 1] #[.int .i64 2, .int .i64 1] 3 rfl))
  clear HI3
  go_wp2_with fail
  refine HC.out.mono ?_
  rintro e w4 ⟨rfl, q, hw4⟩
  have hb4 : Below w3.heap.size w3 w4 := by rw [hw4]; exact below_drewN (HB.out _) q
  have hb14 := hb13.trans (hb4.mono hb13.size)
  clear hw4 HC HB hb4 hb13
  go_wp2_with fail
  go_ret
  exact ⟨rfl, hb14⟩
end Go.Proofs.Ytmfpjbhgmcmceaa
