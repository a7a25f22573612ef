/-
  The closed fact of the laws on moving to the front: frontFact returns true. No condition.
-/
import Derived.Test.YtceipfmdgpnagaaFthere
import Derived.Test.YtceipfmdgpnagaaInts
namespace Go.Proofs.Ytceipfmdgpnagaa
open Go.RowKit

theorem fthere_fact (w : World) : Calls Try.prog 7 #[.string ⟨#[98, 97, 98]⟩] w fun e w' => ∃ A c, e = .returned (.tuple #[.slice A 3 c, .nilIface]) ∧ IsInts w' w'.heap.size A 3 [98, 98, 1] ∧ Below w.heap.size w w' := by
  have h := fthere_any ⟨#[98, 97, 98]⟩ w (by decide)
  have e : codF allB (bs ⟨#[98, 97, 98]⟩) = [98, 98, 1] := by decide +kernel
  rw [e] at h
  exact h
theorem inB_lit : InB [97, 0] := by unfold InB; decide
theorem fback_fact (w : World) : Calls Try.prog 8 #[.slice (some ⟨w.heap.size, 0, none⟩) 2 2] (w.alloc (.cells #[.int .i64 97, .int .i64 0] 3)) fun e w' =>
    e = .returned (.tuple #[.string ⟨#[97, 97]⟩, .nilIface]) ∧ Below w.heap.size w w' := by
  have hb : Below w.heap.size w (w.alloc (.cells #[.int .i64 97, .int .i64 0] 3)) := (Below.refl _ _).alloc (Nat.le_refl _) _
  have hI := (IsInts.lit w [97, 0] #[.int .i64 97, .int .i64 0] 3 rfl).keep (B' := (w.alloc (.cells #[.int .i64 97, .int .i64 0] 3)).heap.size) (by simp) fun _ _ _ => rfl
  have h := fback_ok _ 2 2 [97, 0] _ (by omega) hI inB_lit
  have e : txt (decF allB [97, 0]) = ⟨#[97, 97]⟩ := by unfold txt; congr 1
  rw [e] at h
  exact h.mono fun e w' ⟨he, hb'⟩ => ⟨he, hb.trans (hb'.mono hb.size)⟩

set_option maxRecDepth 100000 in
set_option maxHeartbeats 1000000 in
theorem fnfact_any (w : World) : Calls Try.prog 6 #[] w fun e w' => e = .returned (.bool true) ∧ Below w.heap.size w w' := by
  have H1 := hid (fthere_fact w)
  go_enter Try.func6, Try.ntmps6
  go_wp2_with fail
  refine H1.out.mono ?_
  rintro e w1 ⟨A1, c1, rfl, hI1, hb1⟩
  have HI1 := hid hI1
  clear hI1 H1
  go_wp2_with fail
  refine (fback_fact w1).mono ?_
  rintro e w2 ⟨rfl, hb2⟩
  have HI3 := hid (HI1.out.below hb2)
  have hs2 := hb2.size
  have hb12 := hb1.trans (hb2.mono hb1.size)
  clear HI1 hb1 hb2
  have H1 := hid (HI3.out.alloc hs2 (.cells #[.int .i64 98, .int .i64 98, .int .i64 1] 3))
  have HB : Hid (∀ o, Below w2.heap.size w2 (w2.alloc o)) := hid fun o => (Below.refl _ _).alloc (Nat.le_refl _) _
  have HC := hid (ints_yes A1 (some ⟨w2.heap.size, 0, none⟩) 3 3 c1 3 [98, 98, 1] _ _ _ (by omega) (by omega) H1.out (IsInts.lit w2 [98, 98, 1] #[.int .i64 98, .int .i64 98, .int .i64 1] 3 rfl))
  clear H1 HI3
  go_wp2_with fail
  refine HC.out.mono ?_
  rintro e w3 ⟨rfl, q, hw3⟩
  have hb3 : Below w2.heap.size w2 w3 := by rw [hw3]; exact below_drewN (HB.out _) q
  have hb13 := hb12.trans (hb3.mono hb12.size)
  clear hw3 HC HB hb3 hb12
  go_wp2_with fail
  go_ret
  exact ⟨rfl, hb13⟩
end Go.Proofs.Ytceipfmdgpnagaa
