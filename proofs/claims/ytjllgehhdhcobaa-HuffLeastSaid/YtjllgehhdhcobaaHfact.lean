/-
  The closed fact of the laws on Huffman's codes: huffFact returns true. No condition.
-/
import Derived.Test.YtjllgehhdhcobaaHcost
import Derived.Test.YtjllgehhdhcobaaInts
namespace Go.Proofs.Ytjllgehhdhcobaa
open Go.RowKit

theorem dep_lit : Dep [5, 1, 1] [1, 2, 2] := by
  have h1 : Dep [5, 2] [1, 1] := Dep.step (l := [5, 2]) (k := 1) (m := 0) (p := 0) (D := []) (by decide) (by unfold FMin; decide) (by unfold FMin; decide) (Dep.one 7)
  exact Dep.step (l := [5, 1, 1]) (k := 1) (m := 1) (p := 1) (D := [1]) (by decide) (by unfold FMin; decide) (by unfold FMin; decide) h1
theorem good_lit : GoodH [5, 1, 1] := by unfold GoodH; decide
theorem lit_ints (w : World) : IsInts (w.alloc (.cells #[.int .i64 5, .int .i64 1, .int .i64 1] 3)) (w.alloc (.cells #[.int .i64 5, .int .i64 1, .int .i64 1] 3)).heap.size (some ⟨w.heap.size, 0, none⟩) 3 [5, 1, 1] :=
  (IsInts.lit w [5, 1, 1] #[.int .i64 5, .int .i64 1, .int .i64 1] 3 rfl).keep (by simp) fun _ _ _ => rfl
theorem long_fact (w : World) : Calls Try.prog 10 #[.slice (some ⟨w.heap.size, 0, none⟩) 3 3] (w.alloc (.cells #[.int .i64 5, .int .i64 1, .int .i64 1] 3)) fun e w' =>
    ∃ L : Nat, e = .returned (.tuple #[.slice (some ⟨L, 0, none⟩) 3 3, .nilIface]) ∧ IsInts w' w'.heap.size (some ⟨L, 0, none⟩) 3 [1, 2, 2] ∧ Below w.heap.size w w' := by
  have hb : Below w.heap.size w (w.alloc (.cells #[.int .i64 5, .int .i64 1, .int .i64 1] 3)) := (Below.refl _ _).alloc (Nat.le_refl _) _
  exact (hlong_ok _ 3 3 [5, 1, 1] [1, 2, 2] _ (lit_ints w) good_lit dep_lit).mono fun e w' ⟨L, he, _, hN, hb'⟩ => ⟨L, he, NumAt.ints hN rfl, hb.trans (hb'.mono hb.size)⟩
theorem cost_fact (w : World) : Calls Try.prog 7 #[.slice (some ⟨w.heap.size, 0, none⟩) 3 3] (w.alloc (.cells #[.int .i64 5, .int .i64 1, .int .i64 1] 3)) fun e w' =>
    e = .returned (.tuple #[.int .i64 9, .nilIface]) ∧ Below w.heap.size w w' := by
  have hb : Below w.heap.size w (w.alloc (.cells #[.int .i64 5, .int .i64 1, .int .i64 1] 3)) := (Below.refl _ _).alloc (Nat.le_refl _) _
  exact (hcost_ok _ 3 3 [5, 1, 1] [1, 2, 2] _ (lit_ints w) good_lit dep_lit).mono fun e w' ⟨he, hb'⟩ => ⟨he, hb.trans (hb'.mono hb.size)⟩

set_option maxRecDepth 100000 in
set_option maxHeartbeats 1000000 in
theorem hfact_any (w : World) : Calls Try.prog 6 #[] w fun e w' => e = .returned (.bool true) ∧ Below w.heap.size w w' := by
  have H1 := hid (long_fact w)
  go_enter Try.func6, Try.ntmps6
  go_wp2_with fail
  refine H1.out.mono ?_
  rintro e w1 ⟨L, rfl, hI1, hb1⟩
  have HI1 := hid hI1
  clear hI1 H1
  go_wp2_with fail
  refine (cost_fact w1).mono ?_
  rintro e w2 ⟨rfl, hb2⟩
  have HI3 := hid (HI1.out.below hb2)
  have hs2 := hb2.size
  have hb12 := hb1.trans (hb2.mono hb1.size)
  clear HI1 hb1 hb2
  have H1 := hid (HI3.out.alloc hs2 (.cells #[.int .i64 1, .int .i64 2, .int .i64 2] 3))
  have HB : Hid (∀ o, Below w2.heap.size w2 (w2.alloc o)) := hid fun o => (Below.refl _ _).alloc (Nat.le_refl _) _
  have HC := hid (ints_yes (some ⟨L, 0, none⟩) (some ⟨w2.heap.size, 0, none⟩) 3 3 3 3 [1, 2, 2] _ _ _ (by omega) (by omega) H1.out (IsInts.lit w2 [1, 2, 2] #[.int .i64 1, .int .i64 2, .int .i64 2] 3 rfl))
  clear H1 HI3
  go_wp2_with fail
  refine HC.out.mono ?_
  rintro e w3 ⟨rfl, q, hw3⟩
  have hb3 : Below w2.heap.size w2 w3 := by rw [hw3]; exact below_drewN (HB.out _) q
  have hb13 := hb12.trans (hb3.mono hb12.size)
  clear hw3 HC HB hb3 hb12
  go_wp2_with fail
  go_ret
  exact ⟨rfl, hb13⟩
end Go.Proofs.Ytjllgehhdhcobaa
