/-
  The closed fact of the edge laws: edgesFact returns true. No condition.
-/
import Derived.Test.YtkkgmkkhflaghaaEdges
namespace Go.Proofs.Ytkkgmkkhflaghaa
open Go.RowKit

theorem of_abaab (w : World) : Calls Try.prog 12 #[.string ⟨#[97, 98, 97, 97, 98]⟩] w fun e w' => e = .returned (.tuple #[.slice (some ⟨w.heap.size, 0, none⟩) 5 5, .nilIface]) ∧
    OwnI w' w.heap.size 3 (.slice (some ⟨w.heap.size, 0, none⟩) 5 5) [0, 0, 1, 1, 2] ∧ Below w.heap.size w w' := by
  have h := of_any ⟨#[97, 98, 97, 97, 98]⟩ w (by decide)
  have e : ofL ⟨#[97, 98, 97, 97, 98]⟩ (ByteArray.size ⟨#[97, 98, 97, 97, 98]⟩) = [0, 0, 1, 1, 2] := by decide +kernel
  rw [e] at h
  exact h
theorem all_aaa (w : World) : Calls Try.prog 9 #[.string ⟨#[97, 97, 97]⟩] w fun e w' => ∃ v, e = .returned (.tuple #[v, .nilIface]) ∧ OwnI w' w.heap.size 3 v [1, 2] ∧ Below w.heap.size w w' := by
  have h := all_any ⟨#[97, 97, 97]⟩ w (by decide)
  have e : allL ⟨#[97, 97, 97]⟩ = [1, 2] := by decide +kernel
  rw [e] at h
  exact h

set_option maxHeartbeats 400000 in
theorem fact_any (w : World) : Calls Try.prog 8 #[] w fun e w' => e = .returned (.bool true) ∧ Below w.heap.size w w' := by
  go_enter Try.func8, Try.ntmps8
  go_wp2_with fail
  refine (of_abaab _).mono ?_
  rintro e w1 ⟨rfl, ho1, hb1⟩
  go_wp2_with fail
  refine (all_aaa _).mono ?_
  rintro e w2 ⟨v, rfl, ho2, hb2⟩
  obtain ⟨A, c, rfl, _, hI⟩ := IsInts.of_own ho2
  have ho1' := ho1.below hb2 (Nat.le_refl _)
  obtain ⟨A1, c1, hA1, _, hI1⟩ := IsInts.of_own ho1'
  injection hA1 with hA1 _ _
  subst hA1
  have hs2 := hb2.size
  have hs1 := hb1.size
  have H1 := hid (hI1.alloc (Nat.le_refl _) (.cells #[.int .i64 0, .int .i64 0, .int .i64 1, .int .i64 1, .int .i64 2] 3))
  have H2 := hid hI
  clear hI1 hI ho1 ho1' ho2
  go_wp2_with fail
  refine (ints_any _ _ 5 5 _ _ [0, 0, 1, 1, 2] [0, 0, 1, 1, 2] _ _ _ (by omega) (by omega) H1.out (IsInts.lit w2 [0, 0, 1, 1, 2] _ 3 rfl)).mono ?_
  rintro e w3 ⟨rfl, q, rfl⟩
  rw [sameInts_true rfl]
  have H3 := hid (((H2.out.alloc (Nat.le_refl _) (.cells #[.int .i64 0, .int .i64 0, .int .i64 1, .int .i64 1, .int .i64 2] 3)).drewN q).alloc (by simp) (.cells #[.int .i64 1, .int .i64 2] 3))
  have H4 := hid (IsInts.lit ((w2.alloc (.cells #[.int .i64 0, .int .i64 0, .int .i64 1, .int .i64 1, .int .i64 2] 3)).drewN q) [1, 2] _ 3 rfl)
  have hsz : ((w2.alloc (.cells #[.int .i64 0, .int .i64 0, .int .i64 1, .int .i64 1, .int .i64 2] 3)).drewN q).heap.size = w2.heap.size + 1 := by simp
  rw [hsz] at H4
  have hb3 : Below w.heap.size w ((w2.alloc (.cells #[.int .i64 0, .int .i64 0, .int .i64 1, .int .i64 1, .int .i64 2] 3)).drewN q) :=
    below_drewN ((hb1.trans (hb2.mono hs1)).alloc (by omega) _) q
  clear H1 H2 hsz
  go_wp2_with fail
  refine (ints_any _ _ 2 2 _ _ [1, 2] [1, 2] _ _ _ (by omega) (by omega) H3.out H4.out).mono ?_
  rintro e w3 ⟨rfl, q', rfl⟩
  rw [sameInts_true rfl]
  go_wp2
  go_ret
  exact ⟨rfl, below_drewN (hb3.alloc (by simp; omega) _) q'⟩
end Go.Proofs.Ytkkgmkkhflaghaa
