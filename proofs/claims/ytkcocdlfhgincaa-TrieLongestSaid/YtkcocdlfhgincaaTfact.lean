/-
  The closed fact of the trie laws: trieFact returns true. No condition.
-/
import Derived.Test.YtkcocdlfhgincaaTsize
import Derived.Test.YtkcocdlfhgincaaTlong
import Derived.Test.YtkcocdlfhgincaaTwalk
import Derived.Test.YtkcocdlfhgincaaInts
namespace Go.Proofs.Ytkcocdlfhgincaa
open Go.RowKit

/-- A list of words literally, as it has just been laid. -/
theorem strs_lit (w : World) (ws : List ByteArray) (n : Nat) (cs : Array Value) (e : TypeId) (h : cs = (ws.map Value.string).toArray) (hn : ws.length = n) :
    IsStrs (w.alloc (.cells cs e)) (w.alloc (.cells cs e)).heap.size (some ⟨w.heap.size, 0, none⟩) n ws := by
  subst hn
  have := IsStrs.lit w ws cs e h
  rwa [show w.heap.size + 1 = (w.alloc (.cells cs e)).heap.size by simp] at this

theorem fine2 (a b : ByteArray) (h1 : a.size ≤ 8 ∧ 0 < a.size) (h2 : b.size ≤ 8 ∧ 0 < b.size) (h : a ≠ b) : Fine [a, b] := by
  refine ⟨by simp, fun j hj => ?_⟩
  have : j = 0 ∨ j = 1 := by simp at hj; omega
  rcases this with rfl | rfl
  · exact ⟨h1.1, h1.2, fun m hm => by omega⟩
  · refine ⟨h2.1, h2.2, fun m hm => ?_⟩
    obtain rfl : m = 0 := by omega
    exact h
theorem fine3 (a b c : ByteArray) (h1 : a.size ≤ 8 ∧ 0 < a.size) (h2 : b.size ≤ 8 ∧ 0 < b.size) (h3 : c.size ≤ 8 ∧ 0 < c.size) (h : a ≠ b) (h' : a ≠ c) (h'' : b ≠ c) : Fine [a, b, c] := by
  refine ⟨by simp, fun j hj => ?_⟩
  have : j = 0 ∨ j = 1 ∨ j = 2 := by simp at hj; omega
  rcases this with rfl | rfl | rfl
  · exact ⟨h1.1, h1.2, fun m hm => by omega⟩
  · refine ⟨h2.1, h2.2, fun m hm => ?_⟩
    obtain rfl : m = 0 := by omega
    exact h
  · refine ⟨h3.1, h3.2, fun m hm => ?_⟩
    have : m = 0 ∨ m = 1 := by omega
    rcases this with rfl | rfl
    · exact h'
    · exact h''
theorem size_fact (w : World) : Calls Try.prog 7 #[.slice (some ⟨w.heap.size, 0, none⟩) 2 2] (w.alloc (.cells #[.string ⟨#[97, 98]⟩, .string ⟨#[97, 99]⟩] 9)) fun e w' => e = .returned (.tuple #[.int .i64 4, .nilIface]) ∧ Below w.heap.size w w' := by
  have hb : Below w.heap.size w (w.alloc (.cells #[.string ⟨#[97, 98]⟩, .string ⟨#[97, 99]⟩] 9)) := (Below.refl _ _).alloc (Nat.le_refl _) _
  have e : sizeN [⟨#[97, 98]⟩, ⟨#[97, 99]⟩] = 4 := by decide +kernel
  refine (size_ok _ 2 2 [⟨#[97, 98]⟩, ⟨#[97, 99]⟩] _ (fine2 _ _ (by decide) (by decide) (by decide)) (strs_lit w _ 2 _ 9 rfl rfl)).mono fun e' w' ⟨he, hb'⟩ => ⟨?_, hb.trans (hb'.mono hb.size)⟩
  rw [he, e]; rfl
theorem order_fact (w : World) : Calls Try.prog 8 #[.slice (some ⟨w.heap.size, 0, none⟩) 3 3] (w.alloc (.cells #[.string ⟨#[98]⟩, .string ⟨#[97, 98]⟩, .string ⟨#[97]⟩] 9)) fun e w' => ∃ v, e = .returned (.tuple #[v, .nilIface]) ∧ OwnI w' w.heap.size 3 v [2, 1, 0] ∧ Below w.heap.size w w' := by
  have hb : Below w.heap.size w (w.alloc (.cells #[.string ⟨#[98]⟩, .string ⟨#[97, 98]⟩, .string ⟨#[97]⟩] 9)) := (Below.refl _ _).alloc (Nat.le_refl _) _
  have e : orderL [⟨#[98]⟩, ⟨#[97, 98]⟩, ⟨#[97]⟩] = [2, 1, 0] := by decide +kernel
  refine (order_ok _ 3 3 [⟨#[98]⟩, ⟨#[97, 98]⟩, ⟨#[97]⟩] _ (fine3 _ _ _ (by decide) (by decide) (by decide) (by decide) (by decide) (by decide)) (strs_lit w _ 3 _ 9 rfl rfl)).mono fun e' w' ⟨v, he, ho, hb'⟩ => ⟨v, he, ?_, hb.trans (hb'.mono hb.size)⟩
  rw [e] at ho
  exact ho.base hb.size
theorem long_fact (w : World) : Calls Try.prog 12 #[.slice (some ⟨w.heap.size, 0, none⟩) 2 2, .string ⟨#[97, 98, 99]⟩] (w.alloc (.cells #[.string ⟨#[97]⟩, .string ⟨#[97, 98]⟩] 9)) fun e w' => e = .returned (.tuple #[.int .i64 1, .nilIface]) ∧ Below w.heap.size w w' := by
  have hb : Below w.heap.size w (w.alloc (.cells #[.string ⟨#[97]⟩, .string ⟨#[97, 98]⟩] 9)) := (Below.refl _ _).alloc (Nat.le_refl _) _
  have hf : Fine [⟨#[97]⟩, ⟨#[97, 98]⟩] := fine2 _ _ (by decide) (by decide) (by decide)
  have hg : Lg (wds (wl [⟨#[97]⟩, ⟨#[97, 98]⟩])) (bs ⟨#[97, 98, 99]⟩) 1 := .inr ⟨[97, 98], 1, by decide, rfl, by decide, by decide⟩
  refine (long_ok _ 2 2 [⟨#[97]⟩, ⟨#[97, 98]⟩] ⟨#[97, 98, 99]⟩ _ hf (by decide) (strs_lit w _ 2 _ 9 rfl rfl)).mono fun e' w' ⟨k, he, hk, hb'⟩ => ⟨?_, hb.trans (hb'.mono hb.size)⟩
  rw [he, lg_one (wds_once.2 (fine_wl hf).1) hk hg]

set_option maxHeartbeats 400000 in
theorem tfact_any (w : World) : Calls Try.prog 6 #[] w fun e w' => e = .returned (.bool true) ∧ Below w.heap.size w w' := by
  go_enter Try.func6, Try.ntmps6
  go_wp2_with fail
  refine (size_fact w).mono ?_
  rintro e w1 ⟨rfl, hb1⟩
  go_wp2_with fail
  refine (order_fact w1).mono ?_
  rintro e w2 ⟨v, rfl, ho, hb2⟩
  obtain ⟨A2, c2, rfl, _, hI2⟩ := IsInts.of_own ho
  clear ho
  have hb12 := hb1.trans (hb2.mono hb1.size)
  go_wp2_with fail
  refine (long_fact w2).mono ?_
  rintro e w3 ⟨rfl, hb3⟩
  have hI3 := hI2.below hb3
  have hb13 := hb12.trans (hb3.mono hb12.size)
  have hs3 := hb3.size
  have H1 := hid (hI3.alloc hs3 (.cells #[.int .i64 2, .int .i64 1, .int .i64 0] 3))
  clear hI2 hI3 hb2 hb3 hb12
  go_wp2_with fail
  refine (ints_any _ _ 3 3 _ _ [2, 1, 0] [2, 1, 0] _ _ _ (by omega) (by omega) H1.out (IsInts.lit w3 [2, 1, 0] _ 3 rfl)).mono ?_
  rintro e w4 ⟨rfl, q, rfl⟩
  rw [sameInts_true rfl]
  go_wp2
  go_ret
  exact ⟨rfl, below_drewN (hb13.alloc hb13.size _) q⟩
end Go.Proofs.Ytkcocdlfhgincaa
