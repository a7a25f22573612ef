/-
  Lists of words that a law writes out: as they lie in memory, and that they are as they should be. No condition.
-/
import Derived.Test.YtlfncplldppncaaDoorStrs
namespace Go.Proofs.YtlfncplldppncaaDoor
open Go.RowKit

/-- A list of words literally, as it has just been laid. -/
theorem strs_lit (w : World) (ws : List ByteArray) (n : Nat) (cs : Array Value) (e : TypeId) (h : cs = (ws.map Value.string).toArray) (hn : ws.length = n) :
    IsStrs (w.alloc (.cells cs e)) (w.alloc (.cells cs e)).heap.size (some ⟨w.heap.size, 0, none⟩) n ws := by
  subst hn
  have := IsStrs.lit w ws cs e h
  rwa [show w.heap.size + 1 = (w.alloc (.cells cs e)).heap.size by simp] at this

theorem fine2 (a b : ByteArray) (h1 : a.size ≤ 8 ∧ 0 < a.size) (h2 : b.size ≤ 8 ∧ 0 < b.size) (h : a ≠ b) : Fine [a, b] := by
  refine ⟨by simp, fun j hj => ?_⟩
  have : j = 0 ∨ j = 1 := by simp at hj; omega
  rcases this with rfl | rfl
  · exact ⟨h1.1, h1.2, fun m hm => by omega⟩
  · refine ⟨h2.1, h2.2, fun m hm => ?_⟩
    obtain rfl : m = 0 := by omega
    exact h
theorem fine3 (a b c : ByteArray) (h1 : a.size ≤ 8 ∧ 0 < a.size) (h2 : b.size ≤ 8 ∧ 0 < b.size) (h3 : c.size ≤ 8 ∧ 0 < c.size) (h : a ≠ b) (h' : a ≠ c) (h'' : b ≠ c) : Fine [a, b, c] := by
  refine ⟨by simp, fun j hj => ?_⟩
  have : j = 0 ∨ j = 1 ∨ j = 2 := by simp at hj; omega
  rcases this with rfl | rfl | rfl
  · exact ⟨h1.1, h1.2, fun m hm => by omega⟩
  · refine ⟨h2.1, h2.2, fun m hm => ?_⟩
    obtain rfl : m = 0 := by omega
    exact h
  · refine ⟨h3.1, h3.2, fun m hm => ?_⟩
    have : m = 0 ∨ m = 1 := by omega
    rcases this with rfl | rfl
    · exact h'
    · exact h''
end Go.Proofs.YtlfncplldppncaaDoor
