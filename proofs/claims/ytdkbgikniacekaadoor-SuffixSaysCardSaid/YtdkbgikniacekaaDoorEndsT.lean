/-
  The ends of a text as texts; a slice of texts of the call's own reads as a list; the row of the type string. No condition.
-/
import Derived.Test.YtdkbgikniacekaaDoorSufC
import Derived.Test.YtdkbgikniacekaaDoorOwnS
namespace Go.Proofs.YtdkbgikniacekaaDoor
open Go.RowKit

/-- The first m ends of a text. -/
def endsT (s : ByteArray) (m : Nat) : List ByteArray := (List.range m).map fun i => s.extract i s.size
theorem endsT_succ (s : ByteArray) (m : Nat) : endsT s (m + 1) = endsT s m ++ [s.extract m s.size] := by simp [endsT, List.range_succ]
theorem endsT_len (s : ByteArray) (m : Nat) : (endsT s m).length = m := by simp [endsT]
theorem endsT_at (s : ByteArray) {m i : Nat} (h : i < m) : wat (endsT s m) i = s.extract i s.size := by simp [wat, endsT, List.getD_eq_getElem?_getD, h]
theorem IsStrs.of_own {w : World} {base : Nat} {e : TypeId} {v : Value} {ws : List ByteArray} {n : Nat} (h : OwnS w base e v ws) (hn : ws.length = n) : ∃ A c, v = .slice A n c ∧ IsStrs w w.heap.size A n ws := by
  subst hn
  unfold OwnS at h
  rcases h.2 with ⟨rfl, h0⟩ | ⟨g, cap, cur, rfl, hg, hh, hnc, hcm, hcs, htk⟩
  · exact ⟨none, 0, by rw [h0], rfl, fun h => absurd h (by omega)⟩
  · refine ⟨_, _, rfl, rfl, fun hn => ⟨g, 0, rfl, ?_, fun j hj => ?_⟩⟩
    · rcases Nat.lt_or_ge g w.heap.size with hlt | hge
      · exact hlt
      · rw [Array.getElem?_eq_none hge] at hh; cases hh
    · rw [Nat.zero_add, h.cellAt j (by omega)]
      simp [hj]
theorem str_info : (Tryd.prog.info? 9).map (fun i => (i.zero, i.size, i.bytes)) = some (some (.string ByteArray.empty), 1, 16) := by kernel_rfl
end Go.Proofs.YtdkbgikniacekaaDoor
