/-
  A slice of texts that is the call's own reads as its list. No condition.
-/
import Derived.Test.YtlfncplldppncaaDoorOwnS
import Derived.Test.YtlfncplldppncaaDoorStrs
namespace Go.Proofs.YtlfncplldppncaaDoor
open Go.RowKit

theorem OwnS.strs {w : World} {base : Nat} {e : TypeId} {v : Value} {ws : List ByteArray} (h : OwnS w base e v ws) : ∃ A c, v = .slice A ws.length c ∧ IsStrs w w.heap.size A ws.length ws := by
  have hlt := fun b => World.ownsRow.lt h b
  obtain ⟨A, c, rfl, hr⟩ := h.read
  refine ⟨A, c, rfl, rfl, fun h0 => ?_⟩
  obtain ⟨g, rfl, _⟩ := hr 0 h0
  refine ⟨g, 0, rfl, (hlt g rfl).2, fun j hj => ?_⟩
  obtain ⟨g', e, hc⟩ := hr j hj
  injection e with e
  injection e with e1
  subst e1
  rw [Nat.zero_add]
  exact hc
end Go.Proofs.YtlfncplldppncaaDoor
