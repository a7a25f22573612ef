/-
  A slice that holds places reads as numbers. No condition.
-/
import Derived.Test.YtldhcmoecmfigaaMem
namespace Go.Proofs.Ytldhcmoecmfigaa
open Go.RowKit

/-- A slice that holds places reads as numbers. -/
theorem nats_at {w : World} {B n : Nat} {A : Option Addr} {o : List Nat} (h : IsInts w B A n (o.map fun i : Nat => (i : Int))) (hn : 0 < n) :
    ∃ g off, A = some ⟨g, off, none⟩ ∧ g < B ∧ ∀ j, j < n → w.cell? ⟨g, off + j, none⟩ = some (.int .i64 ((o.getD j 0 : Nat) : Int)) := by
  obtain ⟨g, off, e, hg, hc⟩ := h.2 hn
  refine ⟨g, off, e, hg, fun j hj => ?_⟩
  have hl : j < o.length := by have := h.1; rw [List.length_map] at this; omega
  rw [hc j hj]
  simp [List.getD_eq_getElem?_getD, hl]
end Go.Proofs.Ytldhcmoecmfigaa
