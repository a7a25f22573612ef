/-
  Plain facts on a slice of numbers of the call's own: how it reads place by place, one place stored. No condition.
-/
import Derived.Test.YtlbefiaieehcfaaMem
import Derived.Laws.OwnMore
namespace Go.Proofs.Ytlbefiaieehcfaa
open Go.RowKit

theorem OwnI.cells {w : World} {base : Nat} {e : TypeId} {v : Value} {xs : List Int} (h : OwnI w base e v xs) (h0 : 0 < xs.length) :
    ∃ g c, v = .slice (some ⟨g, 0, none⟩) xs.length c ∧ base ≤ g ∧ g < w.heap.size ∧ (∀ j, j < xs.length → w.cell? ⟨g, j, none⟩ = some (.int .i64 (xs.getD j 0))) ∧ ∀ j, w.frozen? ⟨g, j, none⟩ = false := by
  unfold OwnI at h
  have key : ∀ n, n = xs.length → w.ownsRow base e 1 v n (xs.map (Value.int .i64)) → ∃ g c, v = .slice (some ⟨g, 0, none⟩) n c ∧ base ≤ g ∧ g < w.heap.size ∧ (∀ j, j < n → w.cell? ⟨g, j, none⟩ = some (.int .i64 (xs.getD j 0))) ∧ ∀ j, w.frozen? ⟨g, j, none⟩ = false := ?_
  · exact key _ rfl h
  clear h
  intro n hn h
  have hlt := h.lt
  rcases h.2 with ⟨_, e0⟩ | ⟨g, cap, cur, rfl, hg, hh, _⟩
  · omega
  · refine ⟨g, cap, rfl, hg, (hlt g rfl).2, fun j hj => ?_, fun j => h.frozenAt j⟩
    rw [h.cellAt j (by omega)]
    simp [show j < xs.length by omega]
theorem OwnI.set {w : World} {base g n c : Nat} {e : TypeId} {xs : List Int} (h : OwnI w base e (.slice (some ⟨g, 0, none⟩) n c) xs) (hn : xs.length = n) (j : Nat) (x : Int) :
    OwnI (w.setCell ⟨g, j, none⟩ (.int .i64 x)) base e (.slice (some ⟨g, 0, none⟩) n c) (xs.set j x) ∧ w.grownBy (w.setCell ⟨g, j, none⟩ (.int .i64 x)) (some g) := by
  subst hn
  obtain ⟨h1, h2⟩ := World.ownsRow.stored h j (.int .i64 x)
  refine ⟨?_, h2⟩
  unfold OwnI
  rw [List.length_set, List.map_set]
  exact h1
theorem OwnI.frozen {w : World} {base g n c : Nat} {e : TypeId} {xs : List Int} (h : OwnI w base e (.slice (some ⟨g, 0, none⟩) n c) xs) (hn : xs.length = n) (j : Nat) : w.frozen? ⟨g, j, none⟩ = false := by
  subst hn
  exact World.ownsRow.frozenAt h j
theorem OwnI.at_ {w : World} {base g n c : Nat} {e : TypeId} {xs : List Int} (h : OwnI w base e (.slice (some ⟨g, 0, none⟩) n c) xs) (hn : xs.length = n) {j : Nat} (hj : j < n) : w.cell? ⟨g, j, none⟩ = some (.int .i64 (xs.getD j 0)) := by
  subst hn
  have := World.ownsRow.cellAt h j (by omega)
  rw [this]
  simp [hj]
theorem OwnI.base_le {w : World} {base g n c : Nat} {e : TypeId} {xs : List Int} (h : OwnI w base e (.slice (some ⟨g, 0, none⟩) n c) xs) : base ≤ g := (World.ownsRow.lt h g rfl).1
theorem OwnI.below_set {w : World} {base g n c j : Nat} {e : TypeId} {xs : List Int} {u : Value} (h : OwnI w base e (.slice (some ⟨g, 0, none⟩) n c) xs) : Below base w (w.setCell ⟨g, j, none⟩ u) :=
  (Below.refl base w).setCell (by show base ≤ g; exact h.base_le) u
end Go.Proofs.Ytlbefiaieehcfaa
