/-
  Plain facts on a row of bools of the call's own, beside a row of numbers. No condition.
-/
import Derived.Test.YtldhcmoecmfigaaDoorBase
import Derived.Deep.OwnRows
namespace Go.Proofs.YtldhcmoecmfigaaDoor
open Go.RowKit Go.Proofs

/-! ### The row of bools -/
def RowU (w : World) (b n : Nat) (U : Nat → Bool) : Prop := w.heap[b]? = some (.cells ((List.range n).map fun j => Value.bool (U j)).toArray 4 (0, 0))
theorem RowU.cell {w : World} {b n : Nat} {U : Nat → Bool} (h : RowU w b n U) {j : Nat} (hj : j < n) : w.cell? ⟨b, j, none⟩ = some (.bool (U j)) := by
  unfold RowU at h
  simp [World.cell?, h, hj]
theorem RowU.frozen {w : World} {b n : Nat} {U : Nat → Bool} (h : RowU w b n U) (j : Nat) : w.frozen? ⟨b, j, none⟩ = false := by
  unfold RowU at h
  simp [World.frozen?, h]
theorem RowU.congr {w : World} {b n : Nat} {U V : Nat → Bool} (h : RowU w b n U) (e : ∀ j, j < n → U j = V j) : RowU w b n V := by
  unfold RowU at h ⊢
  rw [h, List.map_congr_left fun j hj => by rw [e j (List.mem_range.1 hj)]]
theorem RowU.set {w : World} {b n : Nat} {U : Nat → Bool} (h : RowU w b n U) (k : Nat) : RowU (w.setCell ⟨b, k, none⟩ (.bool true)) b n (fun j => if j = k then true else U j) := by
  unfold RowU at h ⊢
  obtain ⟨hlt, hk⟩ := Array.getElem?_eq_some_iff.1 h
  show (w.heap.modify b _)[b]? = _
  rw [Array.getElem?_eq_getElem (by rw [Array.size_modify]; exact hlt), Array.getElem_modify_self, hk]
  simp only [Option.some.injEq, Obj.cells.injEq, and_true]
  apply Array.toList_inj.1
  show (if false = true then _ else _ : Array Value).toList = _
  rw [if_neg (by simp), Array.toList_setIfInBounds]
  apply List.ext_getElem?
  intro j
  by_cases hj : j < n
  · by_cases e : j = k
    · subst e; simp [hj]
    · simp [hj, e, Ne.symm e]
  · simp [hj]
theorem RowU.made (w : World) (n : Nat) : RowU (w.alloc (.cells (madeCells #[Value.bool false] n) 4)) w.heap.size n (fun _ => false) := by
  unfold RowU
  rw [heap_alloc_new]
  have : madeCells #[Value.bool false] n = ((List.range n).map fun _ => Value.bool false).toArray := by
    apply Array.toList_inj.1
    rw [toList_madeCells_one]
    apply List.ext_getElem?
    intro j
    by_cases hj : j < n <;> simp [hj]
  rw [this]
theorem OwnI.at_block {w w' : World} {base : Nat} {e : TypeId} {v : Value} {xs : List Int} (h : OwnI w base e v xs) (hk : ∀ g, v.ownBlock = some g → w'.heap[g]? = w.heap[g]?) : OwnI w' base e v xs := by
  refine ⟨h.1, ?_⟩
  rcases h.2 with h' | ⟨g, cap, cur, rfl, h2, h3, h4⟩
  · exact .inl h'
  · exact .inr ⟨g, cap, cur, rfl, h2, (hk g rfl).trans h3, h4⟩
/-- The bools lie in no row of numbers. -/
theorem RowU.apart {w : World} {b n base : Nat} {U : Nat → Bool} {v : Value} {xs : List Int} (h : RowU w b n U) (ho : OwnI w base 3 v xs) {g : Nat} (e : v.ownBlock = some g) : g ≠ b := by
  rcases ho.2 with ⟨rfl, _⟩ | ⟨g', cap, cur, rfl, _, h3, _⟩
  · simp [Value.ownBlock] at e
  · obtain rfl : g' = g := by simpa [Value.ownBlock] using e
    rintro rfl
    unfold RowU at h
    rw [h] at h3
    cases h3
theorem bool_info : (Tryd.prog.info? 4).map (fun i => (i.zero, i.size, i.bytes)) = some (some (.bool false), 1, 1) := by kernel_rfl
/-- What has been taken. -/
def usd (os : List Nat) (i : Nat) : Bool := decide (i ∈ os)
theorem usd_snoc (os : List Nat) (j i : Nat) : (if i = j then true else usd os i) = usd (os ++ [j]) i := by
  unfold usd
  by_cases e : i = j
  · simp [e]
  · simp [e]
end Go.Proofs.YtldhcmoecmfigaaDoor
