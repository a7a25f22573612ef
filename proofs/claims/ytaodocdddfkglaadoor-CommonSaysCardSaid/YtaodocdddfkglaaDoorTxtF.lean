/-
  Plain facts on a block of texts that is known whole, by a function of places: how it reads, one place stored, made new. No condition.
-/
import Derived.Test.YtaodocdddfkglaaDoorBlk
import Derived.Test.YtaodocdddfkglaaDoorBs
namespace Go.Proofs.YtaodocdddfkglaaDoor
open Go.RowKit

/-- Block g holds the texts f 0, f 1, .. (m of them), and nothing more. -/
def TxF (w : World) (g : Nat) (e : TypeId) (m : Nat) (f : Nat → List UInt8) : Prop := BlkAt w g e ((List.range m).map fun j => .string (txt (f j)))
theorem TxF.cell {w : World} {g m : Nat} {e : TypeId} {f : Nat → List UInt8} (h : TxF w g e m f) {j : Nat} (hj : j < m) : w.cell? ⟨g, j, none⟩ = some (.string (txt (f j))) :=
  BlkAt.cell h (by simp [hj])
theorem TxF.frozen {w : World} {g m : Nat} {e : TypeId} {f : Nat → List UInt8} (h : TxF w g e m f) (j : Nat) : w.frozen? ⟨g, j, none⟩ = false := BlkAt.frozen h j
theorem TxF.lt {w : World} {g m : Nat} {e : TypeId} {f : Nat → List UInt8} (h : TxF w g e m f) : g < w.heap.size := BlkAt.lt h
theorem TxF.congr {w : World} {g m : Nat} {e : TypeId} {f f' : Nat → List UInt8} (h : TxF w g e m f) (he : ∀ j, j < m → f j = f' j) : TxF w g e m f' := by
  have : ((List.range m).map fun j => Value.string (txt (f j))) = (List.range m).map fun j => .string (txt (f' j)) :=
    List.map_congr_left fun j hj => by rw [he j (by simpa using hj)]
  unfold TxF at h ⊢
  rw [← this]
  exact h
theorem TxF.drewN {w : World} {g m : Nat} {e : TypeId} {f : Nat → List UInt8} (h : TxF w g e m f) (q : Nat) : TxF (w.drewN q) g e m f := h
theorem TxF.keep {w w' : World} {g m : Nat} {e : TypeId} {f : Nat → List UInt8} (h : TxF w g e m f) (hb : w'.heap[g]? = w.heap[g]?) : TxF w' g e m f := by
  unfold TxF BlkAt at h ⊢
  rw [hb]; exact h
theorem TxF.set {w : World} {g m : Nat} {e : TypeId} {f : Nat → List UInt8} (h : TxF w g e m f) (j : Nat) (l : List UInt8) :
    TxF (w.setCell ⟨g, j, none⟩ (.string (txt l))) g e m (fun k => if k = j then l else f k) ∧ Only g w (w.setCell ⟨g, j, none⟩ (.string (txt l))) := by
  obtain ⟨h1, h2⟩ := BlkAt.stored h j (.string (txt l))
  refine ⟨?_, h2⟩
  have e2 : (((List.range m).map fun j => Value.string (txt (f j))).set j (.string (txt l))) = (List.range m).map fun k => .string (txt (if k = j then l else f k)) := by
    apply List.ext_getElem?
    intro k
    by_cases hk : k < m
    · by_cases hkj : k = j
      · subst hkj; simp [hk]
      · simp [hk, hkj, Ne.symm hkj]
    · simp [hk]
  unfold TxF
  rw [← e2]
  exact h1
theorem TxF.made {w : World} {base g n : Nat} {e : TypeId} (h : w.ownsRow base e 1 (.slice (some ⟨g, 0, none⟩) n n) n (madeCells #[Value.string ByteArray.empty] n).toList) : TxF w g e n (fun _ => []) := by
  rw [toList_madeCells_one] at h
  have := BlkAt.of_own h
  have e2 : List.replicate n (Value.string ByteArray.empty) = (List.range n).map fun _ => .string (txt []) := by
    apply List.ext_getElem?
    intro k
    by_cases hk : k < n
    · simp [hk]; rfl
    · simp [hk]
  unfold TxF
  rw [← e2]
  exact this
end Go.Proofs.YtaodocdddfkglaaDoor
