/-
  Plain facts on rows of numbers (cut out of XRshp): the type of their slices; what an append to one is. No condition.
-/
import Derived.Test.YtmfpjbhgmcmceaaBase
import Derived.Test.YtmfpjbhgmcmceaaRgr
namespace Go.Proofs.Ytmfpjbhgmcmceaa
open Go.RowKit

theorem rows_info : (Try.prog.info? 22).map (fun i => (i.zero, i.size, i.bytes)) = some (some (.slice none 0 0), 1, 24) := by kernel_rfl
theorem slice_rw {w : World} {base : Nat} {e : TypeId} {v : Value} {R : List Int} {x : Int} (h : OwnX encI 1 w base e v (R ++ [x])) : ∃ t : Rw, v = rwV t := by
  obtain ⟨A, c, rfl, _, hr⟩ := h.read encI_len
  obtain ⟨g, rfl, _⟩ := hr (by rw [List.length_append, List.length_singleton]; omega)
  exact ⟨(g, _, c), rfl⟩

theorem RowsW.keep {base : Nat} {tr ti : TypeId} {v : Value} {ts : List Rw} {Rs : List (List Int)} {w w' : World} (h : RowsW w base tr ti v ts Rs) (hv : ∀ b, v.ownBlock = some b → w'.heap[b]? = w.heap[b]?) (hr : ∀ i, i < ts.length → w'.heap[(ts.getD i rz).1]? = w.heap[(ts.getD i rz).1]?) : RowsW w' base tr ti v ts Rs :=
  ⟨h.own.keep hv, h.len, fun i hi => (h.row i hi).keep fun b hb => by
    have hb' : some (ts.getD i rz).1 = some b := hb
    injection hb' with hb'
    rw [← hb']; exact hr i hi, h.differ, h.apart⟩
end Go.Proofs.Ytmfpjbhgmcmceaa
