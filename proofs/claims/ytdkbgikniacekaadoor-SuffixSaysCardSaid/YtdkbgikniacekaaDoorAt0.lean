/-
  'x[0]' of a slice of numbers that has an element. No condition.
-/
import Derived.Test.YtdkbgikniacekaaDoorBase
namespace Go.Proofs.YtdkbgikniacekaaDoor
open Go.RowKit

theorem elem_ints : Tryd.prog.elem 23 = 3 := by kernel_rfl
theorem run_at0 (W : World) (g off n c : Nat) (h : 0 < n) : Sem.run Tryd.prog (Instr.indexAt 23 (.slice (some ⟨g, off, none⟩) n c) (.int .i64 0)) W = .ok (.pointer (some ⟨g, off, none⟩)) W := by
  rw [run_indexAt_slice W 23 ⟨g, off, none⟩ n c .i64 0 (by rw [elem_ints]; exact Tryd.underlying23), if_pos ⟨by omega, by omega⟩, elem_ints, Tryd.sizeOf3 W]
  rfl
end Go.Proofs.YtdkbgikniacekaaDoor
