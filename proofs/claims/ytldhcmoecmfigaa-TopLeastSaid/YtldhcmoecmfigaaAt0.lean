/-
  'x[0]' of a slice of numbers that has an element. No condition.
-/
import Derived.Test.YtldhcmoecmfigaaBase
namespace Go.Proofs.Ytldhcmoecmfigaa
open Go.RowKit

theorem elem_ints : Try.prog.elem 35 = 3 := by kernel_rfl
theorem run_at0 (W : World) (g off n c : Nat) (h : 0 < n) : Sem.run Try.prog (Instr.indexAt 35 (.slice (some ⟨g, off, none⟩) n c) (.int .i64 0)) W = .ok (.pointer (some ⟨g, off, none⟩)) W := by
  rw [run_indexAt_slice W 35 ⟨g, off, none⟩ n c .i64 0 (by rw [elem_ints]; exact Try.underlying35), if_pos ⟨by omega, by omega⟩, elem_ints, Try.sizeOf3 W]
  rfl
end Go.Proofs.Ytldhcmoecmfigaa
