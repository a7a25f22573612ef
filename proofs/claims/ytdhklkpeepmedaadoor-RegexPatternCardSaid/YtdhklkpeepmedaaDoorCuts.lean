/-
  's[:i]' and 's[i:]' of a text. No condition.
-/
import Derived.Test.YtdhklkpeepmedaaDoorBase
import Derived.Test.YtdhklkpeepmedaaDoorBs
namespace Go.Proofs.YtdhklkpeepmedaaDoor
open Go.RowKit

theorem cut_head (s : ByteArray) (i : Nat) (hi : i ≤ s.size) (W : World) : Sem.run Tryd.prog (Instr.slice 9 (.string s) none (some (.int .i64 (i : Int))) none) W = .ok (.string (s.extract 0 i)) W :=
  run_slice_string_h W 9 s Tryd.underlying9 .i64 (i : Int) (by omega) (by omega)
theorem cut_tail (s : ByteArray) (i : Nat) (hi : i ≤ s.size) (W : World) : Sem.run Tryd.prog (Instr.slice 9 (.string s) (some (.int .i64 (i : Int))) none none) W = .ok (.string (s.extract i s.size)) W :=
  run_slice_string_l W 9 s Tryd.underlying9 .i64 (i : Int) (by omega) (by omega)
theorem bs_head (s : ByteArray) (i : Nat) : bs (s.extract 0 i) = (bs s).take i := by rw [wb_ext]; rfl
theorem bs_tail (s : ByteArray) (i : Nat) : bs (s.extract i s.size) = (bs s).drop i := by rw [wb_ext, List.take_of_length_le (by rw [bs_len]; exact Nat.le_refl _)]
end Go.Proofs.YtdhklkpeepmedaaDoor
