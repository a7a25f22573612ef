/-
  A text's first sign: what is left behind it, small letters by their numbers. No condition.
-/
import Derived.Test.YtdhklkpeepmedaaDoorBase
import Derived.Test.YtdhklkpeepmedaaDoorBs
import Derived.Test.YtdhklkpeepmedaaDoorPat
namespace Go.Proofs.YtdhklkpeepmedaaDoor
open Go.RowKit

theorem byte_is (x y : UInt8) : ((x.toNat : Int) == (y.toNat : Int)) = decide (x = y) := by
  by_cases h : x = y
  · subst h; simp
  · rw [decide_eq_false h]; have := byte_apart h; simpa using this
theorem cut_one (s : ByteArray) (h : 0 < s.size) (W : World) : Sem.run Tryd.prog (Instr.slice 9 (.string s) (some (.int .i64 1)) none none) W = .ok (.string (s.extract 1 s.size)) W :=
  run_slice_string_l W 9 s Tryd.underlying9 .i64 1 (by omega) (by omega)
theorem cut_size {s : ByteArray} (h : 0 < s.size) : (s.extract 1 s.size).size + 1 = s.size := by rw [ByteArray.size_extract]; omega
theorem ltr_num {c : UInt8} : ltr c = true ↔ 97 ≤ c.toNat ∧ c.toNat ≤ 122 := by
  unfold ltr
  rw [decide_eq_true_eq, UInt8.le_iff_toNat_le, UInt8.le_iff_toNat_le]
  rfl
end Go.Proofs.YtdhklkpeepmedaaDoor
