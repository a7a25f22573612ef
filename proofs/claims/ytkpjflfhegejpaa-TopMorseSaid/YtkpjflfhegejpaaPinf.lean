/-
  Plain facts on this program's pieces and texts: their type's sizes, a text in a variable, texts by places, a text without its last sign. No condition.
-/
import Derived.Test.YtkpjflfhegejpaaBase
import Derived.Test.YtkpjflfhegejpaaBs
import Derived.Test.YtkpjflfhegejpaaPmem
import Derived.Test.YtkpjflfhegejpaaLzr
namespace Go.Proofs.Ytkpjflfhegejpaa
open Go.RowKit

theorem pieceI : (Try.prog.info? 53).map (fun i => (i.zero, i.size, i.bytes)) = some (some (.agg #[.int .i64 0, .int .u8 0]), 2, 16) := by kernel_rfl
theorem textI : (Try.prog.info? 9).map (fun i => (i.zero, i.size, i.bytes)) = some (some (.string ByteArray.empty), 1, 16) := by kernel_rfl
/-- The text that a variable holds. -/
def strOf : Value → ByteArray
  | .string r => r
  | _ => ByteArray.empty
theorem map_bs_getD (ws : List ByteArray) (k : Nat) : (ws.map bs).getD k [] = bs (ws.getD k ByteArray.empty) := by
  rw [List.getD_eq_getElem?_getD, List.getElem?_map, List.getD_eq_getElem?_getD]
  cases ws[k]? <;> rfl
theorem bs_last {r : ByteArray} {p : Nat} (h : r.size = p + 1) : bs (r.extract 0 p) = (bs r).dropLast := by
  rw [wb_ext, List.drop_zero, List.dropLast_eq_take, bs_len, h]
  rfl
end Go.Proofs.Ytkpjflfhegejpaa
