/-
  The text of one sign, and what 'string([]byte{c})' gives. No condition.
-/
import Derived.Test.YtdhklkpeepmedaaDoorBorder
import Derived.WalkKit
import Derived.Laws.IdiomStrings
namespace Go.Proofs.YtdhklkpeepmedaaDoor
open Go.RowKit

/-- The text of one sign. -/
def oneT (c : UInt8) : ByteArray := ⟨#[c]⟩
theorem oneT_size (c : UInt8) : (oneT c).size = 1 := rfl
theorem oneT_sg (c : UInt8) : sg (oneT c) 0 = c := rfl
theorem run_one {P : Program} (w : World) (c : UInt8) (src dst e : TypeId) (hs : P.underlying src = some (.slice e)) (he : P.underlying e = some (.int .u8)) (hd : P.underlying dst = some .string) :
    (convert src dst (.slice (some ⟨w.heap.size, 0, none⟩) 1 1)).run P (w.alloc (.cells #[.int .u8 (c.toNat : Int)] e)) = .ok (.string (oneT c)) (w.alloc (.cells #[.int .u8 (c.toNat : Int)] e)) :=
  run_convert_bytes_back _ src dst e ⟨w.heap.size, 0, none⟩ 1 [c] hs he hd (fun j hj => by
    obtain rfl : j = 0 := by simpa using hj
    rw [show Addr.add ⟨w.heap.size, 0, none⟩ 0 = ⟨w.heap.size, 0, none⟩ from rfl, cell_of_row _ _ 0 _ e (0, 0) (heap_alloc_new w _)]
    rfl)
end Go.Proofs.YtdhklkpeepmedaaDoor
