/-
  The row of the type uint8: its zero, its cells, its bytes. No condition.
-/
import Derived.Test.YtdhklkpeepmedaaDoorBase
namespace Go.Proofs.YtdhklkpeepmedaaDoor
theorem byteI : (Tryd.prog.info? 5).map (fun i => (i.zero, i.size, i.bytes)) = some (some (.int .u8 0), 1, 1) := by kernel_rfl
end Go.Proofs.YtdhklkpeepmedaaDoor
