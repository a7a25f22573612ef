/-
  'string(b)' of a row that is a block of its own, known whole. No condition.
-/
import Derived.Test.YtlbefiaieehcfaaDoorBase
import Derived.Test.YtlbefiaieehcfaaDoorBlk
import Derived.Test.YtlbefiaieehcfaaDoorBs
import Derived.Laws.IdiomStrings
namespace Go.Proofs.YtlbefiaieehcfaaDoor
open Go.RowKit

/-- 'string(b)', b a block of its own. -/
theorem conv_row {w : World} {g n c : Nat} {xs : List UInt8} (h : RowAt w g 5 xs) (hn : xs.length = n) : (convert 41 9 (.slice (some ⟨g, 0, none⟩) n c)).run Tryd.prog w = .ok (.string (txt xs)) w := by
  subst hn
  exact run_convert_bytes_back (P := Tryd.prog) w 41 9 5 ⟨g, 0, none⟩ c xs Tryd.underlying41 Tryd.underlying5 Tryd.underlying9 (fun j hj => by
    rw [show Addr.add ⟨g, 0, none⟩ j = ⟨g, j, none⟩ by by_cases h : j = 0 <;> simp [Addr.add, h], h.cell hj]
    simp [hj])
end Go.Proofs.YtlbefiaieehcfaaDoor
