/-
  'string(b)' of a row that is a block of its own, known whole. No condition.
-/
import Derived.Test.YtlbefiaieehcfaaBase
import Derived.Test.YtlbefiaieehcfaaBlk
import Derived.Test.YtlbefiaieehcfaaBs
import Derived.Laws.IdiomStrings
namespace Go.Proofs.Ytlbefiaieehcfaa
open Go.RowKit

/-- 'string(b)', b a block of its own. -/
theorem conv_row {w : World} {g n c : Nat} {xs : List UInt8} (h : RowAt w g 5 xs) (hn : xs.length = n) : (convert 42 9 (.slice (some ⟨g, 0, none⟩) n c)).run Try.prog w = .ok (.string (txt xs)) w := by
  subst hn
  exact run_convert_bytes_back (P := Try.prog) w 42 9 5 ⟨g, 0, none⟩ c xs Try.underlying42 Try.underlying5 Try.underlying9 (fun j hj => by
    rw [show Addr.add ⟨g, 0, none⟩ j = ⟨g, j, none⟩ by by_cases h : j = 0 <;> simp [Addr.add, h], h.cell hj]
    simp [hj])
end Go.Proofs.Ytlbefiaieehcfaa
