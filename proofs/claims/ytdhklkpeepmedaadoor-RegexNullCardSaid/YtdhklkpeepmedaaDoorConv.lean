/-
  'string(b)' of a slice of signs of the call's own, nil too: the text of its signs. No condition.
-/
import Derived.Test.YtdhklkpeepmedaaDoorBase
import Derived.Test.YtdhklkpeepmedaaDoorBs
import Derived.Test.YtdhklkpeepmedaaDoorRmem
import Derived.Laws.IdiomStrings
namespace Go.Proofs.YtdhklkpeepmedaaDoor
open Go.RowKit

/-- 'string(b)', b nil or the call's own. -/
theorem conv_own {w : World} {base : Nat} {e : TypeId} {v : Value} {xs : List UInt8} (h : OwnB w base e v xs) : (convert 50 9 v).run Tryd.prog w = .ok (.string (txt xs)) w := by
  unfold OwnB at h
  have h' := h
  rcases h.2 with ⟨rfl, h0⟩ | ⟨g, cap, cur, rfl, hg, hh, hnc, hcm, hcs, htk⟩
  · obtain rfl := List.length_eq_zero_iff.1 h0
    rw [run_convert_bytes_string w _ _ 5 none 0 0 Tryd.underlying50 Tryd.underlying5 Tryd.underlying9]
    rfl
  · exact run_convert_bytes_back (P := Tryd.prog) w 50 9 5 ⟨g, 0, none⟩ cap xs Tryd.underlying50 Tryd.underlying5 Tryd.underlying9 (fun j hj => by
      rw [show Addr.add ⟨g, 0, none⟩ j = ⟨g, j, none⟩ by by_cases h : j = 0 <;> simp [Addr.add, h], h'.cellAt j (by omega)]
      simp [encB, hj])
end Go.Proofs.YtdhklkpeepmedaaDoor
