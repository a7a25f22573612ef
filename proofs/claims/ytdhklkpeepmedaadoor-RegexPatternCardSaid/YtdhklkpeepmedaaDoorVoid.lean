/-
  The walk's own spelling of 's == ""'. No condition.
-/
import Derived.Test.YtdhklkpeepmedaaDoorBorder
import Derived.WalkKit
namespace Go.Proofs.YtdhklkpeepmedaaDoor

theorem blank_no {u : ByteArray} (h : 0 < u.size) : u.toList.isEmpty = false := by
  rw [ByteArray.toList_eq, List.isEmpty_eq_false_iff, ne_eq, ← List.length_eq_zero_iff, Array.length_toList]
  exact Nat.ne_of_gt h
theorem blank_yes {u : ByteArray} (h : u.size = 0) : u.toList.isEmpty = true := by
  rw [ByteArray.toList_eq, List.isEmpty_iff, ← List.length_eq_zero_iff, Array.length_toList]
  exact h
end Go.Proofs.YtdhklkpeepmedaaDoor
