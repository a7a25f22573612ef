/-
  Plain facts on texts as keys of maps: their literals, that different texts have different ones, and what the empty text's test says. No condition.
-/
import Derived.Test.YtkpjflfhegejpaaBase
import Derived.Test.YtkpjflfhegejpaaStrs
import Derived.Test.YtkpjflfhegejpaaMaps
import Derived.StringKeys
namespace Go.Proofs.Ytkpjflfhegejpaa
open Go.RowKit Go.Maps

/-- The key of a text. -/
def keyS (s : ByteArray) : Lit := .string (bs s)
theorem keyS_key (s : ByteArray) : WideAt.IsKeyLit (keyS s) := trivial
theorem keyS_ne {s t : ByteArray} (h : s ≠ t) : keyS s ≠ keyS t := fun e => h (bs_inj (by simpa [keyS] using e))
theorem str_keyed : Keyed Try.prog 9 := string_keyed Try.underlying9
theorem key_str {s : ByteArray} (h : s.size ≤ maxLen) : keyOf Try.prog 9 (.string s) = some (keyS s) := Go.WideMaps.keyOf_string_mk Try.underlying9 h
theorem empty_yes {s : ByteArray} (h : s.size = 0) : s.toList.isEmpty = true := by
  have : s.toList.length = s.size := by rw [ByteArray.toList_eq, Array.length_toList]; rfl
  rw [h] at this
  simp [List.length_eq_zero_iff.1 this]
theorem empty_not {s : ByteArray} (h : 0 < s.size) : s.toList.isEmpty = false := by
  have : s.toList.length = s.size := by rw [ByteArray.toList_eq, Array.length_toList]; rfl
  cases e : s.toList with
  | nil => rw [e] at this; simp at this; omega
  | cons => rfl

end Go.Proofs.Ytkpjflfhegejpaa
