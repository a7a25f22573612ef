/-
  Plain facts on a text joined of two: its length and its signs. No condition.
-/
import Derived.Test.YtkpjflfhegejpaaBorder
namespace Go.Proofs.Ytkpjflfhegejpaa

theorem size_join (a b : ByteArray) : (a ++ b).size = a.size + b.size := ByteArray.size_append
theorem sg_left (a b : ByteArray) (i : Nat) (h : i < a.size) : sg (a ++ b) i = sg a i := by
  rw [sg_eq _ _ (by rw [size_join]; omega), sg_eq _ _ h, ByteArray.getElem_append_left h]
theorem sg_right (a b : ByteArray) (i : Nat) (h : i < b.size) : sg (a ++ b) (a.size + i) = sg b i := by
  rw [sg_eq _ _ (by rw [size_join]; omega), sg_eq _ _ h, ByteArray.getElem_append_right (by omega)]
  congr 1; omega
end Go.Proofs.Ytkpjflfhegejpaa
