/-
  Texts as lists of signs. No condition.
-/
import Derived.Test.YtdhklkpeepmedaaDoorBorder
namespace Go.Proofs.YtdhklkpeepmedaaDoor

/-- A text's signs as a list. -/
def bs (s : ByteArray) : List UInt8 := s.data.toList
theorem bs_len (s : ByteArray) : (bs s).length = s.size := by unfold bs; rw [Array.length_toList]; rfl
theorem bs_inj {s t : ByteArray} (h : bs s = bs t) : s = t := ByteArray.ext (Array.toList_inj.1 h)
theorem bs_get (s : ByteArray) (i : Nat) (h : i < s.size) : (bs s)[i]? = some s[i] := by
  have h' : i < s.data.size := h
  unfold bs
  rw [Array.getElem?_toList, Array.getElem?_eq_getElem h']; rfl
theorem bs_take_succ (s : ByteArray) (i : Nat) (h : i < s.size) : (bs s).take (i + 1) = (bs s).take i ++ [s[i]] := by
  rw [List.take_add_one, bs_get s i h]; rfl
def txt (l : List UInt8) : ByteArray := ⟨l.toArray⟩
theorem bs_txt (l : List UInt8) : bs (txt l) = l := by simp [bs, txt]
theorem txt_bs (s : ByteArray) : txt (bs s) = s := bs_inj (bs_txt _)
theorem txt_size (l : List UInt8) : (txt l).size = l.length := by rw [← bs_len, bs_txt]
theorem wb_app (a b : ByteArray) : bs (a ++ b) = bs a ++ bs b := by simp [bs]
theorem wb_ext (s : ByteArray) (a b : Nat) : bs (s.extract a b) = ((bs s).take b).drop a := by
  unfold bs
  rw [ByteArray.data_extract, Array.toList_extract, List.extract_eq_take_drop, List.drop_take]
theorem bs_zero {s : ByteArray} (h : s.size = 0) : bs s = [] := List.length_eq_zero_iff.1 (by rw [bs_len]; exact h)
theorem bs_sg (s : ByteArray) (i : Nat) : (bs s).getD i 0 = sg s i := rfl
end Go.Proofs.YtdhklkpeepmedaaDoor
