/-
  Texts as lists of signs, and a text's rotations as lists. No condition.
-/
import Derived.Test.YtldhcmoecmfigaaStrs
import Derived.Test.YtldhcmoecmfigaaRot
import Derived.Test.YtldhcmoecmfigaaBwt
namespace Go.Proofs.Ytldhcmoecmfigaa

def txt (l : List UInt8) : ByteArray := ⟨l.toArray⟩
theorem bs_txt (l : List UInt8) : bs (txt l) = l := by simp [bs, txt]
theorem txt_bs (s : ByteArray) : txt (bs s) = s := bs_inj (bs_txt _)
theorem txt_size (l : List UInt8) : (txt l).size = l.length := by rw [← bs_len, bs_txt]
theorem wb_app (a b : ByteArray) : bs (a ++ b) = bs a ++ bs b := by simp [bs]
theorem wb_ext (s : ByteArray) (a b : Nat) : bs (s.extract a b) = ((bs s).take b).drop a := by
  unfold bs
  rw [ByteArray.data_extract, Array.toList_extract, List.extract_eq_take_drop, List.drop_take]
theorem bs_turn (s : ByteArray) (i : Nat) : bs (turnS s i) = spin (bs s) i := by
  unfold turnS spin
  rw [wb_app, wb_ext, wb_ext, List.drop_zero, ← bs_len s, List.take_length]
theorem turn_txt (s : ByteArray) (i : Nat) : turnS s i = txt (spin (bs s) i) := bs_inj (by rw [bs_turn, bs_txt])
theorem bs_zero {s : ByteArray} (h : s.size = 0) : bs s = [] := List.length_eq_zero_iff.1 (by rw [bs_len]; exact h)
theorem bs_sg (s : ByteArray) (i : Nat) : (bs s).getD i 0 = sg s i := rfl
end Go.Proofs.Ytldhcmoecmfigaa
