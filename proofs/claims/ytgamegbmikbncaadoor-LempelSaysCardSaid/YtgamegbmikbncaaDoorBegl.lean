/-
  What letterbeckref1.Begins answers, in words of lists. No condition.
-/
import Derived.Test.YtgamegbmikbncaaDoorStrs
import Derived.Test.YtgamegbmikbncaaDoorBegins
namespace Go.Proofs.YtgamegbmikbncaaDoor
open Go.RowKit

theorem sg_bs (s : ByteArray) (i : Nat) : sg s i = (bs s).getD i 0 := rfl
theorem begB_iff {s t : ByteArray} : begB s t = true ↔ bs t <+: bs s := by
  unfold begB
  rw [ocB_iff]
  constructor
  · rintro ⟨h1, h2⟩
    rw [List.prefix_iff_eq_take]
    apply List.ext_getElem?
    intro j
    rw [List.getElem?_take, bs_len]
    by_cases hj : j < t.size
    · have e := h2 j hj
      rw [sg_bs, sg_bs, Nat.zero_add, List.getD_eq_getElem?_getD, List.getD_eq_getElem?_getD, bs_get t j hj, bs_get s j (by omega)] at e
      rw [if_pos hj, bs_get t j hj, bs_get s j (by omega)]
      simpa using e
    · rw [if_neg hj, List.getElem?_eq_none (by rw [bs_len]; omega)]
  · intro h
    have hl := h.length_le
    rw [bs_len, bs_len] at hl
    obtain ⟨r, hr⟩ := h
    refine ⟨by omega, fun j hj => ?_⟩
    rw [sg_bs, sg_bs, Nat.zero_add, List.getD_eq_getElem?_getD, List.getD_eq_getElem?_getD, ← hr, List.getElem?_append_left (by rw [bs_len]; exact hj)]
theorem begB_no {s t : ByteArray} (h : ¬ bs t <+: bs s) : begB s t = false := by rw [← Bool.not_eq_true, begB_iff]; exact h
end Go.Proofs.YtgamegbmikbncaaDoor
