/-
  What letterbeckref1.Alike answers, in words of lists: how many signs two texts begin with alike. No condition.
-/
import Derived.Test.YtdkbgikniacekaaDoorStrs
import Derived.Test.YtdkbgikniacekaaDoorAl
import Derived.Test.YtdkbgikniacekaaDoorBefore
namespace Go.Proofs.YtdkbgikniacekaaDoor

theorem lc_le1 (x : List UInt8) : ∀ y, lc x y ≤ x.length := by
  induction x with
  | nil => intro y; simp [lc]
  | cons a x ih => intro y; cases y with
    | nil => simp [lc]
    | cons b y => unfold lc; split; have := ih y; simp; omega; omega
theorem lc_same (x : List UInt8) : ∀ (y : List UInt8) (j : Nat), j < lc x y → x[j]? = y[j]? := by
  induction x with
  | nil => intro y j h; simp [lc] at h
  | cons a x ih =>
    intro y j h
    cases y with
    | nil => simp [lc] at h
    | cons b y =>
      unfold lc at h
      split at h
      · rename_i e
        cases j with
        | zero => simp [e]
        | succ j => simpa using ih y j (by omega)
      · omega
theorem lc_stop (x : List UInt8) : ∀ y : List UInt8, lc x y < x.length → lc x y < y.length → x[lc x y]? ≠ y[lc x y]? := by
  induction x with
  | nil => intro y h; simp at h
  | cons a x ih =>
    intro y h1 h2
    cases y with
    | nil => simp at h2
    | cons b y =>
      unfold lc at h1 h2 ⊢
      split
      · rename_i e
        rw [if_pos e] at h1 h2
        simpa using ih y (by simpa using h1) (by simpa using h2)
      · rename_i e
        simpa using e
theorem alikeN_lc (a b : ByteArray) : alikeN a b = lc (bs a) (bs b) := by
  have h1 := lc_le1 (bs a) (bs b)
  have h2 := lc_le (bs a) (bs b)
  rw [bs_len] at h1 h2
  refine al_eq (by omega) (fun j hj => ?_) (fun hlt => ?_)
  · rw [sg_bs, sg_bs, List.getD_eq_getElem?_getD, List.getD_eq_getElem?_getD, lc_same _ _ _ hj]
  · have := lc_stop (bs a) (bs b) (by rw [bs_len]; omega) (by rw [bs_len]; omega)
    rw [sg_bs, sg_bs, List.getD_eq_getElem?_getD, List.getD_eq_getElem?_getD]
    rw [bs_get a _ (by omega), bs_get b _ (by omega)] at this ⊢
    simpa using this
end Go.Proofs.YtdkbgikniacekaaDoor
