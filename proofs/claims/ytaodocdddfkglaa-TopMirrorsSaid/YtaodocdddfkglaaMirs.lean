/-
  Plain mathematics, without a program: palindromes as texts that are their own reversals, and what a text and its reversal have in common. No condition.
-/
import Derived.Test.YtaodocdddfkglaaPal
import Derived.Test.YtaodocdddfkglaaBs
import Derived.Test.YtaodocdddfkglaaLcs
namespace Go.Proofs.Ytaodocdddfkglaa

theorem bs_at {p : ByteArray} {i : Nat} (h : i < (bs p).length) : (bs p)[i] = sg p i := by
  rw [← bs_sg, List.getD_eq_getElem?_getD, List.getElem?_eq_getElem h]
  rfl
theorem pal_list {p : ByteArray} : Pal (sg p) 0 p.size ↔ (bs p).reverse = bs p := by
  have hl := bs_len p
  constructor
  · intro h
    refine List.ext_getElem (by simp) fun i h1 h2 => ?_
    rw [List.getElem_reverse, bs_at, bs_at]
    exact h _ _ (Nat.zero_le _) (by omega) (Nat.zero_le _) (by omega) (by omega)
  · intro h x y _ hx _ hy e
    have h1 : (bs p).reverse[x]? = (bs p)[x]? := by rw [h]
    rw [List.getElem?_reverse (by omega), List.getElem?_eq_getElem (show (bs p).length - 1 - x < (bs p).length by omega), List.getElem?_eq_getElem (show x < (bs p).length by omega)] at h1
    have h2 := Option.some.inj h1
    rw [bs_at, bs_at, show (bs p).length - 1 - x = y by omega] at h2
    exact h2.symm
/-- A palindrome inside a text stands within the text and its reversal. -/
theorem pal_common {s : ByteArray} {a m : Nat} (h : a + m ≤ s.size) (hp : Pal (sg s) a (a + m)) : m ≤ (cmn (bs s) (bs s).reverse).length := by
  have hz : (s.extract a (a + m)).size = m := by rw [ByteArray.size_extract]; omega
  have hpal : Pal (sg (s.extract a (a + m))) 0 (s.extract a (a + m)).size := by
    rw [hz]
    intro x y _ hx _ hy e
    rw [sg_cut s a (a + m) x (by omega) (by omega), sg_cut s a (a + m) y (by omega) (by omega)]
    exact hp _ _ (by omega) (by omega) (by omega) (by omega) (by omega)
  have hr := pal_list.1 hpal
  have hsub : (bs (s.extract a (a + m))).Sublist (bs s) := by rw [wb_ext]; exact within_part _ _ _
  have := cmn_len hsub (by rw [← hr]; exact List.reverse_sublist.2 hsub)
  rw [bs_len, hz] at this
  exact this
theorem mirror_all {s : ByteArray} {a m : Nat} (h : Lgst (sg s) s.size a m) : (bs s).reverse = bs s ↔ m = s.size := by
  obtain ⟨h1, h2, h3, h4⟩ := h
  constructor
  · intro e
    rcases Nat.eq_zero_or_pos s.size with h0 | h0
    · omega
    · have := (h4 0 s.size h0 (Nat.le_refl _) (pal_list.2 e)).1
      omega
  · intro e
    obtain rfl : a = 0 := by omega
    refine pal_list.1 ?_
    rw [← e]
    simpa using h2
theorem mirror_far (s : ByteArray) : far (bs s) (bs s).reverse = 0 ↔ (bs s).reverse = bs s := far_zero.trans eq_comm
theorem mirror_cmn (s : ByteArray) : (cmn (bs s) (bs s).reverse).length = s.size ↔ (bs s).reverse = bs s := by
  rw [← bs_len s, cmn_all]
  constructor
  · intro h
    exact (h.eq_of_length (by simp)).symm
  · intro h; rw [h]; exact List.Sublist.refl _
end Go.Proofs.Ytaodocdddfkglaa
