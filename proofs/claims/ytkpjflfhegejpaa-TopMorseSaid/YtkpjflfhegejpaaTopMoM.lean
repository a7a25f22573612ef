/-
  Plain mathematics, without a program: no run of the Thue-Morse word is longer than two, and no part of it is three times anything. No condition.
-/
import Derived.Test.YtkpjflfhegejpaaThueM
import Derived.Test.YtkpjflfhegejpaaRle
import Derived.Test.YtkpjflfhegejpaaRot
namespace Go.Proofs.Ytkpjflfhegejpaa

theorem runs_two {l : List (UInt8 × Int)} {n : Nat} (hu : unr l = mw n) {i : Nat} (hi : i < l.length) : mnR l i ≤ 2 := by
  by_cases h3 : mnR l i ≤ 2
  · exact h3
  · exfalso
    have e : mw n = unr (l.take i) ++ List.replicate (mnR l i).toNat (sgR l i) ++ unr (l.drop (i + 1)) := by
      rw [← hu, ← unr_take hi, ← unr_app, List.take_append_drop]
    have hlen := congrArg List.length e
    rw [mw_len, List.length_append, List.length_append, List.length_replicate] at hlen
    have at_ : ∀ j, j < 3 → (mw n).getD ((unr (l.take i)).length + j) 0 = sgR l i := fun j hj => by
      rw [e, List.getD_eq_getElem?_getD, List.append_assoc, List.getElem?_append_right (by omega), List.getElem?_append_left (by rw [List.length_replicate]; omega), List.getElem?_replicate, if_pos (by omega)]
      rfl
    have h0 := at_ 0 (by omega)
    have h1 := at_ 1 (by omega)
    have h2 := at_ 2 (by omega)
    generalize (unr (l.take i)).length = p at h0 h1 h2 hlen
    exact tm_three p ⟨(mw_same (n := n) (by omega) (by omega)).1 (h0.trans h1.symm), (mw_same (n := n) (by omega) (by omega)).1 (h1.trans h2.symm)⟩
theorem root_few {n a b r : Nat} {t : ByteArray} (ht : t = (txt (mw n)).extract a b) (h0 : 0 < t.size) (hr : Rt (cy t) t.size r) : 1 ≤ r ∧ r ≤ t.size ∧ t.size / r < 3 := by
  have h1 := rt_pos h0 hr
  have h2 := rt_le (cy_pr t) hr
  refine ⟨h1, h2, ?_⟩
  rcases Nat.lt_or_ge (t.size / r) 3 with h | h
  · exact h
  · exfalso
    have h3 : 3 * r ≤ t.size := by
      have := (Nat.le_div_iff_mul_le h1).1 h
      omega
    have hp := rt_pr h0 hr
    have hs : ∀ x, x + r < t.size → sg t (x + r) = sg t x := fun x hx => by
      rw [← cy_at t (x + r) hx, hp x, cy_at t x (by omega)]
    have hbs : bs t = ((mw n).take b).drop a := by rw [ht, wb_ext, bs_txt]
    refine mw_over n a b 0 r ?_
    rw [← hbs, sq_true]
    refine ⟨h1, by omega, fun j hj => ?_, ?_⟩
    · rw [bs_sg, bs_sg, Nat.zero_add, hs j (by omega)]
    · rw [Nat.zero_add, show 2 * r = r + r by omega, hs r (by omega)]
      have := hs 0 (by omega)
      rwa [Nat.zero_add] at this
end Go.Proofs.Ytkpjflfhegejpaa
