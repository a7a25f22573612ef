/-
  Plain mathematics, without a program: a number more behind a list: the tops, and what is wrong with it. No condition.
-/
import Derived.Test.YtmfpjbhgmcmceaaRsgood
namespace Go.Proofs.Ytmfpjbhgmcmceaa

theorem tops_app (l : List Int) (x : Int) : tops (l ++ [x]).reverse = pil (tops l.reverse) x := by rw [List.reverse_append]; rfl
theorem pil_last {T : List Int} (hs : T.Pairwise (· < ·)) (x : Int) {m : Nat} (hm : T.length = m + 1) : (T.getD m 0 < x → pil T x = T ++ [x]) ∧ (x ≤ T.getD m 0 → (pil T x).length = T.length) := by
  have hmem : T.getD m 0 ∈ T := by
    rw [List.getD_eq_getElem?_getD, List.getElem?_eq_getElem (by omega)]
    exact List.getElem_mem _
  rcases pil_spec T x with ⟨h1, h2⟩ | ⟨A, t, B, h1, h2, h3, h4⟩
  · refine ⟨fun _ => h1, fun h => ?_⟩
    have := h2 _ hmem
    omega
  · refine ⟨fun h => ?_, fun _ => by rw [h4, h1]; simp⟩
    have ht : t ≤ T.getD m 0 := by
      rw [h1] at hs hm ⊢
      rcases List.eq_nil_or_concat B with rfl | ⟨B', z, rfl⟩
      · have : m = A.length := by simpa using hm.symm
        subst this
        simp
      · have hz : t < z := by
          have := (List.pairwise_append.1 hs).2.1
          exact (List.pairwise_cons.1 this).1 z (by simp)
        have hm2 : m = A.length + 1 + B'.length := by simp at hm; omega
        have e : (A ++ t :: B'.concat z).getD m 0 = z := by
          rw [List.concat_eq_append, show A ++ t :: (B' ++ [z]) = (A ++ t :: B') ++ [z] by simp, hm2, show A.length + 1 + B'.length = (A ++ t :: B').length by simp; omega]
          simp
        rw [e]
        omega
    omega
theorem pil_nil (x : Int) : pil [] x = [x] := rfl
theorem badR_app {l : List Int} {x k : Int} (hg : GoodR l) (h : BadR (l ++ [x]) k) : l.length = 20 ∨ ¬ (0 ≤ x ∧ x ≤ 1000) := by
  by_cases h20 : l.length = 20
  · exact .inl h20
  · refine .inr fun hx => ?_
    have : GoodR (l ++ [x]) := ⟨by rw [List.length_append, List.length_singleton]; have := hg.1; omega, fun z hz => by
      rcases List.mem_append.1 hz with h1 | h1
      · exact hg.2 z h1
      · rw [List.mem_singleton.1 h1]; exact hx⟩
    exact goodR_not this h
theorem tops_none {l : List Int} (h : (tops l.reverse).length = 0) : l = [] := by
  cases e : l.reverse with
  | nil => simpa using e
  | cons z h' =>
    rw [e, tops] at h
    rcases pil_spec (tops h') z with ⟨h1, _⟩ | ⟨A, t, B, h1, _, _, h4⟩
    · rw [h1] at h; simp at h
    · rw [h4] at h; simp at h
end Go.Proofs.Ytmfpjbhgmcmceaa
