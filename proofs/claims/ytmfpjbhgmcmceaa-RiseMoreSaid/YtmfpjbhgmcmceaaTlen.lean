/-
  Plain mathematics, without a program: there are at most as many piles as numbers (cut out of XRpil). No condition.
-/
import Derived.Test.YtmfpjbhgmcmceaaSch
namespace Go.Proofs.Ytmfpjbhgmcmceaa

theorem tops_len (h : List Int) : (tops h).length ≤ h.length := by
  induction h with
  | nil => exact Nat.le_refl _
  | cons x h ih =>
    rw [tops, List.length_cons]
    rcases pil_spec (tops h) x with ⟨h1, _⟩ | ⟨A, t, B, h1, _, _, h4⟩
    · rw [h1, List.length_append, List.length_singleton]; omega
    · rw [h4]
      rw [h1] at ih
      simp at ih ⊢
      omega
end Go.Proofs.Ytmfpjbhgmcmceaa
