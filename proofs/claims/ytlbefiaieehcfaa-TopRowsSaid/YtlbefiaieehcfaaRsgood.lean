/-
  Plain mathematics, without a program: lists that may be sorted into piles and rows, and what is wrong with others; their chains' lengths. No condition.
-/
import Derived.Test.YtlbefiaieehcfaaSch
namespace Go.Proofs.Ytlbefiaieehcfaa

def GoodR (l : List Int) : Prop := l.length ≤ 20 ∧ ∀ x ∈ l, 0 ≤ x ∧ x ≤ 1000
def BadR (l : List Int) (k : Int) : Prop := (20 < l.length ∧ k = 4) ∨ (l.length ≤ 20 ∧ k = 1 ∧ ∃ i, i < l.length ∧ ¬ (0 ≤ l.getD i 0 ∧ l.getD i 0 ≤ 1000))
theorem goodR_at {l : List Int} (h : GoodR l) {i : Nat} (hi : i < l.length) : 0 ≤ l.getD i 0 ∧ l.getD i 0 ≤ 1000 := by
  refine h.2 _ ?_
  rw [List.getD_eq_getElem?_getD, List.getElem?_eq_getElem hi]
  exact List.getElem_mem hi
theorem badR_one {l : List Int} {k k' : Int} (h : BadR l k) (h' : BadR l k') : k = k' := by
  rcases h with ⟨h1, h2⟩ | ⟨h1, h2, _⟩ <;> rcases h' with ⟨g1, g2⟩ | ⟨g1, g2, _⟩ <;> omega
theorem goodR_not {l : List Int} {k : Int} (h : GoodR l) (h' : BadR l k) : False := by
  rcases h' with ⟨h1, _⟩ | ⟨_, _, i, hi, h2⟩
  · have := h.1; omega
  · exact h2 (goodR_at h hi)
theorem goodR_of {l : List Int} (h1 : l.length ≤ 20) (h : ∀ i, i < l.length → 0 ≤ l.getD i 0 ∧ l.getD i 0 ≤ 1000) : GoodR l := ⟨h1, fun x hx => by
  obtain ⟨i, hi, e⟩ := List.getElem_of_mem hx
  have := h i hi
  rw [List.getD_eq_getElem?_getD, List.getElem?_eq_getElem hi, Option.getD_some, e] at this
  exact this⟩
theorem badR_or (l : List Int) : GoodR l ∨ ∃ k, BadR l k := by
  by_cases h1 : 20 < l.length
  · exact .inr ⟨4, .inl ⟨h1, rfl⟩⟩
  · by_cases h2 : ∃ i, i < l.length ∧ ¬ (0 ≤ l.getD i 0 ∧ l.getD i 0 ≤ 1000)
    · exact .inr ⟨1, .inr ⟨by omega, rfl, h2⟩⟩
    · refine .inl (goodR_of (by omega) fun i hi => ?_)
      by_cases e : 0 ≤ l.getD i 0 ∧ l.getD i 0 ≤ 1000
      · exact e
      · exact absurd ⟨i, hi, e⟩ h2
theorem goodR_rev {l : List Int} (h : GoodR l) : GoodR l.reverse := ⟨by rw [List.length_reverse]; exact h.1, fun x hx => h.2 x (List.mem_reverse.1 hx)⟩
theorem rise_le {l : List Int} (P : Int → Int → Bool) : lg P l.reverse ≤ l.length := by
  have := lg_le P l.reverse
  rwa [List.length_reverse] at this
theorem erdos_list {l : List Int} (h : GoodR l) : l.length ≤ lg ltB l.reverse * lg geB l.reverse := by
  have := erdos (h := l.reverse) (fun z hz => ((goodR_rev h).2 z hz).2)
  rwa [List.length_reverse] at this
theorem piles_list {l : List Int} (h : GoodR l) : (tops l.reverse).length = lg ltB l.reverse := tops_long fun z hz => ((goodR_rev h).2 z hz).2
/-- The shape. -/
def shp (l : List Int) : List Int := (tab l.reverse).map fun r => (r.length : Int)
theorem lg_312 : lg ltB ([3, 1, 2] : List Int).reverse = 2 ∧ lg geB ([3, 1, 2] : List Int).reverse = 2 ∧ shp [3, 1, 2] = [2, 1] := by decide
end Go.Proofs.Ytlbefiaieehcfaa
