/-
  Plain mathematics, without a program: the shape's sum, its first number, how many numbers it has, and that they do not rise (Schensted). No condition.
-/
import Derived.Test.YtmfpjbhgmcmceaaRsgood
import Derived.Test.YtmfpjbhgmcmceaaRsk
namespace Go.Proofs.Ytmfpjbhgmcmceaa

theorem shp_len (l : List Int) : (shp l).length = (tab l.reverse).length := by unfold shp; rw [List.length_map]
theorem cast_sum : ∀ (T : List (List Int)), (T.map fun R => (R.length : Int)).sum = (((T.map List.length).sum : Nat) : Int)
  | [] => rfl
  | R :: T => by
    rw [List.map_cons, List.map_cons, List.sum_cons, List.sum_cons, cast_sum T]
    push_cast
    rfl
theorem shp_sum (l : List Int) : (shp l).sum = (l.length : Int) := by
  unfold shp
  rw [cast_sum, tab_sum, List.length_reverse]
theorem shp_rows {l : List Int} (hg : GoodR l) : (shp l).length = lg ltB l := by
  rw [shp_len, tab_rows _ l.reverse (Nat.le_refl _) (fun z hz => ((goodR_rev hg).2 z hz).1), lg_rev trs_gt trs_lt (fun _ _ => rfl)]
theorem shp_at (l : List Int) {i : Nat} (h : i < (shp l).length) : (shp l).getD i 0 = (((tab l.reverse).getD i []).length : Int) := by
  rw [shp_len] at h
  unfold shp
  simp [h]
theorem shp_first {l : List Int} (hg : GoodR l) (h0 : 0 < l.length) : 0 < (shp l).length ∧ (shp l).getD 0 0 = ((lg geB l : Nat) : Int) := by
  have hr := goodR_rev hg
  have hlr : lg leB l.reverse = lg geB l := lg_rev trs_le trs_ge (fun _ _ => rfl) l
  have hlong := row_long (h := l.reverse) fun z hz => (hr.2 z hz).2
  cases e : l.reverse with
  | nil =>
    have := congrArg List.length e
    rw [List.length_reverse, List.length_nil] at this
    omega
  | cons x h =>
    have ht := tab_eq x h
    have hl : 0 < (shp l).length := by rw [shp_len, e, ht]; simp
    refine ⟨hl, ?_⟩
    rw [shp_at l hl, e, ht, ← hlr, ← hlong, e]
    rfl
theorem shp_fall {l : List Int} {i : Nat} (h : i + 1 < (shp l).length) : (shp l).getD (i + 1) 0 ≤ (shp l).getD i 0 ∧ 1 ≤ (shp l).getD (i + 1) 0 := by
  obtain ⟨_, h2, h3⟩ := tab_shape _ l.reverse (Nat.le_refl _)
  have h' := h
  rw [shp_len] at h'
  rw [shp_at l h, shp_at l (by omega)]
  have e1 := h3 i h'
  have e2 := h2 ((tab l.reverse).getD (i + 1) []) (by rw [List.getD_eq_getElem?_getD, List.getElem?_eq_getElem h']; exact List.getElem_mem _)
  omega
theorem shp_mem {l : List Int} (hg : GoodR l) : ∀ x ∈ shp l, 0 ≤ x ∧ x ≤ 1000 := by
  intro x hx
  unfold shp at hx
  obtain ⟨R, hR, rfl⟩ := List.mem_map.1 hx
  have := ((tab_len l.reverse).2 R hR).1
  rw [List.length_reverse] at this
  have := hg.1
  omega
theorem shp_le {l : List Int} (hg : GoodR l) : (shp l).length ≤ 20 := by
  have := (tab_len l.reverse).1
  rw [List.length_reverse] at this
  rw [shp_len]
  have := hg.1
  omega
theorem drop_rev {l : List Int} {p : Nat} (h : p < l.length) : (l.drop p).reverse = (l.drop (p + 1)).reverse ++ [l.getD p 0] := by
  rw [List.drop_eq_getElem_cons h, List.reverse_cons]
  simp [h]
end Go.Proofs.Ytmfpjbhgmcmceaa
