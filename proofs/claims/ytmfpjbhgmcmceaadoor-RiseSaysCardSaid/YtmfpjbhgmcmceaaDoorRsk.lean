/-
  Plain mathematics, without a program: a number put into rows, row by row, as a state. No condition.
-/
import Derived.Test.YtmfpjbhgmcmceaaDoorSch
namespace Go.Proofs.YtmfpjbhgmcmceaaDoor

/-- Where a number is put into a row. -/
theorem put_at : ∀ (R : List Int) (x : Int) (k : Nat), k ≤ R.length → (∀ j, j < k → R.getD j 0 ≤ x) → (k < R.length → x < R.getD k 0) → put R x = if k < R.length then (R.set k x, some (R.getD k 0)) else (R ++ [x], none)
  | [], x, k, hk, _, _ => by
    obtain rfl : k = 0 := by simpa using hk
    rfl
  | t :: T, x, 0, _, _, h2 => by
    have : x < t := h2 (by simp)
    rw [put, if_pos (by omega), if_pos (by simp)]
    rfl
  | t :: T, x, k + 1, hk, h1, h2 => by
    have h0 : t ≤ x := h1 0 (by omega)
    rw [put, if_neg (by omega), put_at T x k (by simpa using hk) (fun j hj => h1 (j + 1) (by omega)) (fun h => h2 (by simpa using h))]
    by_cases e : k < T.length
    · rw [if_pos e, if_pos (by simpa using e)]; rfl
    · rw [if_neg e, if_neg (by simpa using e)]; rfl
/-- The number n is to be put into row r of the rows Rs, and T is what comes of it in the end. -/
structure Ins (T : List (List Int)) (S : List Nat) (Rs : List (List Int)) (r : Nat) (n : Int) : Prop where
  eq : T = Rs.take r ++ rsk (Rs.drop r) n
  le : r ≤ Rs.length
  len : Rs.map List.length = S
theorem ins_start (Rs : List (List Int)) (n : Int) : Ins (rsk Rs n) (Rs.map List.length) Rs 0 n := ⟨rfl, Nat.zero_le _, rfl⟩
theorem ins_new {T : List (List Int)} {S : List Nat} {Rs : List (List Int)} {n : Int} (h : Ins T S Rs Rs.length n) : T = Rs ++ [[n]] := by
  have := h.eq
  rwa [List.take_length, List.drop_length] at this
theorem ins_row {Rs : List (List Int)} {r : Nat} (h : r < Rs.length) : Rs.drop r = Rs.getD r [] :: Rs.drop (r + 1) := by
  rw [List.drop_eq_getElem_cons h, List.getD_eq_getElem?_getD, List.getElem?_eq_getElem h]
  rfl
theorem ins_end {T : List (List Int)} {S : List Nat} {Rs : List (List Int)} {r : Nat} {n : Int} (h : Ins T S Rs r n) (hr : r < Rs.length) (hall : ∀ j, j < (Rs.getD r []).length → (Rs.getD r []).getD j 0 ≤ n) :
    T = Rs.set r (Rs.getD r [] ++ [n]) := by
  have e := h.eq
  have hp := put_at (Rs.getD r []) n (Rs.getD r []).length (Nat.le_refl _) hall (fun h => absurd h (Nat.lt_irrefl _))
  rw [if_neg (Nat.lt_irrefl _)] at hp
  rw [ins_row hr, rsk, hp] at e
  rw [e, List.set_eq_take_append_cons_drop, if_pos hr]
theorem ins_next {T : List (List Int)} {S : List Nat} {Rs : List (List Int)} {r k : Nat} {n : Int} (h : Ins T S Rs r n) (hr : r < Rs.length) (hk : k < (Rs.getD r []).length) (hall : ∀ j, j < k → (Rs.getD r []).getD j 0 ≤ n) (hgt : n < (Rs.getD r []).getD k 0) :
    Ins T S (Rs.set r ((Rs.getD r []).set k n)) (r + 1) ((Rs.getD r []).getD k 0) := by
  have e := h.eq
  have hp := put_at (Rs.getD r []) n k (Nat.le_of_lt hk) hall (fun _ => hgt)
  rw [if_pos hk] at hp
  rw [ins_row hr, rsk, hp] at e
  refine ⟨?_, by rw [List.length_set]; exact hr, ?_⟩
  · rw [e]
    have h1 : (Rs.set r ((Rs.getD r []).set k n)).take (r + 1) = Rs.take r ++ [(Rs.getD r []).set k n] := by
      rw [List.take_succ_eq_append_getElem (by rw [List.length_set]; exact hr), List.getElem_set_self, List.take_set_of_le (Nat.le_refl _)]
    have h2 : (Rs.set r ((Rs.getD r []).set k n)).drop (r + 1) = Rs.drop (r + 1) := List.drop_set_of_lt (Nat.lt_succ_self r)
    rw [h1, h2, List.append_assoc]
    rfl
  · rw [List.map_set, List.length_set, ← h.len]
    apply List.ext_getElem?
    intro j
    by_cases ej : j = r
    · subst ej
      simp [hr]
    · rw [List.getElem?_set_ne (Ne.symm ej)]
theorem tab_sum (h : List Int) : ((tab h).map List.length).sum = h.length := (tab_shape _ h (Nat.le_refl _)).1
theorem sum_ge : ∀ (S : List Nat), (∀ x ∈ S, 1 ≤ x) → S.length ≤ S.sum ∧ ∀ x ∈ S, x ≤ S.sum
  | [], _ => ⟨Nat.le_refl _, fun x hx => by cases hx⟩
  | s :: S, h => by
    obtain ⟨h1, h2⟩ := sum_ge S fun x hx => h x (List.mem_cons_of_mem _ hx)
    have h0 := h s (List.mem_cons_self ..)
    refine ⟨by rw [List.length_cons, List.sum_cons]; omega, fun x hx => ?_⟩
    rw [List.sum_cons]
    rcases List.mem_cons.1 hx with rfl | hx
    · omega
    · have := h2 x hx; omega
theorem tab_len (h : List Int) : (tab h).length ≤ h.length ∧ ∀ R ∈ tab h, R.length ≤ h.length ∧ 1 ≤ R.length := by
  obtain ⟨h1, h2, _⟩ := tab_shape _ h (Nat.le_refl _)
  obtain ⟨g1, g2⟩ := sum_ge ((tab h).map List.length) (fun x hx => by obtain ⟨R, hR, rfl⟩ := List.mem_map.1 hx; exact h2 R hR)
  rw [h1] at g1 g2
  rw [List.length_map] at g1
  exact ⟨g1, fun R hR => ⟨g2 _ (List.mem_map_of_mem hR), h2 R hR⟩⟩
end Go.Proofs.YtmfpjbhgmcmceaaDoor
