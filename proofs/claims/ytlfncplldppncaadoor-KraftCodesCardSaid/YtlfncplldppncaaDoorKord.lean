/-
  Plain mathematics, without a program: an order of places by lengths, what is taken ahead of each of them, and the bits of a number by their places. No condition.
-/
import Derived.Test.YtlfncplldppncaaDoorCode
namespace Go.Proofs.YtlfncplldppncaaDoor

/-- An order of all places: the shorter ones first, of equal ones the earlier one. -/
def LOrd (E o : List Nat) : Prop := o.Perm (List.range E.length) ∧ o.Pairwise fun a b => E.getD a 0 < E.getD b 0 ∨ (E.getD a 0 = E.getD b 0 ∧ a < b)
/-- The room of those in a list. -/
def tkn (E l : List Nat) : Nat := (l.map fun j => 2 ^ (12 - E.getD j 0)).sum
theorem tkn_perm {E l m : List Nat} (h : l.Perm m) : tkn E l = tkn E m := (h.map _).sum_nat
theorem tkn_snoc (E l : List Nat) (j : Nat) : tkn E (l ++ [j]) = tkn E l + 2 ^ (12 - E.getD j 0) := by simp [tkn]
theorem usd_tkn (E : List Nat) (n i : Nat) : ∀ k, usdTo E n i k = tkn E ((List.range k).filter (bef E n i)) := by
  intro k
  induction k with
  | zero => rfl
  | succ k ih =>
    rw [usdTo, ih, List.range_succ, List.filter_append]
    by_cases e : bef E n i k = true
    · rw [if_pos e, List.filter_cons_of_pos (by simpa using e), List.filter_nil, tkn_snoc]
    · rw [if_neg e, List.filter_cons_of_neg (by simpa using e), List.filter_nil, List.append_nil]; rfl
theorem ord_len {E o : List Nat} (h : LOrd E o) : o.length = E.length := by rw [h.1.length_eq, List.length_range]
theorem ord_lt {E o : List Nat} (h : LOrd E o) {t : Nat} (ht : t < o.length) : o.getD t 0 < E.length := by
  rw [List.getD_eq_getElem?_getD, List.getElem?_eq_getElem ht]
  exact List.mem_range.1 (h.1.mem_iff.1 (List.getElem_mem ht))
theorem ord_nodup {E o : List Nat} (h : LOrd E o) : o.Nodup := h.1.nodup_iff.2 List.nodup_range
/-- Those ahead of a place in the order are those that come ahead of it. -/
theorem ord_ahead {E o : List Nat} (h : LOrd E o) {t : Nat} (ht : t < o.length) : o.filter (bef E (E.getD (o.getD t 0) 0) (o.getD t 0)) = o.take t := by
  have hp := List.pairwise_iff_getElem.1 h.2
  have e1 : o.getD t 0 = o[t] := by simp [ht]
  rw [e1]
  have hs : o = o.take t ++ o[t] :: o.drop (t + 1) := by rw [List.getElem_cons_drop, List.take_append_drop]
  have hf : o.filter (bef E (E.getD o[t] 0) o[t]) = (o.take t ++ o[t] :: o.drop (t + 1)).filter (bef E (E.getD o[t] 0) o[t]) := congrArg _ hs
  rw [hf, List.filter_append, List.filter_eq_self.2 ?_, List.filter_eq_nil_iff.2 ?_, List.append_nil]
  · intro x hx
    rw [bef_iff]
    rcases List.mem_cons.1 hx with rfl | hx
    · omega
    · obtain ⟨j, hj, rfl⟩ := List.getElem_of_mem hx
      rw [List.length_drop] at hj
      rw [List.getElem_drop]
      have := hp t (t + 1 + j) ht (by omega) (by omega)
      omega
  · intro x hx
    rw [bef_iff]
    obtain ⟨j, hj, rfl⟩ := List.getElem_of_mem hx
    rw [List.length_take] at hj
    rw [List.getElem_take]
    exact hp j t (by omega) ht (by omega)
/-- What is taken ahead of a place in the order is what those ahead of it use. -/
theorem ord_ahd {E o : List Nat} (h : LOrd E o) {t : Nat} (ht : t < o.length) : tkn E (o.take t) = ahd E (o.getD t 0) := by
  unfold ahd usd
  rw [usd_tkn, ← tkn_perm (h.1.filter _), ord_ahead h ht]
theorem ord_next {E o : List Nat} {t : Nat} (ht : t < o.length) : tkn E (o.take (t + 1)) = tkn E (o.take t) + 2 ^ (12 - E.getD (o.getD t 0) 0) := by
  rw [List.take_succ_eq_append_getElem ht, tkn_snoc]
  simp [ht]
/-- A bit of a number, by its place. -/
theorem bits_at (n : Nat) : ∀ (k i : Nat), i < n → (bitsL n k).getD i 0 = if (k / 2 ^ (n - 1 - i)) % 2 = 1 then 49 else 48 := by
  induction n with
  | zero => intro k i h; omega
  | succ n ih =>
    intro k i h
    rw [bitsL]
    by_cases e : i = n
    · subst e
      rw [List.getD_eq_getElem?_getD, List.getElem?_append_right (by rw [bits_len]; exact Nat.le_refl _), bits_len]
      simp
    · have hi : i < n := by omega
      rw [List.getD_eq_getElem?_getD, List.getElem?_append_left (by rw [bits_len]; exact hi), ← List.getD_eq_getElem?_getD, ih _ _ hi, Nat.div_div_eq_div_mul, show n + 1 - 1 - i = (n - 1 - i) + 1 by omega, Nat.pow_succ, Nat.mul_comm 2]
end Go.Proofs.YtlfncplldppncaaDoor
