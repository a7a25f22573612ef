/-
  Plain mathematics, without a program: the word of Thue and Morse: by halves, by powers of two, and that nothing stands in it twice with its first sign once more; the first place where something stands twice in a text. No condition.
-/
namespace Go.Proofs.Ytkpjflfhegejpaa

/-- Has a number an odd number of ones? -/
def tm (n : Nat) : Bool := if _h : n = 0 then false else (n % 2 == 1) != tm (n / 2)
termination_by n
decreasing_by omega
theorem tm_zero : tm 0 = false := by rw [tm]; rfl
theorem tm_even (n : Nat) : tm (2 * n) = tm n := by
  rw [tm]
  by_cases h : n = 0
  · subst h; simp [tm_zero]
  · rw [dif_neg (by omega), show 2 * n / 2 = n by omega, show 2 * n % 2 = 0 by omega]
    cases tm n <;> rfl
theorem tm_odd (n : Nat) : tm (2 * n + 1) = !tm n := by
  rw [tm, dif_neg (by omega), show (2 * n + 1) / 2 = n by omega, show (2 * n + 1) % 2 = 1 by omega]
  cases tm n <;> rfl
theorem tm_step {n : Nat} (h : n ≠ 0) : tm n = ((n % 2 == 1) != tm (n / 2)) := by conv => lhs; rw [tm, dif_neg h]
/-- Behind a power of two its contrary. -/
theorem tm_pow (m : Nat) : ∀ i, i < 2 ^ m → tm (2 ^ m + i) = !tm i := by
  induction m with
  | zero =>
    intro i hi
    obtain rfl : i = 0 := by simpa using hi
    have := tm_odd 0
    simpa using this
  | succ m ih =>
    intro i hi
    rw [Nat.pow_succ] at hi ⊢
    rcases Nat.mod_two_eq_zero_or_one i with h | h
    · obtain ⟨j, rfl⟩ : ∃ j, i = 2 * j := ⟨i / 2, by omega⟩
      rw [show 2 ^ m * 2 + 2 * j = 2 * (2 ^ m + j) by omega, tm_even, tm_even, ih j (by omega)]
    · obtain ⟨j, rfl⟩ : ∃ j, i = 2 * j + 1 := ⟨i / 2, by omega⟩
      rw [show 2 ^ m * 2 + (2 * j + 1) = 2 * (2 ^ m + j) + 1 by omega, tm_odd, tm_odd, ih j (by omega)]
/-- Two neighbours that are the same: the first one stands at an odd place. -/
theorem tm_pair {p : Nat} (h : tm p = tm (p + 1)) : p % 2 = 1 := by
  rcases Nat.mod_two_eq_zero_or_one p with h2 | h2
  · obtain ⟨j, rfl⟩ : ∃ j, p = 2 * j := ⟨p / 2, by omega⟩
    rw [tm_even, tm_odd] at h
    cases hh : tm j <;> rw [hh] at h <;> cases h
  · exact h2
theorem tm_three (p : Nat) : ¬ (tm p = tm (p + 1) ∧ tm (p + 1) = tm (p + 2)) := fun ⟨h1, h2⟩ => by
  have := tm_pair h1
  have := tm_pair h2
  omega
/-- Of five neighbours two are the same. -/
theorem tm_five (p : Nat) : ∃ q, p ≤ q ∧ q < p + 4 ∧ tm q = tm (q + 1) := by
  refine Classical.byContradiction fun hn => ?_
  have no : ∀ q, p ≤ q → q < p + 4 → tm (q + 1) = !tm q := fun q h1 h2 => by
    have h3 : ¬ tm q = tm (q + 1) := fun e => hn ⟨q, h1, h2, e⟩
    cases ha : tm q <;> cases hb : tm (q + 1) <;> rw [ha, hb] at h3 <;> first | rfl | exact absurd rfl h3
  have e1 := no p (by omega) (by omega)
  have e2 := no (p + 1) (by omega) (by omega)
  have e3 := no (p + 2) (by omega) (by omega)
  have e4 := no (p + 3) (by omega) (by omega)
  have f1 : tm (p + 2) = tm p := by rw [e2, e1, Bool.not_not]
  have f2 : tm (p + 4) = tm (p + 2) := by rw [e4, e3, Bool.not_not]
  rcases Nat.mod_two_eq_zero_or_one p with h | h
  · obtain ⟨j, rfl⟩ : ∃ j, p = 2 * j := ⟨p / 2, by omega⟩
    rw [show 2 * j + 2 = 2 * (j + 1) by omega, tm_even, tm_even] at f1
    rw [show 2 * j + 4 = 2 * (j + 2) by omega, show 2 * j + 2 = 2 * (j + 1) by omega, tm_even, tm_even] at f2
    exact tm_three j ⟨f1.symm, f2.symm⟩
  · obtain ⟨j, rfl⟩ : ∃ j, p = 2 * j + 1 := ⟨p / 2, by omega⟩
    rw [show 2 * j + 1 + 2 = 2 * (j + 1) + 1 by omega, tm_odd, tm_odd] at f1
    rw [show 2 * j + 1 + 4 = 2 * (j + 2) + 1 by omega, show 2 * j + 1 + 2 = 2 * (j + 1) + 1 by omega, tm_odd, tm_odd] at f2
    exact tm_three j ⟨(Bool.not_inj f1).symm, (Bool.not_inj f2).symm⟩
/-- THUE: nothing stands twice and begins once more. -/
theorem thue (n : Nat) : ∀ k i, k ≤ n → 1 ≤ k → ¬ ∀ j, j ≤ k → tm (i + j) = tm (i + j + k) := by
  induction n with
  | zero => intro k i h1 h2; omega
  | succ n ih =>
    intro k i hk h1 h
    rcases Nat.mod_two_eq_zero_or_one k with h2 | h2
    · obtain ⟨m, rfl⟩ : ∃ m, k = 2 * m := ⟨k / 2, by omega⟩
      rcases Nat.mod_two_eq_zero_or_one i with hi | hi
      · obtain ⟨a, rfl⟩ : ∃ a, i = 2 * a := ⟨i / 2, by omega⟩
        refine ih m a (by omega) (by omega) fun j hj => ?_
        have := h (2 * j) (by omega)
        rwa [show 2 * a + 2 * j = 2 * (a + j) by omega, show 2 * (a + j) + 2 * m = 2 * (a + j + m) by omega, tm_even, tm_even] at this
      · obtain ⟨a, rfl⟩ : ∃ a, i = 2 * a + 1 := ⟨i / 2, by omega⟩
        refine ih m a (by omega) (by omega) fun j hj => ?_
        have := h (2 * j) (by omega)
        rw [show 2 * a + 1 + 2 * j = 2 * (a + j) + 1 by omega, show 2 * (a + j) + 1 + 2 * m = 2 * (a + j + m) + 1 by omega, tm_odd, tm_odd] at this
        exact Bool.not_inj this
    · have pair : ∀ q, i ≤ q → q + 1 ≤ i + k → tm q ≠ tm (q + 1) := fun q hq1 hq2 e => by
        have h3 := h (q - i) (by omega)
        have h4 := h (q + 1 - i) (by omega)
        rw [show i + (q - i) = q by omega] at h3
        rw [show i + (q + 1 - i) = q + 1 by omega] at h4
        rw [h3, h4, show q + 1 + k = q + k + 1 by omega] at e
        have h5 := tm_pair e
        have h6 := tm_pair (p := q) (by rw [h3, h4, e, show q + 1 + k = q + k + 1 by omega])
        omega
      by_cases hk5 : 4 ≤ k
      · obtain ⟨q, hq1, hq2, e⟩ := tm_five i
        exact pair q hq1 (by omega) e
      · have no : ∀ q, i ≤ q → q + 1 ≤ i + k → tm (q + 1) = !tm q := fun q hq1 hq2 => by
          have h3 := pair q hq1 hq2
          cases ha : tm q <;> cases hb : tm (q + 1) <;> rw [ha, hb] at h3 <;> first | rfl | exact absurd rfl h3
        have h0 := h 0 (by omega)
        rw [Nat.add_zero] at h0
        have hk3 : k = 1 ∨ k = 3 := by omega
        rcases hk3 with rfl | rfl
        · exact pair i (by omega) (by omega) h0
        · have e1 := no i (by omega) (by omega)
          have e2 := no (i + 1) (by omega) (by omega)
          have e3 := no (i + 2) (by omega) (by omega)
          rw [show i + 2 + 1 = i + 3 by omega, show i + 2 = i + 1 + 1 by omega, e2, e1] at e3
          rw [e3] at h0
          cases hh : tm i <;> rw [hh] at h0 <;> cases h0

/-! ### Where something stands twice -/
/-- At place i something of k signs stands twice (and begins once more). -/
def Sq (s : List UInt8) (more : Bool) (i k : Nat) : Prop := 1 ≤ k ∧ i + 2 * k + (if more then 1 else 0) ≤ s.length ∧ ∀ j, j < k + (if more then 1 else 0) → s.getD (i + j) 0 = s.getD (i + j + k) 0
/-- The first place, and the shortest there; or none. -/
inductive FSq (s : List UInt8) (more : Bool) : Int → Int → Prop
  | none (h : ∀ i k, ¬ Sq s more i k) : FSq s more (-1) 0
  | some {i k : Nat} (h : Sq s more i k) (h1 : ∀ i' k', Sq s more i' k' → i < i' ∨ (i = i' ∧ k ≤ k')) : FSq s more i k
theorem fsq_one {s : List UInt8} {more : Bool} {a b a' b' : Int} (h : FSq s more a b) (h' : FSq s more a' b') : a = a' ∧ b = b' := by
  cases h with
  | none h => cases h' with
    | none _ => exact ⟨rfl, rfl⟩
    | some h2 _ => exact absurd h2 (h _ _)
  | some h h1 => cases h' with
    | none h2 => exact absurd h (h2 _ _)
    | some h2 h3 =>
      have e1 := h1 _ _ h2
      have e2 := h3 _ _ h
      omega
/-- What begins once more stands twice. -/
theorem sq_less {s : List UInt8} {i k : Nat} (h : Sq s true i k) : Sq s false i k := ⟨h.1, by have := h.2.1; simp at this ⊢; omega, fun j hj => h.2.2 j (by simp at hj ⊢; omega)⟩
theorem fsq_less {s : List UInt8} {a b c d : Int} (h : FSq s false a b) (h' : FSq s true c d) : 0 ≤ c → 0 ≤ a ∧ a ≤ c := by
  intro hc
  cases h' with
  | none _ => omega
  | some h2 _ =>
    cases h with
    | none h => exact absurd (sq_less h2) (h _ _)
    | some h h1 =>
      have := h1 _ _ (sq_less h2)
      omega
/-- The word's signs. -/
def mw (n : Nat) : List UInt8 := (List.range n).map fun i => if tm i then 49 else 48
theorem mw_len (n : Nat) : (mw n).length = n := by simp [mw]
theorem mw_at {n i : Nat} (h : i < n) : (mw n).getD i 0 = if tm i then 49 else 48 := by simp [mw, h]
theorem mw_same {n i j : Nat} (hi : i < n) (hj : j < n) : (mw n).getD i 0 = (mw n).getD j 0 ↔ tm i = tm j := by
  rw [mw_at hi, mw_at hj]
  cases tm i <;> cases tm j <;> decide
/-- No part of the word has something twice that begins once more. -/
theorem mw_over (n a b : Nat) (i k : Nat) : ¬ Sq (((mw n).take b).drop a) true i k := fun h => by
  obtain ⟨h1, h2, h3⟩ := h
  simp only [if_true] at h2 h3
  rw [List.length_drop, List.length_take, mw_len] at h2
  refine thue k k (a + i) (Nat.le_refl _) h1 fun j hj => ?_
  have h4 := h3 j (by omega)
  have at_ : ∀ p, a + p < n → a + p < b → (((mw n).take b).drop a).getD p 0 = (mw n).getD (a + p) 0 := fun p hp hpb => by
    rw [List.getD_eq_getElem?_getD, List.getElem?_drop, List.getElem?_take, if_pos hpb, ← List.getD_eq_getElem?_getD]
  rw [at_ _ (by omega) (by omega), at_ _ (by omega) (by omega), mw_same (by omega) (by omega)] at h4
  rw [show a + i + j = a + (i + j) by omega, show a + (i + j) + k = a + (i + j + k) by omega]
  exact h4
end Go.Proofs.Ytkpjflfhegejpaa
