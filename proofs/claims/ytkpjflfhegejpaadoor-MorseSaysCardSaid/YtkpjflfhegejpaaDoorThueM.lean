/-
  Plain mathematics, without a program: the Thue-Morse word place by place, twice as long and half; what stands twice, place by place; closed facts. No condition.
-/
import Derived.Test.YtkpjflfhegejpaaDoorThue
import Derived.Test.YtkpjflfhegejpaaDoorBs
namespace Go.Proofs.YtkpjflfhegejpaaDoor

theorem mw_even {n i : Nat} (h : i < n) : (mw (2 * n)).getD (2 * i) 0 = (mw n).getD i 0 := by
  rw [mw_at (by omega), mw_at h, tm_even]
theorem mw_odd {n i : Nat} (h : i < n) : (mw (2 * n)).getD (2 * i + 1) 0 ≠ (mw n).getD i 0 ∧ ((mw (2 * n)).getD (2 * i + 1) 0 = 48 ∨ (mw (2 * n)).getD (2 * i + 1) 0 = 49) := by
  rw [mw_at (by omega), mw_at h, tm_odd]
  cases tm i <;> decide
theorem mw_pre {n m i : Nat} (h : i < n) (hm : n ≤ m) : (mw m).getD i 0 = (mw n).getD i 0 := by rw [mw_at (by omega), mw_at h]
theorem mw_pow {m i : Nat} (h : i < 2 ^ m) : (mw (2 * 2 ^ m)).getD (2 ^ m + i) 0 ≠ (mw (2 ^ m)).getD i 0 := by
  rw [mw_at (by omega), mw_at h, tm_pow m i h]
  cases tm i <;> decide
theorem mw_snoc (n : Nat) : mw (n + 1) = mw n ++ [if tm n then 49 else 48] := by
  unfold mw
  rw [List.range_succ, List.map_append]
  rfl
theorem txt_mw_size (n : Nat) : (txt (mw n)).size = n := by rw [txt_size, mw_len]
theorem sg_mw (n i : Nat) : sg (txt (mw n)) i = (mw n).getD i 0 := by rw [← bs_sg, bs_txt]

instance (s : List UInt8) (more : Bool) (i k : Nat) : Decidable (Sq s more i k) := by unfold Sq; exact inferInstance
/-- The first place by trying all of them. -/
theorem fsq_by {s : List UInt8} {more : Bool} {i k : Nat} (h : Sq s more i k) (n : Nat) (hn : s.length ≤ n) (h1 : ∀ i', i' < n + 1 → ∀ k', k' < n + 1 → Sq s more i' k' → i < i' ∨ (i = i' ∧ k ≤ k')) : FSq s more i k :=
  .some h fun i' k' h' => by
    have h2 := h'.2.1
    have h3 := h'.1
    exact h1 i' (by omega) k' (by omega) h'
theorem fsq_abcbc : FSq [97, 98, 99, 98, 99] false 1 2 := fsq_by (i := 1) (k := 2) (by decide) 5 (by decide) (by decide)
theorem fsq_ababa : FSq [97, 98, 97, 98, 97] true 0 2 := fsq_by (i := 0) (k := 2) (by decide) 5 (by decide) (by decide)
theorem mw_eight : mw 8 = [48, 49, 49, 48, 49, 48, 48, 49] := by
  have h1 : tm 1 = true := by rw [show (1 : Nat) = 2 * 0 + 1 from rfl, tm_odd, tm_zero]; rfl
  have h2 : tm 2 = true := by rw [show (2 : Nat) = 2 * 1 from rfl, tm_even, h1]
  have h3 : tm 3 = false := by rw [show (3 : Nat) = 2 * 1 + 1 from rfl, tm_odd, h1]; rfl
  have h4 : tm 4 = true := by rw [show (4 : Nat) = 2 * 2 from rfl, tm_even, h2]
  have h5 : tm 5 = false := by rw [show (5 : Nat) = 2 * 2 + 1 from rfl, tm_odd, h2]; rfl
  have h6 : tm 6 = false := by rw [show (6 : Nat) = 2 * 3 from rfl, tm_even, h3]
  have h7 : tm 7 = true := by rw [show (7 : Nat) = 2 * 3 + 1 from rfl, tm_odd, h3]; rfl
  rw [mw_snoc, mw_snoc, mw_snoc, mw_snoc, mw_snoc, mw_snoc, mw_snoc, mw_snoc, h1, h2, h3, h4, h5, h6, h7, tm_zero]
  rfl
theorem mw_three : mw 3 = [48, 49, 49] := by
  have h1 : tm 1 = true := by rw [show (1 : Nat) = 2 * 0 + 1 from rfl, tm_odd, tm_zero]; rfl
  have h2 : tm 2 = true := by rw [show (2 : Nat) = 2 * 1 from rfl, tm_even, h1]
  rw [mw_snoc, mw_snoc, mw_snoc, h1, h2, tm_zero]
  rfl

/-- What has been tried: all places ahead of i, and at i all lengths ahead of k. -/
def NoSq (s : List UInt8) (more : Bool) (i k : Nat) : Prop := ∀ i' k', Sq s more i' k' → i < i' ∨ (i = i' ∧ k ≤ k')
theorem noSq_start (s : List UInt8) (more : Bool) : NoSq s more 0 1 := fun i' k' h => by have := h.1; omega
theorem noSq_next {s : List UInt8} {more : Bool} {i k : Nat} (h : NoSq s more i k) (hn : ¬ Sq s more i k) : NoSq s more i (k + 1) := fun i' k' h' => by
  rcases h i' k' h' with h1 | ⟨rfl, h2⟩
  · exact .inl h1
  · refine .inr ⟨rfl, ?_⟩
    rcases Nat.lt_or_ge k k' with h3 | h3
    · exact h3
    · obtain rfl : k = k' := by omega
      exact absurd h' hn
theorem noSq_place {s : List UInt8} {more : Bool} {i k : Nat} (h : NoSq s more i k) (hk : s.length < i + 2 * k) : NoSq s more (i + 1) 1 := fun i' k' h' => by
  have h3 := h'.1
  have h4 := h'.2.1
  rcases h i' k' h' with h1 | ⟨rfl, h2⟩
  · omega
  · omega
theorem noSq_none {s : List UInt8} {more : Bool} {i : Nat} (h : NoSq s more i 1) (hi : s.length ≤ i) : FSq s more (-1) 0 := .none fun i' k' h' => by
  have h3 := h'.1
  have h4 := h'.2.1
  rcases h i' k' h' with h1 | ⟨rfl, h2⟩ <;> omega
theorem noSq_some {s : List UInt8} {more : Bool} {i k : Nat} (h : NoSq s more i k) (hs : Sq s more i k) : FSq s more i k := .some hs h
/-- Two parts of a text are the same, place by place. -/
theorem part_same (s : ByteArray) (i k : Nat) (h : i + 2 * k ≤ s.size) : (s.extract i (i + k) = s.extract (i + k) (i + 2 * k)) ↔ ∀ j, j < k → (bs s).getD (i + j) 0 = (bs s).getD (i + j + k) 0 := by
  constructor
  · intro e j hj
    have h1 := sg_cut s i (i + k) j (by omega) (by omega)
    have h2 := sg_cut s (i + k) (i + 2 * k) j h (by omega)
    rw [e, h2] at h1
    rw [bs_sg, bs_sg, ← h1]
    congr 1
    omega
  · intro hall
    refine bs_inj (List.ext_getElem? fun j => ?_)
    have l1 : (bs (s.extract i (i + k))).length = k := by rw [bs_len, ByteArray.size_extract]; omega
    have l2 : (bs (s.extract (i + k) (i + 2 * k))).length = k := by rw [bs_len, ByteArray.size_extract]; omega
    by_cases hj : j < k
    · rw [List.getElem?_eq_getElem (by omega), List.getElem?_eq_getElem (by omega)]
      congr 1
      have e1 := bs_sg (s.extract i (i + k)) j
      have e2 := bs_sg (s.extract (i + k) (i + 2 * k)) j
      rw [List.getD_eq_getElem?_getD, List.getElem?_eq_getElem (by omega), Option.getD_some] at e1 e2
      rw [e1, e2, sg_cut s i (i + k) j (by omega) (by omega), sg_cut s (i + k) (i + 2 * k) j h (by omega), ← bs_sg, ← bs_sg, hall j hj]
      congr 1
      omega
    · rw [List.getElem?_eq_none (by omega), List.getElem?_eq_none (by omega)]
theorem sq_false (s : ByteArray) (i k : Nat) : Sq (bs s) false i k ↔ 1 ≤ k ∧ i + 2 * k ≤ s.size ∧ ∀ j, j < k → (bs s).getD (i + j) 0 = (bs s).getD (i + j + k) 0 := by
  unfold Sq
  rw [bs_len]
  simp
theorem sq_true (s : ByteArray) (i k : Nat) : Sq (bs s) true i k ↔ 1 ≤ k ∧ i + 2 * k < s.size ∧ (∀ j, j < k → (bs s).getD (i + j) 0 = (bs s).getD (i + j + k) 0) ∧ sg s (i + 2 * k) = sg s i := by
  unfold Sq
  rw [bs_len]
  simp only [if_true]
  constructor
  · rintro ⟨h1, h2, h3⟩
    refine ⟨h1, by omega, fun j hj => h3 j (by omega), ?_⟩
    have := h3 k (by omega)
    rw [← bs_sg s i, ← bs_sg s (i + 2 * k), show i + 2 * k = i + k + k by omega, ← this]
    have h0 := h3 0 (by omega)
    rw [Nat.add_zero] at h0
    exact h0.symm
  · rintro ⟨h1, h2, h3, h4⟩
    refine ⟨h1, by omega, fun j hj => ?_⟩
    rcases (by omega : j < k ∨ j = k) with h | rfl
    · exact h3 j h
    · rw [← bs_sg s i, ← bs_sg s (i + 2 * j)] at h4
      have h0 := h3 0 (by omega)
      rw [Nat.add_zero] at h0
      rw [show i + j + j = i + 2 * j by omega, h4, h0]
end Go.Proofs.YtkpjflfhegejpaaDoor
