/-
  Plain mathematics, without a program: brackets sign by sign, what is wrong with a text of them; Catalan's numbers by sums; places. No condition.
-/
import Derived.Test.YtlbefiaieehcfaaDoorDyck
import Derived.Test.YtlbefiaieehcfaaDoorBs
namespace Go.Proofs.YtlbefiaieehcfaaDoor

/-- What is wrong with a text, 0 if nothing is. -/
def brS (s : ByteArray) : Int := if 16 < s.size then 4 else brk 0 (bs s)
theorem brS_long {s : ByteArray} (h : 16 < s.size) : brS s = 4 := if_pos h
theorem brS_short {s : ByteArray} (h : s.size ≤ 16) : brS s = brk 0 (bs s) := if_neg (by omega)
theorem brS_zero {s : ByteArray} : brS s = 0 ↔ s.size ≤ 16 ∧ Bl 0 (bs s) := by
  unfold brS
  by_cases h : 16 < s.size
  · rw [if_pos h]
    constructor
    · intro e; cases e
    · intro e; omega
  · rw [if_neg h, brk_iff]
    exact ⟨fun e => ⟨by omega, e⟩, fun e => e.2⟩
/-- The first i signs are fine, and o brackets stand open. -/
structure BrTo (s : ByteArray) (i o : Nat) : Prop where
  eq : brk 0 (bs s) = brk o ((bs s).drop i)
  le : o ≤ i
theorem brTo_start (s : ByteArray) : BrTo s 0 0 := ⟨rfl, Nat.le_refl _⟩
theorem drop_one {s : ByteArray} {i : Nat} (h : i < s.size) : (bs s).drop i = sg s i :: (bs s).drop (i + 1) := by
  rw [List.drop_eq_getElem_cons (by rw [bs_len]; exact h), ← bs_sg, List.getD_eq_getElem?_getD, List.getElem?_eq_getElem (by rw [bs_len]; exact h)]
  rfl
theorem brTo_op {s : ByteArray} {i o : Nat} (h : BrTo s i o) (hi : i < s.size) (hc : sg s i = 40) : BrTo s (i + 1) (o + 1) := by
  refine ⟨?_, by have := h.le; omega⟩
  rw [h.eq, drop_one hi, brk, if_pos hc]
theorem brTo_cl {s : ByteArray} {i o : Nat} (h : BrTo s i (o + 1)) (hi : i < s.size) (hc : sg s i = 41) : BrTo s (i + 1) o := by
  refine ⟨?_, by have := h.le; omega⟩
  rw [h.eq, drop_one hi, brk, if_neg (by rw [hc]; decide), if_pos hc, if_neg (by omega)]
  rfl
theorem brTo_shut {s : ByteArray} {i : Nat} (h : BrTo s i 0) (hi : i < s.size) (hc : sg s i = 41) : brk 0 (bs s) = 7 := by
  rw [h.eq, drop_one hi, brk, if_neg (by rw [hc]; decide), if_pos hc, if_pos rfl]
theorem brTo_sign {s : ByteArray} {i o : Nat} (h : BrTo s i o) (hi : i < s.size) (h1 : sg s i ≠ 40) (h2 : sg s i ≠ 41) : brk 0 (bs s) = 2 := by
  rw [h.eq, drop_one hi, brk, if_neg h1, if_neg h2]
theorem brTo_end {s : ByteArray} {i o : Nat} (h : BrTo s i o) (hi : s.size ≤ i) : brk 0 (bs s) = if 0 < o then 7 else 0 := by
  rw [h.eq, List.drop_eq_nil_of_le (by rw [bs_len]; exact hi), brk]

/-! ### Catalan's numbers -/
/-- The first i products of the sum for n. -/
def cats (n i : Nat) : Nat := ((List.range i).map fun t => cat t * cat (n - 1 - t)).sum
theorem cats_zero (n : Nat) : cats n 0 = 0 := rfl
theorem cats_succ (n i : Nat) : cats n (i + 1) = cats n i + cat i * cat (n - 1 - i) := by
  unfold cats
  rw [List.range_succ, List.map_append, List.sum_append]
  simp
theorem cats_all : ∀ n, n ≤ 8 → 1 ≤ n → cats n n = cat n := by decide
theorem cat_le : ∀ n, n ≤ 8 → cat n ≤ 1430 := by decide
theorem cats_le : ∀ n, n ≤ 8 → ∀ i, i ≤ n → cats n i ≤ 1430 := by decide
theorem bal_le {n : Nat} (h : n ≤ 8) : bal 0 (2 * n) ≤ 1430 := by rw [bal_cat n h]; exact cat_le n h
theorem ev_some {o l k : Nat} (h : k < bal o l) : ∃ t, (ev o l)[k]? = some t := ⟨_, List.getElem?_eq_getElem h⟩
/-- A text at a place: it is fine, so long, and that is its place. -/
theorem ev_at {n k : Nat} {t : List UInt8} (hn : n ≤ 8) (h : (ev 0 (2 * n))[k]? = some t) : t.length = 2 * n ∧ Bl 0 t ∧ rk 0 t = k ∧ brS (txt t) = 0 ∧ k < bal 0 (2 * n) := by
  have hm : t ∈ ev 0 (2 * n) := List.mem_of_getElem? h
  obtain ⟨h1, h2⟩ := ev_bl (2 * n) 0 (by omega) (by omega) t hm
  refine ⟨h2, h1, ?_, brS_zero.2 ⟨by rw [txt_size]; omega, by rw [bs_txt]; exact h1⟩, (List.getElem?_eq_some_iff.1 h).1⟩
  rw [← h2] at h
  exact (rk_one h1 h).symm
/-- A fine text lies at its place. -/
theorem br_at {s : ByteArray} (h : brS s = 0) : s.size % 2 = 0 ∧ s.size / 2 ≤ 8 ∧ (ev 0 (2 * (s.size / 2)))[rk 0 (bs s)]? = some (bs s) ∧ rk 0 (bs s) < bal 0 (2 * (s.size / 2)) := by
  obtain ⟨h1, h2⟩ := brS_zero.1 h
  have hl := bl_len h2
  rw [bs_len] at hl
  have he : 2 * (s.size / 2) = s.size := by omega
  have hat := rk_at h2
  have hlt := rk_lt h2
  rw [bs_len] at hat hlt
  rw [he]
  exact ⟨by omega, by omega, hat, hlt⟩
theorem bl_three : bal 0 (2 * 3) = 5 := bal_cat 3 (by decide)
theorem ev_two : (ev 0 (2 * 2))[1]? = some [40, 41, 40, 41] := by decide
theorem ev_one : (ev 0 (2 * 1))[0]? = some [40, 41] := by decide
theorem rk_two : rk 0 [40, 41, 40, 41] = 1 := by decide
end Go.Proofs.YtlbefiaieehcfaaDoor
