/-
  Plain mathematics, without a program: how many ends there are with so many brackets to open and to close; the place of a text and the text at a place, sign by sign. No condition.
-/
import Derived.Test.YtlbefiaieehcfaaDoorEvM
import Derived.Test.YtlbefiaieehcfaaDoorDyckM
namespace Go.Proofs.YtlbefiaieehcfaaDoor

/-- How many ends there are with a brackets to open and c to close. -/
def enN (a : Int) (c : Nat) : Nat := if a < 0 ∨ (c : Int) < a then 0 else bal (c - a.toNat) (a.toNat + c)
theorem enN_no {a : Int} {c : Nat} (h : a < 0 ∨ (c : Int) < a) : enN a c = 0 := if_pos h
theorem enN_at {a c : Nat} (h : a ≤ c) : enN (a : Int) c = bal (c - a) (a + c) := by
  unfold enN
  rw [if_neg (by omega), Int.toNat_natCast]
theorem enN_zero : enN 0 0 = 1 := rfl
theorem enN_all (n : Nat) : enN (n : Int) n = bal 0 (2 * n) := by rw [enN_at (Nat.le_refl _), Nat.sub_self, show n + n = 2 * n by omega]
theorem enN_succ {a c : Nat} (h : a ≤ c + 1) : enN (a : Int) (c + 1) = enN ((a : Int) - 1) (c + 1) + enN (a : Int) c := by
  rw [enN_at h, show a + (c + 1) = a + c + 1 from rfl, bal_succ]
  rcases a with _ | b
  · rw [if_neg (by omega), if_pos (by omega), enN_no (a := ((0 : Nat) : Int) - 1) (.inl (by omega)), enN_at (Nat.zero_le _)]
    rfl
  · rw [if_pos (by omega), show (((b + 1 : Nat) : Int) - 1) = (b : Int) by omega, enN_at (by omega), show c + 1 - (b + 1) + 1 = c + 1 - b by omega, show b + 1 + c = b + (c + 1) by omega]
    congr 1
    by_cases e : b + 1 ≤ c
    · rw [if_pos (by omega), enN_at e, show c + 1 - (b + 1) - 1 = c - (b + 1) by omega, show b + 1 + c = b + (c + 1) by omega]
    · rw [if_neg (by omega), enN_no (.inr (by omega))]
theorem enN_le {a : Int} {c : Nat} (h : c ≤ 8) : enN a c ≤ 65536 := by
  unfold enN
  split
  · exact Nat.zero_le _
  · exact Nat.le_trans (bal_pow _ _) (pow_16 (by omega))
/-- The beginnings' part of a step: with one bracket more open. -/
theorem enN_open {a c l : Nat} (hac : a ≤ c) (hl : a + c = l + 1) : (if c - a < l + 1 then bal (c - a + 1) l else 0) = enN ((a : Int) - 1) c := by
  rcases a with _ | b
  · rw [if_neg (by omega), enN_no (.inl (by omega))]
  · rw [if_pos (by omega), show (((b + 1 : Nat) : Int) - 1) = (b : Int) by omega, enN_at (by omega), show c - (b + 1) + 1 = c - b by omega, show l = b + c by omega]

/-! ### The place of a text -/
/-- Behind i signs, a are to open, c to close, and p texts came ahead. -/
structure PlTo (s : ByteArray) (i a c p : Nat) : Prop where
  len : a + c + i = s.size
  le : a ≤ c
  bl : Bl (c - a) ((bs s).drop i)
  rk : p + rk (c - a) ((bs s).drop i) = rk 0 (bs s)
theorem drop_len {s : ByteArray} {i : Nat} : ((bs s).drop i).length = s.size - i := by rw [List.length_drop, bs_len]
theorem plTo_start {s : ByteArray} (h : brS s = 0) : PlTo s 0 (s.size / 2) (s.size / 2) 0 := by
  obtain ⟨h1, h2⟩ := brS_zero.1 h
  have hl := bl_len h2
  rw [bs_len] at hl
  exact ⟨by omega, Nat.le_refl _, by rw [Nat.sub_self]; exact h2, by rw [Nat.sub_self, Nat.zero_add]; rfl⟩
theorem plTo_op {s : ByteArray} {i a c p : Nat} (h : PlTo s i a c p) (hi : i < s.size) (hc : sg s i = 40) : ∃ b, a = b + 1 ∧ PlTo s (i + 1) b c p := by
  obtain ⟨h1, h2, h3, h4⟩ := h
  rw [drop_one hi, hc] at h3 h4
  have hb : Bl (c - a + 1) ((bs s).drop (i + 1)) := by
    generalize c - a = o at h3 ⊢
    cases h3 with
    | op k => exact k
  have hl := (bl_len hb).1
  rw [drop_len] at hl
  obtain ⟨b, rfl⟩ : ∃ b, a = b + 1 := ⟨a - 1, by omega⟩
  rw [Go.Proofs.YtlbefiaieehcfaaDoor.rk, if_pos rfl] at h4
  rw [show c - (b + 1) + 1 = c - b by omega] at hb h4
  exact ⟨b, rfl, by omega, by omega, hb, h4⟩
theorem plTo_cl {s : ByteArray} {i a c p : Nat} (h : PlTo s i a c p) (hi : i < s.size) (hc : sg s i ≠ 40) : ∃ d, c = d + 1 ∧ a ≤ d ∧ PlTo s (i + 1) a d (p + enN ((a : Int) - 1) c) := by
  obtain ⟨h1, h2, h3, h4⟩ := h
  rw [drop_one hi] at h3 h4
  have hb : 0 < c - a ∧ Bl (c - a - 1) ((bs s).drop (i + 1)) := by
    generalize c - a = o at h3 ⊢
    generalize hx : sg s i = x at h3 hc
    cases h3 with
    | op _ => exact absurd rfl hc
    | cl k => exact ⟨by omega, k⟩
  obtain ⟨d, rfl⟩ : ∃ d, c = d + 1 := ⟨c - 1, by omega⟩
  rw [Go.Proofs.YtlbefiaieehcfaaDoor.rk, if_neg hc, enN_open h2 (by rw [drop_len]; omega)] at h4
  rw [show d + 1 - a - 1 = d - a by omega] at hb h4
  exact ⟨d, rfl, by omega, by omega, by omega, hb.2, by omega⟩
theorem plTo_end {s : ByteArray} {i a c p : Nat} (h : PlTo s i a c p) (hi : s.size ≤ i) : p = rk 0 (bs s) := by
  obtain ⟨h1, h2, h3, h4⟩ := h
  rw [List.drop_eq_nil_of_le (by rw [bs_len]; exact hi)] at h4
  exact h4
theorem plTo_le {s : ByteArray} {i a c p : Nat} (hs : brS s = 0) (h : PlTo s i a c p) : p ≤ 65536 := by
  obtain ⟨h1, h2⟩ := brS_zero.1 hs
  have h3 := rk_lt h2
  have h4 := bal_pow (bs s).length 0
  have h5 := pow_16 (l := (bs s).length) (by rw [bs_len]; exact h1)
  have := h.rk
  omega

/-! ### The text at a place -/
/-- Behind i signs, a are to open, c to close, and the rest has place k. -/
structure AtTo (t : List UInt8) (i a c k : Nat) : Prop where
  len : a + c + i = t.length
  le : a ≤ c
  at_ : (ev (c - a) (a + c))[k]? = some (t.drop i)
theorem atTo_start {n k : Nat} {t : List UInt8} (hn : n ≤ 8) (h : (ev 0 (2 * n))[k]? = some t) : AtTo t 0 n n k :=
  ⟨by have := (ev_at hn h).1; omega, Nat.le_refl _, by rw [Nat.sub_self, show n + n = 2 * n by omega]; exact h⟩
theorem atTo_lt {t : List UInt8} {i a c k : Nat} (h : AtTo t i a c k) : k < bal (c - a) (a + c) := (List.getElem?_eq_some_iff.1 h.at_).1
theorem atTo_le {t : List UInt8} {i a c k : Nat} (h : AtTo t i a c k) (hc : c ≤ 8) : k ≤ 65536 := by
  have h1 := atTo_lt h
  have h2 := bal_pow (a + c) (c - a)
  have h3 := pow_16 (l := a + c) (by have := h.le; omega)
  omega
theorem drop_cons {t : List UInt8} {i : Nat} (h : i < t.length) : t.drop i = t.getD i 0 :: t.drop (i + 1) := by
  rw [List.drop_eq_getElem_cons h, List.getD_eq_getElem?_getD, List.getElem?_eq_getElem h]
  rfl
theorem atTo_op {t : List UInt8} {i a c k : Nat} (h : AtTo t i a c k) (hk : k < enN ((a : Int) - 1) c) : ∃ b, a = b + 1 ∧ i < t.length ∧ t.getD i 0 = 40 ∧ AtTo t (i + 1) b c k := by
  obtain ⟨h1, h2, h3⟩ := h
  obtain ⟨b, rfl⟩ : ∃ b, a = b + 1 := by
    rcases a with _ | b
    · rw [enN_no (.inl (by omega))] at hk; omega
    · exact ⟨b, rfl⟩
  have hi : i < t.length := by omega
  rw [show (((b + 1 : Nat) : Int) - 1) = (b : Int) by omega, enN_at (by omega)] at hk
  rw [drop_cons hi, show b + 1 + c = b + c + 1 by omega, ev, if_pos (by omega), List.getElem?_append_left (by rw [List.length_map, show c - (b + 1) + 1 = c - b by omega]; exact hk), List.getElem?_map, show c - (b + 1) + 1 = c - b by omega] at h3
  cases he : (ev (c - b) (b + c))[k]? with
  | none => rw [he] at h3; cases h3
  | some u =>
    rw [he] at h3
    have h4 := Option.some.inj h3
    have h5 := List.cons.inj h4
    exact ⟨b, rfl, hi, h5.1.symm, by omega, by omega, by rw [he, h5.2]⟩
theorem atTo_cl {t : List UInt8} {i a c k : Nat} (h : AtTo t i a c k) (hi : i < t.length) (hk : enN ((a : Int) - 1) c ≤ k) : ∃ d, c = d + 1 ∧ a ≤ d ∧ t.getD i 0 = 41 ∧ AtTo t (i + 1) a d (k - enN ((a : Int) - 1) c) := by
  obtain ⟨h1, h2, h3⟩ := h
  obtain ⟨d, rfl⟩ : ∃ d, c = d + 1 := ⟨c - 1, by omega⟩
  have hlen : ∀ l, a + (d + 1) = l + 1 → (if d + 1 - a < l + 1 then (ev (d + 1 - a + 1) l).map (40 :: ·) else []).length = enN ((a : Int) - 1) (d + 1) := by
    intro l hl
    rw [← enN_open h2 hl]
    split
    · rw [List.length_map]; rfl
    · rfl
  rw [drop_cons hi, show a + (d + 1) = a + d + 1 by omega, ev, List.getElem?_append_right (by rw [hlen (a + d) (by omega)]; exact hk), hlen (a + d) (by omega)] at h3
  by_cases e : 0 < d + 1 - a
  · rw [if_pos e, List.getElem?_map, show d + 1 - a - 1 = d - a by omega] at h3
    cases he : (ev (d - a) (a + d))[k - enN ((a : Int) - 1) (d + 1)]? with
    | none => rw [he] at h3; cases h3
    | some u =>
      rw [he] at h3
      have h5 := List.cons.inj (Option.some.inj h3)
      exact ⟨d, rfl, by omega, h5.1.symm, by omega, by omega, by rw [he, h5.2]⟩
  · rw [if_neg e] at h3
    simp at h3
end Go.Proofs.YtlbefiaieehcfaaDoor
