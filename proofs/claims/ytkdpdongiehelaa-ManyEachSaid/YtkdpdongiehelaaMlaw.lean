/-
  Plain mathematics of the laws on many words: the hits of one word are where it is found alone; without the last word the other hits stay. No condition.
-/
import Derived.Test.YtkdpdongiehelaaMany
import Derived.Test.YtkdpdongiehelaaBegl
namespace Go.Proofs.Ytkdpdongiehelaa

/-- The hits of word k. -/
def ownL (l : List (Nat × Nat)) (k : Nat) : List Int := (l.filter fun x => decide (x.2 = k)).map fun x => ((x.1 : Nat) : Int)
theorem ownL_append (l m : List (Nat × Nat)) (k : Nat) : ownL (l ++ m) k = ownL l k ++ ownL m k := by simp [ownL]
theorem ownL_yes {l : List (Nat × Nat)} {j k : Nat} (hj : j < l.length) (h : (l.getD j (0, 0)).2 = k) : ownL (l.take (j + 1)) k = ownL (l.take j) k ++ [((l.getD j (0, 0)).1 : Int)] := by
  rw [List.take_succ_eq_append_getElem hj, ownL_append]
  simp [List.getD_eq_getElem?_getD, hj] at h ⊢
  simp [ownL, h]
theorem ownL_no {l : List (Nat × Nat)} {j k : Nat} (hj : j < l.length) (h : (l.getD j (0, 0)).2 ≠ k) : ownL (l.take (j + 1)) k = ownL (l.take j) k := by
  rw [List.take_succ_eq_append_getElem hj, ownL_append]
  simp [List.getD_eq_getElem?_getD, hj] at h
  simp [ownL, h]
theorem ownL_len (l : List (Nat × Nat)) (k : Nat) : (ownL l k).length ≤ l.length := by unfold ownL; rw [List.length_map]; exact List.length_filter_le _ _
theorem own_hitB (ws : List ByteArray) (t : List UInt8) (i k m : Nat) : ownL (hitB ws t i m) k = if k < m ∧ bs (wat ws k) <+: t.drop i then [(i : Int)] else [] := by
  induction m with
  | zero => simp [hitB, ownL]
  | succ m ih =>
    rw [hitB_succ, ownL_append, ih]
    by_cases e : k = m
    · subst e
      by_cases hp : bs (wat ws k) <+: t.drop i <;> simp [hp, ownL]
    · have e' : m ≠ k := fun h => e h.symm
      have h1 : (k < m + 1 ∧ bs (wat ws k) <+: t.drop i) ↔ (k < m ∧ bs (wat ws k) <+: t.drop i) := by
        constructor
        · rintro ⟨h1, h2⟩; exact ⟨by omega, h2⟩
        · rintro ⟨h1, h2⟩; exact ⟨by omega, h2⟩
      by_cases hp : bs (wat ws m) <+: t.drop i <;> simp [hp, ownL, e', h1]
theorem oc_pre {t u : ByteArray} {i : Nat} (hi : i ≤ t.size) : Oc (sg t) (sg u) t.size u.size i ↔ bs u <+: (bs t).drop i := by
  have e : bs (t.extract i t.size) = (bs t).drop i := by rw [bs_cut, List.take_of_length_le (by rw [bs_len]; exact Nat.le_refl _)]
  rw [← ocB_iff, ← beg_cut t u i hi, begB_iff, e]
theorem own_hitL (ws : List ByteArray) (t : ByteArray) (k : Nat) (hk : k < ws.length) (n : Nat) (hn : n ≤ t.size) : ownL (hitL ws (bs t) n) k = occTo (sg t) (sg (wat ws k)) t.size (wat ws k).size n := by
  induction n with
  | zero => rfl
  | succ n ih =>
    rw [hitL_succ, ownL_append, ih (by omega), own_hitB]
    by_cases hp : bs (wat ws k) <+: (bs t).drop n
    · rw [if_pos ⟨hk, hp⟩, occTo_yes ((oc_pre (by omega)).2 hp)]
    · rw [if_neg (fun h => hp h.2), occTo_no (fun h => hp ((oc_pre (by omega)).1 h)), List.append_nil]
/-- Many at once are found as each alone is. -/
theorem own_all (ws : List ByteArray) (t : ByteArray) (k : Nat) (hk : k < ws.length) : ownL (hitsL ws t) k = occL t (wat ws k) := by
  unfold hitsL
  rw [bs_len]
  exact own_hitL ws t k hk t.size (Nat.le_refl _)

/-- The hits of all words but word k. -/
def othL (l : List (Nat × Nat)) (k : Nat) : List (Nat × Nat) := l.filter fun x => decide (x.2 ≠ k)
theorem othL_append (l m : List (Nat × Nat)) (k : Nat) : othL (l ++ m) k = othL l k ++ othL m k := by simp [othL]
theorem othL_yes {l : List (Nat × Nat)} {j k : Nat} (hj : j < l.length) (h : (l.getD j (0, 0)).2 ≠ k) : othL (l.take (j + 1)) k = othL (l.take j) k ++ [l.getD j (0, 0)] := by
  rw [List.take_succ_eq_append_getElem hj, othL_append]
  simp [List.getD_eq_getElem?_getD, hj] at h ⊢
  simp [othL, h]
theorem othL_no {l : List (Nat × Nat)} {j k : Nat} (hj : j < l.length) (h : (l.getD j (0, 0)).2 = k) : othL (l.take (j + 1)) k = othL (l.take j) k := by
  rw [List.take_succ_eq_append_getElem hj, othL_append]
  simp [List.getD_eq_getElem?_getD, hj] at h
  simp [othL, h]
theorem othL_len (l : List (Nat × Nat)) (k : Nat) : (othL l k).length ≤ l.length := List.length_filter_le _ _
theorem wat_take {ws : List ByteArray} {m k : Nat} (h : k < m) : wat (ws.take m) k = wat ws k := by simp [wat, List.getD_eq_getElem?_getD, h]
theorem hitB_take (ws : List ByteArray) (t : List UInt8) (i M : Nat) : ∀ m, m ≤ M → hitB (ws.take M) t i m = hitB ws t i m := by
  intro m
  induction m with
  | zero => intro _; rfl
  | succ m ih => intro hm; rw [hitB_succ, hitB_succ, ih (by omega), wat_take (by omega)]
theorem oth_hitB (ws : List ByteArray) (t : List UInt8) (i m : Nat) : othL (hitB ws t i (m + 1)) m = hitB ws t i m := by
  rw [hitB_succ, othL_append]
  have h1 : othL (hitB ws t i m) m = hitB ws t i m := by
    unfold othL
    rw [List.filter_eq_self]
    intro x hx
    have := (hitB_mem.1 hx).2.1
    simp; omega
  rw [h1]
  by_cases hp : bs (wat ws m) <+: t.drop i <;> simp [hp, othL]
theorem oth_all (ws : List ByteArray) (t : ByteArray) (m : Nat) (hm : ws.length = m + 1) : hitsL (ws.take m) t = othL (hitsL ws t) m := by
  unfold hitsL
  have hl : (ws.take m).length = m := by rw [List.length_take]; omega
  have : ∀ n, hitL (ws.take m) (bs t) n = othL (hitL ws (bs t) n) m := by
    intro n
    induction n with
    | zero => rfl
    | succ n ih => rw [hitL_succ, hitL_succ, othL_append, ih, hl, hm, oth_hitB, hitB_take _ _ _ _ _ (Nat.le_refl _)]
  exact this _
theorem fine_take {ws : List ByteArray} (hf : Fine ws) (m : Nat) : Fine (ws.take m) := by
  have hl := List.length_take (i := m) (l := ws)
  refine ⟨by have := hf.1; omega, fun j hj => ?_⟩
  have h := hf.2 j (by omega)
  rw [wat_take (by omega)]
  exact ⟨h.1, h.2.1, fun q hq => by rw [wat_take (by omega)]; exact h.2.2 q hq⟩
theorem IsStrs.take {w : World} {B n : Nat} {A : Option Addr} {ws : List ByteArray} (h : IsStrs w B A n ws) {m : Nat} (hm : m ≤ n) : IsStrs w B A m (ws.take m) := by
  refine ⟨by rw [List.length_take, h.1]; omega, fun h0 => ?_⟩
  obtain ⟨g, off, e, hg, hc⟩ := h.2 (by omega)
  refine ⟨g, off, e, hg, fun j hj => ?_⟩
  rw [hc j (by omega)]
  have := wat_take (ws := ws) hj
  unfold wat at this
  rw [this]
theorem hitsL_len {ws : List ByteArray} {t : ByteArray} (hf : Fine ws) (ht : t.size ≤ 24) : (hitsL ws t).length ≤ 200 := by
  unfold hitsL
  have h1 := hitL_len ws (bs t) (bs t).length
  have h2 : (bs t).length * ws.length ≤ 24 * 6 := Nat.mul_le_mul (by rw [bs_len]; exact ht) hf.1
  omega
theorem hitsL_word {ws : List ByteArray} {t : ByteArray} {j : Nat} (hj : j < (hitsL ws t).length) : ((hitsL ws t).getD j (0, 0)).2 < ws.length := by
  have : (hitsL ws t).getD j (0, 0) ∈ hitsL ws t := by simp [List.getD_eq_getElem?_getD, hj]
  exact (hitL_mem.1 this).2.1
end Go.Proofs.Ytkdpdongiehelaa
