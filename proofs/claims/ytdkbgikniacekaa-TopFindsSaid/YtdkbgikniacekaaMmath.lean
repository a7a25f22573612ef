/-
  Plain mathematics of many words in a text, without a program: which words a text ends with, the hits by their ends and by their beginnings, the greedy cutting of a text. No condition.
-/
import Derived.Test.YtdkbgikniacekaaStrs
namespace Go.Proofs.Ytdkbgikniacekaa

/-- p is a beginning of a word, and not the empty one. -/
def IsPre (ws : List ByteArray) (p : List UInt8) : Prop := p ≠ [] ∧ ∃ k, k < ws.length ∧ p <+: bs (wat ws k)
/-- The places of the words with which p ends. -/
def endN (ws : List ByteArray) (p : List UInt8) (n : Nat) : List Nat := (List.range n).filter fun k => decide (bs (wat ws k) <:+ p)
def endI (ws : List ByteArray) (p : List UInt8) (n : Nat) : List Int := (endN ws p n).map Int.ofNat
theorem endN_succ (ws : List ByteArray) (p : List UInt8) (n : Nat) : endN ws p (n + 1) = endN ws p n ++ (if bs (wat ws n) <:+ p then [n] else []) := by
  unfold endN
  rw [List.range_succ, List.filter_append]
  by_cases h : bs (wat ws n) <:+ p <;> simp [h]
theorem endI_yes {ws : List ByteArray} {p : List UInt8} {n : Nat} (h : bs (wat ws n) <:+ p) : endI ws p (n + 1) = endI ws p n ++ [(n : Int)] := by
  unfold endI; rw [endN_succ, if_pos h]; simp
theorem endI_no {ws : List ByteArray} {p : List UInt8} {n : Nat} (h : ¬ bs (wat ws n) <:+ p) : endI ws p (n + 1) = endI ws p n := by
  unfold endI; rw [endN_succ, if_neg h]; simp
theorem endN_len (ws : List ByteArray) (p : List UInt8) (n : Nat) : (endN ws p n).length ≤ n := by
  unfold endN; have := List.length_filter_le (fun k => decide (bs (wat ws k) <:+ p)) (List.range n); simpa using this
theorem endI_len (ws : List ByteArray) (p : List UInt8) (n : Nat) : (endI ws p n).length ≤ n := by
  unfold endI; rw [List.length_map]; exact endN_len ws p n
theorem endN_mem {ws : List ByteArray} {p : List UInt8} {n k : Nat} : k ∈ endN ws p n ↔ k < n ∧ bs (wat ws k) <:+ p := by simp [endN]
theorem endI_getD (ws : List ByteArray) (p : List UInt8) (n j : Nat) (h : j < (endI ws p n).length) : (endI ws p n).getD j 0 = ((endN ws p n).getD j 0 : Nat) := by
  have h' : j < (endN ws p n).length := by simpa [endI] using h
  simp [endI, List.getD_eq_getElem?_getD, h']
theorem endN_get (ws : List ByteArray) (p : List UInt8) (n j : Nat) (h : j < (endN ws p n).length) : (endN ws p n).getD j 0 < n ∧ bs (wat ws ((endN ws p n).getD j 0)) <:+ p := by
  have : (endN ws p n).getD j 0 ∈ endN ws p n := by simp [List.getD_eq_getElem?_getD, h]
  exact endN_mem.1 this
theorem pos_bs {ws : List ByteArray} (hf : Fine ws) {k : Nat} (hk : k < ws.length) : bs (wat ws k) ≠ [] := by
  intro e
  have := (hf.2 k hk).2.1
  rw [← bs_len, e] at this
  simp at this
theorem endN_nil {ws : List ByteArray} (hf : Fine ws) : endN ws [] ws.length = [] := by
  rw [List.eq_nil_iff_forall_not_mem]
  intro k hk
  obtain ⟨h1, h2⟩ := endN_mem.1 hk
  exact pos_bs hf h1 (List.suffix_nil.1 h2)

/-! ### The search's state: nothing that begins further left is a beginning of a word -/
def Clear (ws : List ByteArray) (t : List UInt8) (i b : Nat) : Prop := b ≤ i ∧ ∀ j, j < b → ¬ IsPre ws ((t.take i).drop j)
theorem clear_start (ws : List ByteArray) (t : List UInt8) : Clear ws t 0 0 := ⟨Nat.le_refl _, fun _ h => by omega⟩
theorem clear_next {ws : List ByteArray} {t : List UInt8} {i b : Nat} (h : Clear ws t i b) (hi : i < t.length) : ∀ j, j < b → ¬ IsPre ws ((t.take (i + 1)).drop j) := by
  rintro j hj ⟨_, k, hk, hp⟩
  have hb := h.1
  refine h.2 j hj ⟨?_, k, hk, List.IsPrefix.trans ?_ hp⟩
  · intro e
    have := congrArg List.length e
    rw [List.length_drop, List.length_take, List.length_nil] at this
    omega
  · rw [List.drop_take, List.drop_take]
    exact List.take_prefix_take_left (by omega)
theorem clear_more {ws : List ByteArray} {t : List UInt8} {i b : Nat} (h : ∀ j, j < b → ¬ IsPre ws ((t.take (i + 1)).drop j)) (hn : ¬ IsPre ws ((t.take (i + 1)).drop b)) : ∀ j, j < b + 1 → ¬ IsPre ws ((t.take (i + 1)).drop j) := by
  intro j hj
  by_cases e : j = b
  · subst e; exact hn
  · exact h j (by omega)
/-- Then the words with which the text so far ends are those with which the state ends. -/
theorem clear_ends {ws : List ByteArray} (hf : Fine ws) {t : List UInt8} {i b : Nat} (hi : i < t.length) (hb : b ≤ i + 1) (h : ∀ j, j < b → ¬ IsPre ws ((t.take (i + 1)).drop j)) :
    endN ws ((t.take (i + 1)).drop b) ws.length = endN ws (t.take (i + 1)) ws.length := by
  unfold endN
  apply List.filter_congr
  intro k hk
  have hk' : k < ws.length := by simpa using hk
  rw [Bool.eq_iff_iff]
  simp only [decide_eq_true_eq]
  constructor
  · intro hs; exact hs.trans (List.drop_suffix _ _)
  · intro hs
    have hl := hs.length_le
    have e := List.suffix_iff_eq_drop.1 hs
    have hlen : (t.take (i + 1)).length = i + 1 := by rw [List.length_take]; omega
    rw [hlen] at e hl
    have hbk : b ≤ i + 1 - (bs (wat ws k)).length := by
      rcases Nat.lt_or_ge (i + 1 - (bs (wat ws k)).length) b with h1 | h1
      · exact absurd ⟨by rw [← e]; exact pos_bs hf hk', k, hk', by rw [← e]; exact List.prefix_refl _⟩ (h _ h1)
      · exact h1
    refine List.suffix_of_suffix_length_le hs (List.drop_suffix _ _) ?_
    rw [List.length_drop, hlen]; omega

/-! ### The hits -/
/-- The hits of the words that end at place i + 1. -/
def hitAt (ws : List ByteArray) (t : List UInt8) (i : Nat) : List (Nat × Nat) := (endN ws (t.take (i + 1)) ws.length).map fun k => (i + 1 - (bs (wat ws k)).length, k)
/-- The hits by their ends. -/
def hitE (ws : List ByteArray) (t : List UInt8) (n : Nat) : List (Nat × Nat) := (List.range n).flatMap fun i => hitAt ws t i
/-- The hits that begin at place i, of the first m words. -/
def hitB (ws : List ByteArray) (t : List UInt8) (i m : Nat) : List (Nat × Nat) := ((List.range m).filter fun k => decide (bs (wat ws k) <+: t.drop i)).map fun k => (i, k)
/-- The hits by their beginnings. -/
def hitL (ws : List ByteArray) (t : List UInt8) (n : Nat) : List (Nat × Nat) := (List.range n).flatMap fun i => hitB ws t i ws.length
theorem hitE_succ (ws : List ByteArray) (t : List UInt8) (n : Nat) : hitE ws t (n + 1) = hitE ws t n ++ hitAt ws t n := by
  unfold hitE; rw [List.range_succ, List.flatMap_append]; simp
theorem hitL_succ (ws : List ByteArray) (t : List UInt8) (n : Nat) : hitL ws t (n + 1) = hitL ws t n ++ hitB ws t n ws.length := by
  unfold hitL; rw [List.range_succ, List.flatMap_append]; simp
theorem hitB_succ (ws : List ByteArray) (t : List UInt8) (i m : Nat) : hitB ws t i (m + 1) = hitB ws t i m ++ (if bs (wat ws m) <+: t.drop i then [(i, m)] else []) := by
  unfold hitB
  rw [List.range_succ, List.filter_append, List.map_append]
  by_cases h : bs (wat ws m) <+: t.drop i <;> simp [h]
theorem hitB_yes {ws : List ByteArray} {t : List UInt8} {i m : Nat} (h : bs (wat ws m) <+: t.drop i) : hitB ws t i (m + 1) = hitB ws t i m ++ [(i, m)] := by rw [hitB_succ, if_pos h]
theorem hitB_no {ws : List ByteArray} {t : List UInt8} {i m : Nat} (h : ¬ bs (wat ws m) <+: t.drop i) : hitB ws t i (m + 1) = hitB ws t i m := by rw [hitB_succ, if_neg h, List.append_nil]
theorem hitB_len (ws : List ByteArray) (t : List UInt8) (i m : Nat) : (hitB ws t i m).length ≤ m := by
  unfold hitB; rw [List.length_map]; have := List.length_filter_le (fun k => decide (bs (wat ws k) <+: t.drop i)) (List.range m); simpa using this
theorem hitL_len (ws : List ByteArray) (t : List UInt8) (n : Nat) : (hitL ws t n).length ≤ n * ws.length := by
  induction n with
  | zero => simp [hitL]
  | succ n ih => rw [hitL_succ, List.length_append, Nat.add_mul]; have := hitB_len ws t n ws.length; omega
theorem hitB_mem {ws : List ByteArray} {t : List UInt8} {i m : Nat} {x : Nat × Nat} : x ∈ hitB ws t i m ↔ x.1 = i ∧ x.2 < m ∧ bs (wat ws x.2) <+: t.drop i := by
  obtain ⟨a, k⟩ := x
  simp only [hitB, List.mem_map, List.mem_filter, List.mem_range, decide_eq_true_eq, Prod.mk.injEq]
  constructor
  · rintro ⟨k', ⟨h1, h2⟩, rfl, rfl⟩; exact ⟨rfl, h1, h2⟩
  · rintro ⟨rfl, h1, h2⟩; exact ⟨k, ⟨h1, h2⟩, rfl, rfl⟩
theorem hitL_mem {ws : List ByteArray} {t : List UInt8} {n : Nat} {x : Nat × Nat} : x ∈ hitL ws t n ↔ x.1 < n ∧ x.2 < ws.length ∧ bs (wat ws x.2) <+: t.drop x.1 := by
  simp only [hitL, List.mem_flatMap, List.mem_range, hitB_mem]
  constructor
  · rintro ⟨i, hi, rfl, h⟩; exact ⟨hi, h⟩
  · rintro ⟨hi, h⟩; exact ⟨_, hi, rfl, h⟩
/-- What ends at place m begins so far ahead of it. -/
theorem ends_begins {t x : List UInt8} {m : Nat} (hm : m ≤ t.length) (hx : x.length ≤ m) : x <:+ t.take m ↔ x <+: t.drop (m - x.length) := by
  rw [List.suffix_iff_eq_drop, List.prefix_iff_eq_take, List.length_take, show min m t.length = m by omega, List.drop_take, show m - (m - x.length) = x.length by omega]
theorem hitE_mem {ws : List ByteArray} (hf : Fine ws) {t : List UInt8} {x : Nat × Nat} : x ∈ hitE ws t t.length ↔ x.1 < t.length ∧ x.2 < ws.length ∧ bs (wat ws x.2) <+: t.drop x.1 := by
  obtain ⟨a, k⟩ := x
  simp only [hitE, hitAt, List.mem_flatMap, List.mem_range, List.mem_map, endN_mem, Prod.mk.injEq]
  constructor
  · rintro ⟨i, hi, k', ⟨h1, h2⟩, rfl, rfl⟩
    have hl := h2.length_le
    rw [List.length_take] at hl
    have hp := pos_bs hf h1
    have hp' : 0 < (bs (wat ws k')).length := List.length_pos_iff.2 hp
    exact ⟨by omega, h1, (ends_begins (by omega) (by omega)).1 h2⟩
  · rintro ⟨ha, hk, hp⟩
    have hl := hp.length_le
    rw [List.length_drop] at hl
    have hp' : 0 < (bs (wat ws k)).length := List.length_pos_iff.2 (pos_bs hf hk)
    refine ⟨a + (bs (wat ws k)).length - 1, by omega, k, ⟨hk, ?_⟩, by omega, rfl⟩
    rw [show a + (bs (wat ws k)).length - 1 + 1 = a + (bs (wat ws k)).length by omega]
    refine (ends_begins (by omega) (by omega)).2 ?_
    rwa [show a + (bs (wat ws k)).length - (bs (wat ws k)).length = a by omega]
/-- By place, then by word. -/
def hlt (x y : Nat × Nat) : Prop := x.1 < y.1 ∨ (x.1 = y.1 ∧ x.2 < y.2)
theorem hlt_ne {x y : Nat × Nat} (h : hlt x y) : x ≠ y := by rintro rfl; rcases h with h | h <;> omega
theorem range_filter_lt (p : Nat → Bool) (n : Nat) : ((List.range n).filter p).Pairwise (· < ·) := List.Pairwise.filter _ List.pairwise_lt_range
theorem hitL_sorted (ws : List ByteArray) (t : List UInt8) (n : Nat) : (hitL ws t n).Pairwise hlt := by
  unfold hitL
  rw [List.pairwise_flatMap]
  refine ⟨fun i _ => ?_, List.pairwise_lt_range.imp ?_⟩
  · unfold hitB
    rw [List.pairwise_map]
    exact (range_filter_lt _ _).imp fun h => .inr ⟨rfl, h⟩
  · intro i j hij x hx y hy
    exact .inl (by rw [(hitB_mem.1 hx).1, (hitB_mem.1 hy).1]; exact hij)
theorem hitE_nodup {ws : List ByteArray} {t : List UInt8} : (hitE ws t t.length).Nodup := by
  unfold hitE
  rw [List.nodup_iff_pairwise_ne, List.pairwise_flatMap]
  refine ⟨fun i _ => ?_, List.Pairwise.imp_of_mem ?_ (List.pairwise_lt_range (n := t.length))⟩
  · unfold hitAt
    rw [List.pairwise_map]
    exact (range_filter_lt _ _).imp fun h e => by have := (Prod.mk.inj e).2; omega
  · intro i j hi hj hij x hx y hy e
    subst e
    have hi' := List.mem_range.1 hi
    have hj' := List.mem_range.1 hj
    obtain ⟨k, hk, rfl⟩ := List.mem_map.1 hx
    obtain ⟨k', hk', e⟩ := List.mem_map.1 hy
    obtain ⟨e1, rfl⟩ := Prod.mk.inj e
    have h1 := (endN_mem.1 hk).2.length_le
    have h2 := (endN_mem.1 hk').2.length_le
    rw [List.length_take] at h1 h2
    omega
theorem hits_perm {ws : List ByteArray} (hf : Fine ws) (t : List UInt8) : (hitE ws t t.length).Perm (hitL ws t t.length) :=
  (List.perm_ext_iff_of_nodup hitE_nodup (List.nodup_iff_pairwise_ne.2 ((hitL_sorted ws t t.length).imp hlt_ne))).2 fun x => by rw [hitE_mem hf, hitL_mem]
/-- Sorted, the hits by their ends are the hits by their beginnings. -/
theorem hits_sorted {ws : List ByteArray} (hf : Fine ws) {t : List UInt8} {l : List (Nat × Nat)} (hp : l.Perm (hitE ws t t.length)) (hs : l.Pairwise fun x y => ¬ hlt y x) : l = hitL ws t t.length := by
  refine List.Perm.eq_of_pairwise (le := fun x y => ¬ hlt y x) ?_ hs ((hitL_sorted ws t t.length).imp ?_) (hp.trans (hits_perm hf t))
  · rintro ⟨a, b⟩ ⟨c, d⟩ _ _ h1 h2
    simp only [hlt, not_or, not_and, Nat.not_lt] at h1 h2
    have e : a = c := by omega
    subst e
    have := h1.2 rfl; have := h2.2 rfl
    rw [show b = d by omega]
  · rintro ⟨a, b⟩ ⟨c, d⟩ h
    simp only [hlt] at h ⊢
    omega

/-! ### Greedy cutting -/
/-- What cutting the text t answers: the places of the words, or that there is none. -/
inductive CutR (W : List Wd) : List UInt8 → Option (List Int) → Prop
  | fin : CutR W [] (some [])
  | bad {t : List UInt8} : t ≠ [] → Lg W t (-1) → CutR W t none
  | step {t x : List UInt8} {j : Nat} {r : Option (List Int)} : t ≠ [] → Lg W t (j : Nat) → (x, j) ∈ W → CutR W (t.drop x.length) r → CutR W t (r.map ((j : Int) :: ·))
theorem cut_one {W : List Wd} (hO : Once W) (hW : ∀ x y j, (x, j) ∈ W → (y, j) ∈ W → x = y) {t : List UInt8} {r : Option (List Int)} (h : CutR W t r) : ∀ {r' : Option (List Int)}, CutR W t r' → r = r' := by
  induction h with
  | fin =>
    intro r' h'
    cases h' with
    | fin => rfl
    | bad h _ => exact absurd rfl h
    | step h _ _ _ => exact absurd rfl h
  | bad hne hl =>
    intro r' h'
    cases h' with
    | fin => exact absurd rfl hne
    | bad _ _ => rfl
    | step _ hl' _ _ => have := lg_one hO hl hl'; omega
  | @step t x j r hne hl hm _ ih =>
    intro r' h'
    generalize ht : t = t' at h'
    cases h' with
    | fin => exact absurd ht hne
    | bad _ hl' => subst ht; have := lg_one hO hl hl'; omega
    | @step _ y j' r'' _ hl' hm' h'' =>
      subst ht
      have e : (j : Int) = j' := lg_one hO hl hl'
      obtain rfl : j = j' := by omega
      obtain rfl := hW x y j hm hm'
      rw [ih h'']
/-- What is done: whatever the rest answers, the whole answers with what is done ahead. -/
def CutTo (W : List Wd) (t : List UInt8) (out : List Int) (m : List UInt8) : Prop := ∀ r, CutR W m r → CutR W t (r.map (out ++ ·))
theorem cutTo_start (W : List Wd) (t : List UInt8) : CutTo W t [] t := fun r h => by cases r <;> simpa using h
theorem cutTo_step {W : List Wd} {t m x : List UInt8} {out : List Int} {j : Nat} (h : CutTo W t out m) (hne : m ≠ []) (hl : Lg W m (j : Nat)) (hm : (x, j) ∈ W) : CutTo W t (out ++ [(j : Int)]) (m.drop x.length) := by
  intro r hr
  have := h _ (CutR.step hne hl hm hr)
  cases r with
  | none => simpa using this
  | some l => simpa using this
theorem cutTo_fin {W : List Wd} {t : List UInt8} {out : List Int} (h : CutTo W t out []) : CutR W t (some out) := by simpa using h _ CutR.fin
theorem cutTo_bad {W : List Wd} {t m : List UInt8} {out : List Int} (h : CutTo W t out m) (hne : m ≠ []) (hl : Lg W m (-1)) : CutR W t none := by simpa using h _ (CutR.bad hne hl)
end Go.Proofs.Ytdkbgikniacekaa
