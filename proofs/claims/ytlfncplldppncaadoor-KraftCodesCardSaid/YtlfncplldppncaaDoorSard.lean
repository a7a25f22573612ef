/-
  Plain mathematics of words that can be told apart, without a program: Sardinas and Patterson (by what one way is ahead of another one), words from their ends, words none of which begins another one. No condition.
-/
namespace Go.Proofs.YtlfncplldppncaaDoor

/-- The text of a row of words, by their places. -/
def catW (W : List (List UInt8)) (a : List Nat) : List UInt8 := a.flatMap fun i => W.getD i []
/-- Places of words. -/
def InW (W : List (List UInt8)) (a : List Nat) : Prop := ∀ i ∈ a, i < W.length
/-- Each text is of words in at most one way. -/
def UD (W : List (List UInt8)) : Prop := ∀ a b, InW W a → InW W b → catW W a = catW W b → a = b
/-- Words as they are let in: none is empty, none stands twice. -/
def Okw (W : List (List UInt8)) : Prop := W.Nodup ∧ ∀ x ∈ W, x ≠ []
/-- By what one way is ahead of another one. -/
inductive Dang (W : List (List UInt8)) : List UInt8 → Prop
  | start {i k : Nat} {s : List UInt8} (hi : i < W.length) (hk : k < W.length) (hne : i ≠ k) (h : W.getD i [] = W.getD k [] ++ s) : Dang W s
  | fwd {a r : List UInt8} {i : Nat} (ha : Dang W a) (hi : i < W.length) (h : W.getD i [] = a ++ r) : Dang W r
  | back {a r : List UInt8} {i : Nat} (ha : Dang W a) (hi : i < W.length) (h : a = W.getD i [] ++ r) : Dang W r
theorem catW_cons (W : List (List UInt8)) (i : Nat) (a : List Nat) : catW W (i :: a) = W.getD i [] ++ catW W a := rfl
theorem catW_app (W : List (List UInt8)) (a b : List Nat) : catW W (a ++ b) = catW W a ++ catW W b := by
  unfold catW
  rw [List.flatMap_append]
theorem catW_one (W : List (List UInt8)) (i : Nat) : catW W [i] = W.getD i [] := by rw [catW_cons]; exact List.append_nil _
theorem InW.cons {W : List (List UInt8)} {i : Nat} {a : List Nat} (h : InW W (i :: a)) : i < W.length ∧ InW W a := ⟨h i (by simp), fun j hj => h j (by simp [hj])⟩
theorem InW.mk {W : List (List UInt8)} {i : Nat} {a : List Nat} (hi : i < W.length) (h : InW W a) : InW W (i :: a) := fun j hj => by
  rcases List.mem_cons.1 hj with rfl | hj
  · exact hi
  · exact h j hj
theorem InW.app {W : List (List UInt8)} {a b : List Nat} (ha : InW W a) (hb : InW W b) : InW W (a ++ b) := fun j hj => by
  rcases List.mem_append.1 hj with hj | hj
  · exact ha j hj
  · exact hb j hj
theorem word_ne {W : List (List UInt8)} (h : Okw W) {i : Nat} (hi : i < W.length) : W.getD i [] ≠ [] := by
  refine h.2 _ ?_
  rw [List.getD_eq_getElem?_getD, List.getElem?_eq_getElem hi]
  exact List.getElem_mem hi
theorem word_one {W : List (List UInt8)} (h : Okw W) {i k : Nat} (hi : i < W.length) (hk : k < W.length) (e : W.getD i [] = W.getD k []) : i = k := by
  rw [List.getD_eq_getElem?_getD, List.getD_eq_getElem?_getD, List.getElem?_eq_getElem hi, List.getElem?_eq_getElem hk] at e
  simp only [Option.getD_some] at e
  exact (List.getElem_inj h.1).1 e
/-- One of two beginnings of a text begins the other one. -/
theorem two_begin {x y u v : List UInt8} (h : x ++ u = y ++ v) : (∃ r, x = y ++ r ∧ v = r ++ u) ∨ (∃ r, y = x ++ r ∧ u = r ++ v) := by
  rcases List.append_eq_append_iff.1 h with ⟨r, h1, h2⟩ | ⟨r, h1, h2⟩
  · exact .inr ⟨r, h1, h2⟩
  · exact .inl ⟨r, h1, h2⟩
/-- What is ahead comes of two rows that begin with different words. -/
theorem dang_rows {W : List (List UInt8)} {s : List UInt8} (h : Dang W s) : ∃ i k a b, i ≠ k ∧ InW W (i :: a) ∧ InW W (k :: b) ∧ catW W (i :: a) = catW W (k :: b) ++ s := by
  induction h with
  | @start i k s hi hk hne h => exact ⟨i, k, [], [], hne, InW.mk hi (fun _ h => by cases h), InW.mk hk (fun _ h => by cases h), by rw [catW_one, catW_one]; exact h⟩
  | @fwd a r j _ hj h ih =>
    obtain ⟨i, k, x, y, hne, hx, hy, e⟩ := ih
    obtain ⟨hi, hx⟩ := hx.cons
    obtain ⟨hk, hy⟩ := hy.cons
    refine ⟨k, i, y ++ [j], x, Ne.symm hne, InW.mk hk (hy.app (InW.mk hj (fun _ h => by cases h))), InW.mk hi hx, ?_⟩
    rw [← List.cons_append, catW_app, e, catW_one, h, List.append_assoc]
  | @back a r j _ hj h ih =>
    obtain ⟨i, k, x, y, hne, hx, hy, e⟩ := ih
    obtain ⟨hk, hy⟩ := hy.cons
    refine ⟨i, k, x, y ++ [j], hne, hx, InW.mk hk (hy.app (InW.mk hj (fun _ h => by cases h))), ?_⟩
    rw [e, ← List.cons_append, catW_app, catW_one, h, List.append_assoc]
theorem dang_two {W : List (List UInt8)} (h : Dang W []) : ¬ UD W := by
  obtain ⟨i, k, a, b, hne, ha, hb, e⟩ := dang_rows h
  intro hu
  rw [List.append_nil] at e
  have := hu _ _ ha hb e
  injection this with h1
  exact hne h1
/-- Where one way is ahead of another one and both end together, one of them is ahead by nothing. -/
theorem dang_end {W : List (List UInt8)} (n : Nat) : ∀ (s : List UInt8) (a b : List Nat), a.length + b.length ≤ n → Dang W s → InW W a → InW W b → s ++ catW W a = catW W b → Dang W [] := by
  induction n with
  | zero =>
    intro s a b hn hs ha hb e
    obtain rfl : b = [] := List.eq_nil_of_length_eq_zero (by omega)
    have : s = [] := (List.append_eq_nil_iff.1 e).1
    rw [← this]
    exact hs
  | succ n ih =>
    intro s a b hn hs ha hb e
    cases b with
    | nil =>
      have : s = [] := (List.append_eq_nil_iff.1 e).1
      rw [← this]
      exact hs
    | cons j b =>
      obtain ⟨hj, hb⟩ := hb.cons
      rw [catW_cons] at e
      rw [List.length_cons] at hn
      rcases two_begin e with ⟨r, h1, h2⟩ | ⟨r, h1, h2⟩
      · exact ih r a b (by omega) (.back hs hj h1) ha hb h2.symm
      · exact ih r b a (by omega) (.fwd hs hj h1) hb ha h2.symm
theorem two_dang {W : List (List UInt8)} (hw : Okw W) : ∀ a b, InW W a → InW W b → catW W a = catW W b → a ≠ b → Dang W [] := by
  intro a
  induction a with
  | nil =>
    intro b _ hb e hne
    cases b with
    | nil => exact absurd rfl hne
    | cons j b =>
      rw [catW_cons] at e
      exact absurd (List.append_eq_nil_iff.1 e.symm).1 (word_ne hw hb.cons.1)
  | cons i a ih =>
    intro b ha hb e hne
    obtain ⟨hi, ha⟩ := ha.cons
    cases b with
    | nil =>
      rw [catW_cons] at e
      exact absurd (List.append_eq_nil_iff.1 e).1 (word_ne hw hi)
    | cons j b =>
      obtain ⟨hj, hb'⟩ := hb.cons
      rw [catW_cons, catW_cons] at e
      by_cases hij : i = j
      · subst hij
        exact ih b ha hb' (List.append_cancel_left e) (fun h => hne (by rw [h]))
      · rcases two_begin e with ⟨r, h1, h2⟩ | ⟨r, h1, h2⟩
        · exact dang_end _ r a b (Nat.le_refl _) (.start hi hj hij h1) ha hb' h2.symm
        · exact dang_end _ r b a (Nat.le_refl _) (.start hj hi (Ne.symm hij) h1) hb' ha h2.symm
/-- SARDINAS, PATTERSON. -/
theorem ud_iff {W : List (List UInt8)} (hw : Okw W) : UD W ↔ ¬ Dang W [] :=
  ⟨fun h hd => dang_two hd h, fun h a b ha hb e => Classical.byContradiction fun hne => h (two_dang hw a b ha hb e hne)⟩
/-- A list that has all beginnings of the search and is closed has all that is ahead. -/
theorem dang_in {W : List (List UInt8)} {A : List (List UInt8)} (h1 : ∀ i k s, i < W.length → k < W.length → i ≠ k → W.getD i [] = W.getD k [] ++ s → s ∈ A)
    (h2 : ∀ a ∈ A, ∀ i r, i < W.length → (W.getD i [] = a ++ r ∨ a = W.getD i [] ++ r) → r ∈ A) {s : List UInt8} (h : Dang W s) : s ∈ A := by
  induction h with
  | @start i k s hi hk hne h => exact h1 i k s hi hk hne h
  | @fwd a r i _ hi h ih => exact h2 a ih i r hi (.inl h)
  | @back a r i _ hi h ih => exact h2 a ih i r hi (.inr h)
/-- What is ahead is the end of a word. -/
theorem dang_end_of {W : List (List UInt8)} {s : List UInt8} (h : Dang W s) : ∃ i, i < W.length ∧ ∃ p, W.getD i [] = p ++ s := by
  induction h with
  | @start i k s hi hk hne h => exact ⟨i, hi, _, h⟩
  | @fwd a r i _ hi h ih => exact ⟨i, hi, _, h⟩
  | @back a r i _ hi h ih =>
    obtain ⟨j, hj, p, e⟩ := ih
    exact ⟨j, hj, p ++ W.getD i [], by rw [e, h, List.append_assoc]⟩

/-! ### None begins another one -/
/-- No word begins another one. -/
def Pfree (W : List (List UInt8)) : Prop := ∀ i k, i < W.length → k < W.length → i ≠ k → ¬ W.getD k [] <+: W.getD i []
theorem pfree_ud {W : List (List UInt8)} (hw : Okw W) (h : Pfree W) : UD W := by
  refine (ud_iff hw).2 fun hd => ?_
  have : ∀ s, Dang W s → False := by
    intro s hs
    induction hs with
    | @start i k s hi hk hne e => exact h i k hi hk hne ⟨s, e.symm⟩
    | fwd _ _ _ ih => exact ih
    | back _ _ _ ih => exact ih
  exact this _ hd

/-! ### From their ends -/
theorem mir_len (W : List (List UInt8)) : (W.map List.reverse).length = W.length := List.length_map ..
theorem mir_at (W : List (List UInt8)) (i : Nat) : (W.map List.reverse).getD i [] = (W.getD i []).reverse := by
  by_cases hi : i < W.length <;> simp [hi]
theorem mir_cat (W : List (List UInt8)) (a : List Nat) : catW (W.map List.reverse) a.reverse = (catW W a).reverse := by
  induction a with
  | nil => rfl
  | cons i a ih =>
    rw [List.reverse_cons, catW_app, ih, catW_one, mir_at, catW_cons W i a, List.reverse_append]
theorem mir_ok {W : List (List UInt8)} (h : Okw W) : Okw (W.map List.reverse) := by
  refine ⟨List.Pairwise.map _ (fun a b hne e => hne (List.reverse_inj.1 e)) h.1, fun x hx => ?_⟩
  · obtain ⟨y, hy, rfl⟩ := List.mem_map.1 hx
    have := h.2 y hy
    simpa using this
theorem mir_ud {W : List (List UInt8)} (h : UD W) : UD (W.map List.reverse) := by
  intro a b ha hb e
  have e1 := mir_cat W a.reverse
  have e2 := mir_cat W b.reverse
  rw [List.reverse_reverse] at e1 e2
  rw [e1, e2] at e
  have e := List.reverse_inj.1 e
  have := h _ _ (fun j hj => by have := ha j (by simpa using hj); rwa [mir_len] at this) (fun j hj => by have := hb j (by simpa using hj); rwa [mir_len] at this) e
  exact List.reverse_inj.1 this
theorem mir_iff {W : List (List UInt8)} : UD (W.map List.reverse) ↔ UD W := by
  refine ⟨fun h => ?_, mir_ud⟩
  have := mir_ud h
  rwa [List.map_map, show List.reverse ∘ List.reverse = (id : List UInt8 → List UInt8) from funext fun x => List.reverse_reverse x, List.map_id] at this
end Go.Proofs.YtlfncplldppncaaDoor
