/-
  Plain mathematics, without a program: how far two texts are (Levenshtein), by scripts: the least cost is what the table says; there and back, over a third one; bounds; what both begin or end with; one sign more, less, or other; the least script of all. No condition.
-/
namespace Go.Proofs.Ytaodocdddfkglaa

/-- A script from one text to another one: '=' 61, '!' 33, '+' 43, '-' 45. -/
inductive Sc : List UInt8 → List UInt8 → List UInt8 → Prop
  | nil : Sc [] [] []
  | eq {x : UInt8} {a b s : List UInt8} (h : Sc a b s) : Sc (x :: a) (x :: b) (61 :: s)
  | chg {x y : UInt8} {a b s : List UInt8} (hne : x ≠ y) (h : Sc a b s) : Sc (x :: a) (y :: b) (33 :: s)
  | ins {y : UInt8} {a b s : List UInt8} (h : Sc a b s) : Sc a (y :: b) (43 :: s)
  | del {x : UInt8} {a b s : List UInt8} (h : Sc a b s) : Sc (x :: a) b (45 :: s)
/-- How many steps but '='. -/
def co (s : List UInt8) : Nat := (s.filter (· ≠ 61)).length
theorem co_nil : co [] = 0 := rfl
theorem co_eq (s : List UInt8) : co (61 :: s) = co s := rfl
theorem co_chg (s : List UInt8) : co (33 :: s) = co s + 1 := rfl
theorem co_ins (s : List UInt8) : co (43 :: s) = co s + 1 := rfl
theorem co_del (s : List UInt8) : co (45 :: s) = co s + 1 := rfl
theorem co_app (s t : List UInt8) : co (s ++ t) = co s + co t := by simp [co]
theorem co_rev (s : List UInt8) : co s.reverse = co s := by simp [co, List.filter_reverse]
/-- How far two texts are. -/
def far : List UInt8 → List UInt8 → Nat
  | [], b => b.length
  | x :: a, [] => a.length + 1
  | x :: a, y :: b => min (min (far a (y :: b) + 1) (far (x :: a) b + 1)) (far a b + if x = y then 0 else 1)
termination_by a b => a.length + b.length
theorem far_left (b : List UInt8) : far [] b = b.length := by rw [far]
theorem far_right (a : List UInt8) : far a [] = a.length := by
  cases a with
  | nil => rw [far]
  | cons x a => rw [far]; rfl
theorem far_cons (x y : UInt8) (a b : List UInt8) : far (x :: a) (y :: b) = min (min (far a (y :: b) + 1) (far (x :: a) b + 1)) (far a b + if x = y then 0 else 1) := by rw [far]
theorem sc_only_ins (b : List UInt8) : Sc [] b (List.replicate b.length 43) := by
  induction b with
  | nil => exact .nil
  | cons y b ih => exact .ins ih
theorem sc_only_del (a : List UInt8) : Sc a [] (List.replicate a.length 45) := by
  induction a with
  | nil => exact .nil
  | cons x a ih => exact .del ih
theorem co_rep (c : UInt8) (h : c ≠ 61) (n : Nat) : co (List.replicate n c) = n := by
  unfold co
  rw [List.filter_replicate, if_pos (by simpa using h), List.length_replicate]
theorem far_ins (y : UInt8) (a b : List UInt8) : far a (y :: b) ≤ far a b + 1 := by
  cases a with
  | nil => rw [far_left, far_left]; exact Nat.le_refl _
  | cons x a => rw [far_cons]; omega
theorem far_del (x : UInt8) (a b : List UInt8) : far (x :: a) b ≤ far a b + 1 := by
  cases b with
  | nil => rw [far_right, far_right]; exact Nat.le_refl _
  | cons y b => rw [far_cons]; omega
/-- No script costs less. -/
theorem sc_ge {a b s : List UInt8} (h : Sc a b s) : far a b ≤ co s := by
  induction h with
  | nil => rw [far_left]; exact Nat.zero_le _
  | @eq x a b s h ih => rw [far_cons, co_eq, if_pos rfl]; omega
  | @chg x y a b s hne h ih => rw [far_cons, co_chg, if_neg hne]; omega
  | @ins y a b s h ih => rw [co_ins]; have := far_ins y a b; omega
  | @del x a b s h ih => rw [co_del]; have := far_del x a b; omega
/-- There is one that costs so much. -/
theorem sc_ex : ∀ (n : Nat) (a b : List UInt8), a.length + b.length ≤ n → ∃ s, Sc a b s ∧ co s = far a b := by
  intro n
  induction n with
  | zero =>
    intro a b h
    obtain rfl : a = [] := List.eq_nil_of_length_eq_zero (by omega)
    obtain rfl : b = [] := List.eq_nil_of_length_eq_zero (by omega)
    exact ⟨[], .nil, by rw [far_left]; rfl⟩
  | succ n ih =>
    intro a b h
    cases a with
    | nil => exact ⟨_, sc_only_ins b, by rw [co_rep _ (by decide), far_left]⟩
    | cons x a =>
      cases b with
      | nil => exact ⟨_, sc_only_del _, by rw [co_rep _ (by decide), far_right]⟩
      | cons y b =>
        rw [List.length_cons, List.length_cons] at h
        obtain ⟨s1, h1, e1⟩ := ih a (y :: b) (by rw [List.length_cons]; omega)
        obtain ⟨s2, h2, e2⟩ := ih (x :: a) b (by rw [List.length_cons]; omega)
        obtain ⟨s3, h3, e3⟩ := ih a b (by omega)
        rw [far_cons]
        by_cases c1 : far a (y :: b) + 1 ≤ far (x :: a) b + 1 ∧ far a (y :: b) + 1 ≤ far a b + if x = y then 0 else 1
        · exact ⟨_, .del h1, by rw [co_del]; omega⟩
        · by_cases c2 : far (x :: a) b + 1 ≤ far a b + if x = y then 0 else 1
          · exact ⟨_, .ins h2, by rw [co_ins]; omega⟩
          · by_cases e : x = y
            · subst e
              rw [if_pos rfl] at c1 c2 ⊢
              exact ⟨_, .eq h3, by rw [co_eq]; omega⟩
            · rw [if_neg e] at c1 c2 ⊢
              exact ⟨_, .chg e h3, by rw [co_chg]; omega⟩
theorem sc_best (a b : List UInt8) : ∃ s, Sc a b s ∧ co s = far a b := sc_ex _ a b (Nat.le_refl _)
/-- From there back. -/
theorem sc_flip {a b s : List UInt8} (h : Sc a b s) : ∃ t, Sc b a t ∧ co t = co s := by
  induction h with
  | nil => exact ⟨[], .nil, rfl⟩
  | eq h ih => obtain ⟨t, h1, h2⟩ := ih; exact ⟨_, .eq h1, by rw [co_eq, co_eq, h2]⟩
  | chg hne h ih => obtain ⟨t, h1, h2⟩ := ih; exact ⟨_, .chg (Ne.symm hne) h1, by rw [co_chg, co_chg, h2]⟩
  | ins h ih => obtain ⟨t, h1, h2⟩ := ih; exact ⟨_, .del h1, by rw [co_del, co_ins, h2]⟩
  | del h ih => obtain ⟨t, h1, h2⟩ := ih; exact ⟨_, .ins h1, by rw [co_del, co_ins, h2]⟩
theorem far_sym (a b : List UInt8) : far a b = far b a := by
  have key : ∀ a b, far b a ≤ far a b := fun a b => by
    obtain ⟨s, h, e⟩ := sc_best a b
    obtain ⟨t, h1, h2⟩ := sc_flip h
    have := sc_ge h1
    omega
  exact Nat.le_antisymm (key b a) (key a b)
/-- One script behind another one. -/
theorem sc_comp : ∀ (n : Nat) (a b c s t : List UInt8), s.length + t.length ≤ n → Sc a b s → Sc b c t → ∃ u, Sc a c u ∧ co u ≤ co s + co t := by
  intro n
  induction n with
  | zero =>
    intro a b c s t hn h k
    obtain rfl : s = [] := List.eq_nil_of_length_eq_zero (by omega)
    obtain rfl : t = [] := List.eq_nil_of_length_eq_zero (by omega)
    cases h
    cases k
    exact ⟨[], .nil, Nat.zero_le _⟩
  | succ n ih =>
    intro a b c s t hn h k
    cases k with
    | nil => exact ⟨s, h, by omega⟩
    | @ins y _ c' t' k' =>
      obtain ⟨u, h1, h2⟩ := ih a b c' s t' (by rw [List.length_cons] at hn; omega) h k'
      exact ⟨_, .ins h1, by rw [co_ins, co_ins]; omega⟩
    | @eq x b' c' t' k' =>
      rw [List.length_cons] at hn
      cases h with
      | eq h' => obtain ⟨u, h1, h2⟩ := ih _ _ _ _ _ (by rw [List.length_cons] at hn; omega) h' k'; exact ⟨_, .eq h1, by rw [co_eq, co_eq, co_eq]; exact h2⟩
      | chg hne h' => obtain ⟨u, h1, h2⟩ := ih _ _ _ _ _ (by rw [List.length_cons] at hn; omega) h' k'; exact ⟨_, .chg hne h1, by rw [co_chg, co_chg, co_eq]; omega⟩
      | ins h' => obtain ⟨u, h1, h2⟩ := ih _ _ _ _ _ (by rw [List.length_cons] at hn; omega) h' k'; exact ⟨_, .ins h1, by rw [co_ins, co_ins, co_eq]; omega⟩
      | del h' => obtain ⟨u, h1, h2⟩ := ih _ _ _ _ (61 :: t') (by rw [List.length_cons] at hn ⊢; omega) h' (.eq k'); exact ⟨_, .del h1, by rw [co_del, co_del]; omega⟩
    | @chg x y b' c' t' hne k' =>
      rw [List.length_cons] at hn
      cases h with
      | eq h' => obtain ⟨u, h1, h2⟩ := ih _ _ _ _ _ (by rw [List.length_cons] at hn; omega) h' k'; exact ⟨_, .chg hne h1, by rw [co_chg, co_eq, co_chg]; omega⟩
      | @chg z _ _ _ _ hne2 h' =>
        obtain ⟨u, h1, h2⟩ := ih _ _ _ _ _ (by rw [List.length_cons] at hn; omega) h' k'
        by_cases e : z = y
        · subst e; exact ⟨_, .eq h1, by rw [co_eq, co_chg, co_chg]; omega⟩
        · exact ⟨_, .chg e h1, by rw [co_chg, co_chg, co_chg]; omega⟩
      | ins h' => obtain ⟨u, h1, h2⟩ := ih _ _ _ _ _ (by rw [List.length_cons] at hn; omega) h' k'; exact ⟨_, .ins h1, by rw [co_ins, co_ins, co_chg]; omega⟩
      | del h' => obtain ⟨u, h1, h2⟩ := ih _ _ _ _ (33 :: t') (by rw [List.length_cons] at hn ⊢; omega) h' (.chg hne k'); exact ⟨_, .del h1, by rw [co_del, co_del]; omega⟩
    | @del x b' _ t' k' =>
      rw [List.length_cons] at hn
      cases h with
      | eq h' => obtain ⟨u, h1, h2⟩ := ih _ _ _ _ _ (by rw [List.length_cons] at hn; omega) h' k'; exact ⟨_, .del h1, by rw [co_del, co_eq, co_del]; omega⟩
      | chg hne h' => obtain ⟨u, h1, h2⟩ := ih _ _ _ _ _ (by rw [List.length_cons] at hn; omega) h' k'; exact ⟨_, .del h1, by rw [co_del, co_chg, co_del]; omega⟩
      | ins h' => obtain ⟨u, h1, h2⟩ := ih _ _ _ _ _ (by rw [List.length_cons] at hn; omega) h' k'; exact ⟨u, h1, by rw [co_ins, co_del]; omega⟩
      | del h' => obtain ⟨u, h1, h2⟩ := ih _ _ _ _ (45 :: t') (by rw [List.length_cons] at hn ⊢; omega) h' (.del k'); exact ⟨_, .del h1, by rw [co_del, co_del]; omega⟩
theorem far_tri (a b c : List UInt8) : far a c ≤ far a b + far b c := by
  obtain ⟨s, h1, e1⟩ := sc_best a b
  obtain ⟨t, h2, e2⟩ := sc_best b c
  obtain ⟨u, h3, h4⟩ := sc_comp _ _ _ _ _ _ (Nat.le_refl _) h1 h2
  have := sc_ge h3
  omega
theorem sc_lens {a b s : List UInt8} (h : Sc a b s) : a.length ≤ b.length + co s ∧ b.length ≤ a.length + co s := by
  induction h with
  | nil => exact ⟨Nat.le_refl _, Nat.le_refl _⟩
  | eq h ih => rw [co_eq, List.length_cons, List.length_cons]; omega
  | chg hne h ih => rw [co_chg, List.length_cons, List.length_cons]; omega
  | ins h ih => rw [co_ins, List.length_cons]; omega
  | del h ih => rw [co_del, List.length_cons]; omega
theorem far_low (a b : List UInt8) : a.length ≤ b.length + far a b ∧ b.length ≤ a.length + far a b := by
  obtain ⟨s, h, e⟩ := sc_best a b
  have := sc_lens h
  omega
theorem far_high : ∀ (a b : List UInt8), far a b ≤ max a.length b.length
  | [], b => by rw [far_left]; omega
  | x :: a, [] => by rw [far_right]; omega
  | x :: a, y :: b => by
    have := far_high a b
    rw [far_cons, List.length_cons, List.length_cons]
    split <;> omega
theorem sc_same {a b s : List UInt8} (h : Sc a b s) : co s = 0 → a = b := by
  induction h with
  | nil => intro _; rfl
  | eq h ih => intro e; rw [co_eq] at e; rw [ih e]
  | chg hne h ih => intro e; rw [co_chg] at e; omega
  | ins h ih => intro e; rw [co_ins] at e; omega
  | del h ih => intro e; rw [co_del] at e; omega
theorem far_self (a : List UInt8) : far a a = 0 := by
  induction a with
  | nil => rw [far_left]; rfl
  | cons x a ih => rw [far_cons, if_pos rfl, ih]; omega
theorem far_zero {a b : List UInt8} : far a b = 0 ↔ a = b := by
  constructor
  · intro e
    obtain ⟨s, h, e2⟩ := sc_best a b
    exact sc_same h (by omega)
  · rintro rfl; exact far_self a
theorem far_same (x : UInt8) (a b : List UInt8) : far (x :: a) (x :: b) = far a b := by
  have h1 : far a (x :: a) ≤ 1 := by have := far_ins x a a; rw [far_self] at this; exact this
  have h2 : far (x :: b) b ≤ 1 := by have := far_del x b b; rw [far_self] at this; exact this
  have h3 : far a b ≤ far a (x :: b) + 1 := by have := far_tri a (x :: b) b; omega
  have h4 : far a b ≤ far (x :: a) b + 1 := by have := far_tri a (x :: a) b; omega
  rw [far_cons, if_pos rfl]
  omega
theorem far_pre (c a b : List UInt8) : far (c ++ a) (c ++ b) = far a b := by
  induction c with
  | nil => rfl
  | cons x c ih => rw [List.cons_append, List.cons_append, far_same, ih]
theorem sc_app {a b s a' b' s' : List UInt8} (h : Sc a b s) (h' : Sc a' b' s') : Sc (a ++ a') (b ++ b') (s ++ s') := by
  induction h with
  | nil => exact h'
  | eq h ih => exact .eq ih
  | chg hne h ih => exact .chg hne ih
  | ins h ih => exact .ins ih
  | del h ih => exact .del ih
theorem sc_rev {a b s : List UInt8} (h : Sc a b s) : Sc a.reverse b.reverse s.reverse := by
  induction h with
  | nil => exact .nil
  | eq h ih => rw [List.reverse_cons, List.reverse_cons, List.reverse_cons]; exact sc_app ih (.eq .nil)
  | chg hne h ih => rw [List.reverse_cons, List.reverse_cons, List.reverse_cons]; exact sc_app ih (.chg hne .nil)
  | @ins y a b s h ih => rw [List.reverse_cons, List.reverse_cons]; have := sc_app ih (.ins (y := y) .nil); rwa [List.append_nil] at this
  | @del x a b s h ih => rw [List.reverse_cons, List.reverse_cons]; have := sc_app ih (.del (x := x) .nil); rwa [List.append_nil] at this
theorem far_rev (a b : List UInt8) : far a.reverse b.reverse = far a b := by
  have key : ∀ a b : List UInt8, far a.reverse b.reverse ≤ far a b := fun a b => by
    obtain ⟨s, h, e⟩ := sc_best a b
    have := sc_ge (sc_rev h)
    rw [co_rev] at this
    omega
  refine Nat.le_antisymm (key a b) ?_
  have := key a.reverse b.reverse
  rwa [List.reverse_reverse, List.reverse_reverse] at this
theorem far_suf (c a b : List UInt8) : far (a ++ c) (b ++ c) = far a b := by
  rw [← far_rev, List.reverse_append, List.reverse_append, far_pre, far_rev]
/-- One sign more. -/
theorem far_more (p r : List UInt8) (c : UInt8) : far (p ++ r) (p ++ c :: r) = 1 := by
  rw [far_pre]
  have h1 := far_ins c r r
  rw [far_self] at h1
  have h2 : far r (c :: r) ≠ 0 := fun e => by
    have := congrArg List.length (far_zero.1 e)
    rw [List.length_cons] at this
    omega
  omega
/-- One sign less. -/
theorem far_less (p r : List UInt8) (c : UInt8) : far (p ++ c :: r) (p ++ r) = 1 := by rw [far_sym, far_more]
/-- One sign other. -/
theorem far_other (p r : List UInt8) (x c : UInt8) : far (p ++ x :: r) (p ++ c :: r) = if x = c then 0 else 1 := by
  rw [far_pre]
  by_cases e : x = c
  · subst e; rw [if_pos rfl, far_self]
  · rw [if_neg e]
    have h1 : far (x :: r) (c :: r) ≤ 1 := by rw [far_cons, if_neg e, far_self]; omega
    have h2 : far (x :: r) (c :: r) ≠ 0 := fun h => e (by injection far_zero.1 h)
    omega

/-! ### The least script -/
/-- Of all scripts that cost least, the least one. -/
structure Least (a b s : List UInt8) : Prop where
  sc : Sc a b s
  cost : co s = far a b
  least : ∀ t, Sc a b t → co t = far a b → ¬ t < s
theorem least_one {a b s s' : List UInt8} (h : Least a b s) (h' : Least a b s') : s = s' := by
  have h1 := h.least s' h'.sc h'.cost
  have h2 := h'.least s h.sc h.cost
  exact List.le_antisymm (List.not_lt.1 h1) (List.not_lt.1 h2)
theorem cons_not_lt {x : UInt8} {s t : List UInt8} (h : ¬ t < s) : ¬ (x :: t) < (x :: s) := fun e => by
  rcases List.cons_lt_cons_iff.1 e with h1 | ⟨_, h1⟩
  · exact absurd h1 (UInt8.lt_irrefl x)
  · exact h h1
theorem head_not_lt {x y : UInt8} {s t : List UInt8} (h : x < y) : ¬ (y :: t) < (x :: s) := fun e => by
  rcases List.cons_lt_cons_iff.1 e with h1 | ⟨h1, _⟩
  · exact absurd (UInt8.lt_trans h h1) (UInt8.lt_irrefl x)
  · rw [h1] at h; exact UInt8.lt_irrefl x h
theorem least_nil : Least [] [] [] := ⟨.nil, by rw [far_left]; rfl, fun t h _ => by cases h; exact List.lt_irrefl _⟩
/-- Where a change of the next sign can be the first step, it is. -/
theorem least_chg {x y : UInt8} {a b s : List UInt8} (hne : x ≠ y) (hc : far a b + 1 = far (x :: a) (y :: b)) (h : Least a b s) : Least (x :: a) (y :: b) (33 :: s) := by
  refine ⟨.chg hne h.sc, by rw [co_chg, h.cost, hc], fun t ht hct => ?_⟩
  cases ht with
  | eq _ => exact absurd rfl hne
  | chg _ h' => exact cons_not_lt (h.least _ h' (by rw [co_chg] at hct; omega))
  | ins h' => exact head_not_lt (by decide)
  | del h' => exact head_not_lt (by decide)
theorem least_ins {y : UInt8} {a b s : List UInt8} (hno : ∀ x a', a = x :: a' → x ≠ y → far a' b + 1 ≠ far a (y :: b)) (hc : far a b + 1 = far a (y :: b)) (h : Least a b s) : Least a (y :: b) (43 :: s) := by
  refine ⟨.ins h.sc, by rw [co_ins, h.cost, hc], fun t ht hct => ?_⟩
  cases ht with
  | eq _ => exact head_not_lt (by decide)
  | @chg x _ a' _ _ hne h' =>
    have h1 := sc_ge h'
    rw [co_chg] at hct
    have h2 : far (x :: a') (y :: b) ≤ far a' b + 1 := by rw [far_cons, if_neg hne]; omega
    exact absurd (by omega) (hno x a' rfl hne)
  | ins h' => exact cons_not_lt (h.least _ h' (by rw [co_ins] at hct; omega))
  | del h' => exact head_not_lt (by decide)
theorem least_del {x : UInt8} {a b s : List UInt8} (hno : ∀ y b', b = y :: b' → (x ≠ y → far a b' + 1 ≠ far (x :: a) b) ∧ far (x :: a) b' + 1 ≠ far (x :: a) b) (hc : far a b + 1 = far (x :: a) b) (h : Least a b s) : Least (x :: a) b (45 :: s) := by
  refine ⟨.del h.sc, by rw [co_del, h.cost, hc], fun t ht hct => ?_⟩
  cases ht with
  | eq _ => exact head_not_lt (by decide)
  | @chg _ y _ b' _ hne h' =>
    have h1 := sc_ge h'
    rw [co_chg] at hct
    have h2 : far (x :: a) (y :: b') ≤ far a b' + 1 := by rw [far_cons, if_neg hne]; omega
    exact absurd (by omega) ((hno y b' rfl).1 hne)
  | @ins y _ b' _ h' =>
    have h1 := sc_ge h'
    rw [co_ins] at hct
    have h2 := far_ins y (x :: a) b'
    exact absurd (by omega) ((hno y b' rfl).2)
  | del h' => exact cons_not_lt (h.least _ h' (by rw [co_del] at hct; omega))
theorem least_eq {x : UInt8} {a b s : List UInt8} (h1 : far (x :: a) b + 1 ≠ far (x :: a) (x :: b)) (h2 : far a (x :: b) + 1 ≠ far (x :: a) (x :: b)) (h : Least a b s) : Least (x :: a) (x :: b) (61 :: s) := by
  refine ⟨.eq h.sc, by rw [co_eq, h.cost, far_same], fun t ht hct => ?_⟩
  cases ht with
  | eq h' => exact cons_not_lt (h.least _ h' (by rw [co_eq, far_same] at hct; omega))
  | chg hne _ => exact absurd rfl hne
  | ins h' =>
    have h3 := sc_ge h'
    rw [co_ins] at hct
    have := far_ins x (x :: a) b
    exact absurd (by omega) h1
  | del h' =>
    have h3 := sc_ge h'
    rw [co_del] at hct
    have := far_del x a (x :: b)
    exact absurd (by omega) h2
/-- Where none of the three can be the first step, both begin alike. -/
theorem least_left {x y : UInt8} {a b : List UInt8} (h0 : x ≠ y → far a b + 1 ≠ far (x :: a) (y :: b)) (h1 : far (x :: a) b + 1 ≠ far (x :: a) (y :: b)) (h2 : far a (y :: b) + 1 ≠ far (x :: a) (y :: b)) : x = y := by
  refine Classical.byContradiction fun hne => ?_
  have h3 := h0 hne
  have := far_cons x y a b
  rw [if_neg hne] at this
  omega
end Go.Proofs.Ytaodocdddfkglaa
