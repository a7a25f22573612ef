/-
  Plain mathematics, without a program: what two texts have in common (a longest text that stands within both, the least of these), the way to it sign by sign; against how far they are by taking out and putting in alone; what stands within what. No condition.
-/
import Derived.Test.YtaodocdddfkglaaDoorLev
namespace Go.Proofs.YtaodocdddfkglaaDoor

/-- Longer, or as long and less. -/
def Bet (s t : List UInt8) : Prop := t.length < s.length ∨ (t.length = s.length ∧ s < t)
/-- s is no worse than t. -/
def Nw (s t : List UInt8) : Prop := t.length < s.length ∨ (t.length = s.length ∧ ¬ t < s)
theorem nw_refl (s : List UInt8) : Nw s s := .inr ⟨rfl, List.lt_irrefl s⟩
theorem nw_trans {s t u : List UInt8} (h : Nw s t) (k : Nw t u) : Nw s u := by
  rcases h with h | ⟨h, h'⟩ <;> rcases k with k | ⟨k, k'⟩
  · exact .inl (by omega)
  · exact .inl (by omega)
  · exact .inl (by omega)
  · exact .inr ⟨by omega, List.not_lt.2 (List.le_trans (List.not_lt.1 h') (List.not_lt.1 k'))⟩
theorem nw_anti {s t : List UInt8} (h : Nw s t) (k : Nw t s) : s = t := by
  rcases h with h | ⟨h, h'⟩ <;> rcases k with k | ⟨k, k'⟩
  · omega
  · omega
  · omega
  · exact List.le_antisymm (List.not_lt.1 h') (List.not_lt.1 k')
theorem nw_or (s t : List UInt8) : Nw s t ∨ Nw t s := by
  rcases Nat.lt_trichotomy s.length t.length with h | h | h
  · exact .inr (.inl h)
  · by_cases e : t < s
    · exact .inr (.inr ⟨h, fun e2 => List.lt_irrefl s (List.lt_trans e2 e)⟩)
    · exact .inl (.inr ⟨h.symm, e⟩)
  · exact .inl (.inl h)
theorem nw_cons {x : UInt8} {s t : List UInt8} (h : Nw s t) : Nw (x :: s) (x :: t) := by
  rcases h with h | ⟨h, h'⟩
  · exact .inl (by simpa using h)
  · exact .inr ⟨by simpa using h, cons_not_lt h'⟩
/-- The better one of two, the first one where they are the same. -/
def betL (s t : List UInt8) : List UInt8 := if s.length < t.length ∨ (s.length = t.length ∧ t < s) then t else s
theorem betL_left (s t : List UInt8) : Nw (betL s t) s := by
  unfold betL
  split
  · rename_i h
    rcases h with h | ⟨h, h'⟩
    · exact .inl h
    · exact .inr ⟨h, fun e => List.lt_irrefl s (List.lt_trans e h')⟩
  · exact nw_refl s
theorem betL_right (s t : List UInt8) : Nw (betL s t) t := by
  unfold betL
  split
  · exact nw_refl t
  · rename_i h
    rcases nw_or s t with k | k
    · exact k
    · refine .inr ?_
      rcases k with k | ⟨k, k'⟩
      · exact absurd (.inl k) h
      · exact ⟨k.symm, fun e => h (.inr ⟨k, e⟩)⟩
theorem betL_or (s t : List UInt8) : betL s t = s ∨ betL s t = t := by unfold betL; split <;> simp
/-- The same, asked the other way round. -/
theorem betL_swap (s t : List UInt8) : (if t.length < s.length ∨ (t.length = s.length ∧ s < t) then s else t) = betL s t := by
  have h1 := betL_left s t
  have h2 := betL_right s t
  split
  · rename_i h
    refine nw_anti ?_ h1
    rcases betL_or s t with e | e <;> rw [e]
    · exact nw_refl s
    · rcases h with h | ⟨h, h'⟩
      · exact .inl h
      · exact .inr ⟨h, fun e2 => List.lt_irrefl s (List.lt_trans h' e2)⟩
  · rename_i h
    refine nw_anti ?_ h2
    rcases betL_or s t with e | e <;> rw [e]
    · rcases nw_or t s with k | k
      · exact k
      · rcases k with k | ⟨k, k'⟩
        · exact absurd (.inl k) h
        · exact .inr ⟨k.symm, fun e2 => h (.inr ⟨k, e2⟩)⟩
    · exact nw_refl t
/-- Of all that stands within both, the best. -/
structure Cm (a b s : List UInt8) : Prop where
  left : List.Sublist s a
  right : List.Sublist s b
  most : ∀ c : List UInt8, c.Sublist a → c.Sublist b → Nw s c
theorem cm_one {a b s s' : List UInt8} (h : Cm a b s) (h' : Cm a b s') : s = s' := nw_anti (h.most s' h'.left h'.right) (h'.most s h.left h.right)
theorem cm_nil_left (b : List UInt8) : Cm [] b [] := ⟨List.Sublist.refl _, List.nil_sublist _, fun c h _ => by rw [List.sublist_nil.1 h]; exact nw_refl _⟩
theorem cm_nil_right (a : List UInt8) : Cm a [] [] := ⟨List.nil_sublist _, List.Sublist.refl _, fun c _ h => by rw [List.sublist_nil.1 h]; exact nw_refl _⟩
theorem cm_flip {a b s : List UInt8} (h : Cm a b s) : Cm b a s := ⟨h.right, h.left, fun c h1 h2 => h.most c h2 h1⟩
/-- Sign by sign. -/
theorem cm_step {x y : UInt8} {a b s t u : List UInt8} (h1 : Cm (x :: a) b s) (h2 : Cm a (y :: b) t) (h3 : Cm a b u) :
    Cm (x :: a) (y :: b) (if x = y then betL (betL s t) (x :: u) else betL s t) := by
  have base : (betL s t).Sublist (x :: a) ∧ (betL s t).Sublist (y :: b) := by
    rcases betL_or s t with e | e <;> rw [e]
    · exact ⟨h1.left, h1.right.trans (List.sublist_cons_self y b)⟩
    · exact ⟨h2.left.trans (List.sublist_cons_self x a), h2.right⟩
  have hl := betL_left s t
  have hr := betL_right s t
  by_cases e : x = y
  · subst e
    rw [if_pos rfl]
    have h4 := betL_left (betL s t) (x :: u)
    have h5 := betL_right (betL s t) (x :: u)
    refine ⟨?_, ?_, fun c hc1 hc2 => ?_⟩
    · rcases betL_or (betL s t) (x :: u) with e | e <;> rw [e]
      · exact base.1
      · exact h3.left.cons_cons x
    · rcases betL_or (betL s t) (x :: u) with e | e <;> rw [e]
      · exact base.2
      · exact h3.right.cons_cons x
    · rcases List.sublist_cons_iff.1 hc1 with k | ⟨r, rfl, k⟩
      · exact nw_trans h4 (nw_trans hr (h2.most c k hc2))
      · have k2 := List.cons_sublist_cons.1 hc2
        exact nw_trans h5 (nw_cons (h3.most r k k2))
  · rw [if_neg e]
    refine ⟨base.1, base.2, fun c hc1 hc2 => ?_⟩
    rcases List.sublist_cons_iff.1 hc1 with k | ⟨r, rfl, k⟩
    · exact nw_trans hr (h2.most c k hc2)
    · rcases List.sublist_cons_iff.1 hc2 with k2 | ⟨r2, e2, _⟩
      · exact nw_trans hl (h1.most _ hc1 k2)
      · injection e2 with e2 _; exact absurd e2 e
/-- What two texts have in common. -/
def cmn : List UInt8 → List UInt8 → List UInt8
  | [], _ => []
  | _ :: _, [] => []
  | x :: a, y :: b => if x = y then betL (betL (cmn (x :: a) b) (cmn a (y :: b))) (x :: cmn a b) else betL (cmn (x :: a) b) (cmn a (y :: b))
termination_by a b => a.length + b.length
theorem cmn_left (b : List UInt8) : cmn [] b = [] := by rw [cmn]
theorem cmn_right (a : List UInt8) : cmn a [] = [] := by
  cases a with
  | nil => rw [cmn]
  | cons x a => rw [cmn]
theorem cmn_cons (x y : UInt8) (a b : List UInt8) : cmn (x :: a) (y :: b) = if x = y then betL (betL (cmn (x :: a) b) (cmn a (y :: b))) (x :: cmn a b) else betL (cmn (x :: a) b) (cmn a (y :: b)) := by rw [cmn]
theorem cmn_cm : ∀ (a b : List UInt8), Cm a b (cmn a b)
  | [], b => by rw [cmn_left]; exact cm_nil_left b
  | x :: a, [] => by rw [cmn_right]; exact cm_nil_right _
  | x :: a, y :: b => by
    rw [cmn_cons]
    exact cm_step (cmn_cm (x :: a) b) (cmn_cm a (y :: b)) (cmn_cm a b)
termination_by a b => a.length + b.length
theorem cmn_sym (a b : List UInt8) : cmn a b = cmn b a := cm_one (cmn_cm a b) (cm_flip (cmn_cm b a))
/-- What they have in common, by its length alone: no text within both is longer. -/
theorem cmn_len {a b c : List UInt8} (h1 : c.Sublist a) (h2 : c.Sublist b) : c.length ≤ (cmn a b).length := by
  rcases (cmn_cm a b).most c h1 h2 with h | ⟨h, _⟩ <;> omega
theorem cmn_le (a b : List UInt8) : (cmn a b).length ≤ a.length ∧ (cmn a b).length ≤ b.length := ⟨(cmn_cm a b).left.length_le, (cmn_cm a b).right.length_le⟩
/-- The longest length, sign by sign. -/
theorem len_step (x y : UInt8) (a b : List UInt8) : (cmn (x :: a) (y :: b)).length = if x = y then (cmn a b).length + 1 else max (cmn (x :: a) b).length (cmn a (y :: b)).length := by
  have hb : ∀ s t : List UInt8, (betL s t).length = max s.length t.length := fun s t => by
    unfold betL
    split <;> omega
  rw [cmn_cons]
  by_cases e : x = y
  · subst e
    rw [if_pos rfl, if_pos rfl, hb, hb, List.length_cons]
    have drop1 : ∀ (p q : List UInt8) (z : UInt8), (cmn (z :: p) q).length ≤ (cmn p q).length + 1 := fun p q z => by
      have hc := cmn_cm (z :: p) q
      rcases List.sublist_cons_iff.1 hc.left with k | ⟨r, e2, k⟩
      · have := cmn_len k hc.right; omega
      · have := cmn_len k (((List.sublist_cons_self z r).trans (by rw [← e2]; exact List.Sublist.refl _)).trans hc.right)
        rw [e2, List.length_cons]; omega
    have h1 := drop1 a b x
    have h2 := drop1 b a x
    rw [cmn_sym (x :: b) a, cmn_sym b a] at h2
    omega
  · rw [if_neg e, if_neg e, hb]
/-- By taking out and putting in alone. -/
theorem indel_sc : ∀ (c a b : List UInt8), c.Sublist a → c.Sublist b → ∃ s, Sc a b s ∧ co s + 2 * c.length = a.length + b.length := by
  intro c
  have gen : ∀ (n : Nat) (c a b : List UInt8), a.length + b.length ≤ n → c.Sublist a → c.Sublist b → ∃ s, Sc a b s ∧ co s + 2 * c.length = a.length + b.length := by
    intro n
    induction n with
    | zero =>
      intro c a b hn h1 h2
      obtain rfl : a = [] := List.eq_nil_of_length_eq_zero (by omega)
      obtain rfl : b = [] := List.eq_nil_of_length_eq_zero (by omega)
      rw [List.sublist_nil.1 h1]
      exact ⟨[], .nil, rfl⟩
    | succ n ih =>
      intro c a b hn h1 h2
      cases h1 with
      | slnil => exact ⟨_, sc_only_ins b, by rw [co_rep _ (by decide)]; simp⟩
      | @cons _ a' x h1 =>
        rw [List.length_cons] at hn
        obtain ⟨s, k1, k2⟩ := ih c a' b (by omega) h1 h2
        exact ⟨_, .del k1, by rw [co_del, List.length_cons]; omega⟩
      | @cons_cons c' a' x h1 =>
        cases h2 with
        | @cons _ b' y h2 =>
          rw [List.length_cons, List.length_cons] at hn
          obtain ⟨s, k1, k2⟩ := ih (x :: c') (x :: a') b' (by rw [List.length_cons]; omega) (h1.cons_cons x) h2
          exact ⟨_, .ins k1, by rw [co_ins]; simp only [List.length_cons] at k2 ⊢; omega⟩
        | @cons_cons _ b' _ h2 =>
          rw [List.length_cons, List.length_cons] at hn
          obtain ⟨s, k1, k2⟩ := ih c' a' b' (by omega) h1 h2
          exact ⟨_, .eq k1, by rw [co_eq]; simp only [List.length_cons]; omega⟩
  exact fun a b => gen _ c a b (Nat.le_refl _)
/-- What a script leaves as it is stands within both. -/
theorem sc_common {a b s : List UInt8} (h : Sc a b s) : ∃ c : List UInt8, c.Sublist a ∧ c.Sublist b ∧ a.length + b.length ≤ 2 * c.length + 2 * co s := by
  induction h with
  | nil => exact ⟨[], List.Sublist.refl _, List.Sublist.refl _, by simp⟩
  | @eq x a b s h ih => obtain ⟨c, h1, h2, h3⟩ := ih; exact ⟨x :: c, h1.cons_cons x, h2.cons_cons x, by rw [co_eq]; simp only [List.length_cons]; omega⟩
  | @chg x y a b s hne h ih => obtain ⟨c, h1, h2, h3⟩ := ih; exact ⟨c, h1.cons x, h2.cons y, by rw [co_chg]; simp only [List.length_cons]; omega⟩
  | @ins y a b s h ih => obtain ⟨c, h1, h2, h3⟩ := ih; exact ⟨c, h1, h2.cons y, by rw [co_ins]; simp only [List.length_cons]; omega⟩
  | @del x a b s h ih => obtain ⟨c, h1, h2, h3⟩ := ih; exact ⟨c, h1.cons x, h2, by rw [co_del]; simp only [List.length_cons]; omega⟩
theorem common_edit (a b : List UInt8) : far a b + 2 * (cmn a b).length ≤ a.length + b.length ∧ a.length + b.length ≤ 2 * (cmn a b).length + 2 * far a b := by
  constructor
  · obtain ⟨s, h, e⟩ := indel_sc (cmn a b) a b (cmn_cm a b).left (cmn_cm a b).right
    have := sc_ge h
    omega
  · obtain ⟨s, h, e⟩ := sc_best a b
    obtain ⟨c, h1, h2, h3⟩ := sc_common h
    have := cmn_len h1 h2
    omega
theorem within_both {a b : List UInt8} (h : a.Sublist b) (k : b.Sublist a) : a = b := h.eq_of_length (Nat.le_antisymm h.length_le k.length_le)
theorem within_part (b : List UInt8) (i j : Nat) : ((b.take j).drop i).Sublist b := (List.drop_sublist i _).trans (List.take_sublist j b)
/-- All of a text is in common with another one just if it stands within it. -/
theorem cmn_all {a b : List UInt8} : (cmn a b).length = a.length ↔ a.Sublist b := by
  constructor
  · intro h
    rw [← (cmn_cm a b).left.eq_of_length h]
    exact (cmn_cm a b).right
  · intro h
    exact Nat.le_antisymm (cmn_le a b).1 (cmn_len (List.Sublist.refl a) h)
/-- Is a within b? The first sign of it that fits is taken. -/
def wiB : List UInt8 → List UInt8 → Bool
  | [], _ => true
  | _ :: _, [] => false
  | x :: a, y :: b => if x = y then wiB a b else wiB (x :: a) b
theorem wiB_iff : ∀ (b a : List UInt8), wiB a b = true ↔ a.Sublist b
  | [], [] => by simp [wiB]
  | [], x :: a => by simp [wiB]
  | y :: b, [] => by simp [wiB]
  | y :: b, x :: a => by
    rw [wiB]
    by_cases e : x = y
    · subst e
      rw [if_pos rfl, wiB_iff b a, List.cons_sublist_cons]
    · rw [if_neg e, wiB_iff b (x :: a)]
      constructor
      · exact fun h => h.cons y
      · intro h
        rcases List.sublist_cons_iff.1 h with k | ⟨r, e2, _⟩
        · exact k
        · injection e2 with e2 _; exact absurd e2 e
end Go.Proofs.YtaodocdddfkglaaDoor
