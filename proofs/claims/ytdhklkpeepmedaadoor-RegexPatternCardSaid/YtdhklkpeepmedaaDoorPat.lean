/-
  Plain mathematics, without a program: how the text of a pattern is read: alternatives, rows of parts, stars behind a part; a pattern's letters; patterns built of patterns. No condition.
-/
import Derived.Test.YtdhklkpeepmedaaDoorRe
namespace Go.Proofs.YtdhklkpeepmedaaDoor

/-- A small letter. -/
def ltr (c : UInt8) : Bool := decide (97 ≤ c ∧ c ≤ 122)
theorem ltr_bar : ltr 124 = false := by decide
theorem ltr_star : ltr 42 = false := by decide
theorem ltr_open : ltr 40 = false := by decide
theorem ltr_shut : ltr 41 = false := by decide
theorem ltr_ne {c d : UInt8} (h : ltr c = true) (hd : ltr d = false) : c ≠ d := fun e => by subst e; rw [h] at hd; cases hd

abbrev Pt := Option (Re UInt8 × List UInt8)
/-- Stars behind a part. -/
def prS : Re UInt8 → List UInt8 → Re UInt8 × List UInt8
  | r, [] => (r, [])
  | r, c :: t => if c = 42 then prS (.star r) t else (r, c :: t)
def catO : Option (Re UInt8) → Re UInt8 → Re UInt8
  | none, q => q
  | some a, q => .cat a q
mutual
def prE : Nat → List UInt8 → Pt
  | 0, _ => none
  | n + 1, s => match prR n none s with
    | none => none
    | some (r, t) => prA n r t
def prA : Nat → Re UInt8 → List UInt8 → Pt
  | 0, _, _ => none
  | _ + 1, a, [] => some (a, [])
  | n + 1, a, c :: t => if c = 124 then (match prR n none t with
    | none => none
    | some (r, u) => prA n (.alt a r) u) else some (a, c :: t)
def prR : Nat → Option (Re UInt8) → List UInt8 → Pt
  | 0, _, _ => none
  | _ + 1, acc, [] => some (acc.getD .eps, [])
  | n + 1, acc, c :: t => if c = 124 ∨ c = 41 then some (acc.getD .eps, c :: t) else match prP n c t with
    | none => none
    | some (q, u) => prR n (some (catO acc q)) u
def prP : Nat → UInt8 → List UInt8 → Pt
  | 0, _, _ => none
  | n + 1, c, t => if ltr c = true then some (prS (.ch c) t) else if c = 40 then (match prE n t with
    | some (r, d :: u) => if d = 41 then some (prS r u) else none
    | _ => none) else none
end

theorem prS_le : ∀ (r : Re UInt8) (t : List UInt8), (prS r t).2.length ≤ t.length
  | r, [] => Nat.le_refl _
  | r, c :: t => by
    unfold prS
    split
    · have := prS_le (.star r) t
      rw [List.length_cons]; omega
    · exact Nat.le_refl _
/-- What is left is no longer, and less behind a part. -/
theorem pr_le : ∀ n : Nat, (∀ s r t, prE n s = some (r, t) → t.length ≤ s.length) ∧ (∀ a s r t, prA n a s = some (r, t) → t.length ≤ s.length) ∧
    (∀ o s r t, prR n o s = some (r, t) → t.length ≤ s.length) ∧ (∀ c s r t, prP n c s = some (r, t) → t.length ≤ s.length) := by
  intro n
  induction n with
  | zero => exact ⟨fun s r t h => by simp [prE] at h, fun a s r t h => by simp [prA] at h, fun o s r t h => by simp [prR] at h, fun c s r t h => by simp [prP] at h⟩
  | succ n ih =>
    obtain ⟨iE, iA, iR, iP⟩ := ih
    refine ⟨fun s r t h => ?_, fun a s r t h => ?_, fun o s r t h => ?_, fun c s r t h => ?_⟩
    · rw [prE] at h
      split at h
      · cases h
      · rename_i r1 t1 e
        exact Nat.le_trans (iA _ _ _ _ h) (iR _ _ _ _ e)
    · cases s with
      | nil => rw [prA] at h; cases h; exact Nat.le_refl _
      | cons c s =>
        rw [prA] at h
        split at h
        · split at h
          · cases h
          · rename_i r1 t1 e
            have h1 := iA _ _ _ _ h
            have h2 := iR _ _ _ _ e
            rw [List.length_cons]; omega
        · cases h; exact Nat.le_refl _
    · cases s with
      | nil => rw [prR] at h; cases h; exact Nat.le_refl _
      | cons c s =>
        rw [prR] at h
        split at h
        · cases h; exact Nat.le_refl _
        · split at h
          · cases h
          · rename_i r1 t1 e
            have h1 := iR _ _ _ _ h
            have h2 := iP _ _ _ _ e
            rw [List.length_cons]; omega
    · rw [prP] at h
      split at h
      · have e := Option.some.inj h
        rw [show t = (prS (.ch c) s).2 by rw [e]]
        exact prS_le _ _
      · split at h
        · split at h
          · rename_i r1 d u e
            split at h
            · have e2 := Option.some.inj h
              rw [show t = (prS r1 u).2 by rw [e2]]
              have h1 := iE _ _ _ e
              have h2 := prS_le r1 u
              rw [List.length_cons] at h1; omega
            · cases h
          · cases h
        · cases h
/-- Enough is enough. -/
theorem pr_more : ∀ n : Nat, (∀ s, 3 * s.length + 3 ≤ n → prE n s = prE (n + 1) s) ∧ (∀ a s, 3 * s.length + 1 ≤ n → prA n a s = prA (n + 1) a s) ∧
    (∀ o s, 3 * s.length + 2 ≤ n → prR n o s = prR (n + 1) o s) ∧ (∀ c s, 3 * s.length + 4 ≤ n → prP n c s = prP (n + 1) c s) := by
  intro n
  induction n with
  | zero => exact ⟨fun s h => by omega, fun a s h => by omega, fun o s h => by omega, fun c s h => by omega⟩
  | succ n ih =>
    obtain ⟨iE, iA, iR, iP⟩ := ih
    refine ⟨fun s h => ?_, fun a s h => ?_, fun o s h => ?_, fun c s h => ?_⟩
    · rw [prE, prE, iR none s (by omega)]
      split
      · rfl
      · rename_i r1 t1 e
        have := (pr_le _).2.2.1 _ _ _ _ e
        exact iA _ _ (by omega)
    · cases s with
      | nil => rw [prA, prA]
      | cons c s =>
        rw [List.length_cons] at h
        rw [prA, prA, iR none s (by omega)]
        split
        · split
          · rfl
          · rename_i r1 t1 e
            have := (pr_le _).2.2.1 _ _ _ _ e
            exact iA _ _ (by omega)
        · rfl
    · cases s with
      | nil => rw [prR, prR]
      | cons c s =>
        rw [List.length_cons] at h
        rw [prR, prR, iP c s (by omega)]
        split
        · rfl
        · split
          · rfl
          · rename_i r1 t1 e
            have := (pr_le _).2.2.2 _ _ _ _ e
            exact iR _ _ (by omega)
    · rw [prP, prP, iE s (by omega)]
theorem pr_far (n : Nat) : ∀ m : Nat, (∀ s, 3 * s.length + 3 ≤ n → prE (n + m) s = prE n s) ∧ (∀ a s, 3 * s.length + 1 ≤ n → prA (n + m) a s = prA n a s) ∧
    (∀ o s, 3 * s.length + 2 ≤ n → prR (n + m) o s = prR n o s) ∧ (∀ c s, 3 * s.length + 4 ≤ n → prP (n + m) c s = prP n c s) := by
  intro m
  induction m with
  | zero => exact ⟨fun s h => rfl, fun a s h => rfl, fun o s h => rfl, fun c s h => rfl⟩
  | succ m ih =>
    obtain ⟨iE, iA, iR, iP⟩ := ih
    obtain ⟨jE, jA, jR, jP⟩ := pr_more (n + m)
    exact ⟨fun s h => (jE s (by omega)).symm.trans (iE s h), fun a s h => (jA a s (by omega)).symm.trans (iA a s h), fun o s h => (jR o s (by omega)).symm.trans (iR o s h), fun c s h => (jP c s (by omega)).symm.trans (iP c s h)⟩

/-- Alternatives, what stands behind one, a row, a part: without a bound. -/
def pE (s : List UInt8) : Pt := prE (3 * s.length + 3) s
def pA (a : Re UInt8) (s : List UInt8) : Pt := prA (3 * s.length + 1) a s
def pR (o : Option (Re UInt8)) (s : List UInt8) : Pt := prR (3 * s.length + 2) o s
def pP (c : UInt8) (s : List UInt8) : Pt := prP (3 * s.length + 4) c s
theorem pE_of {n : Nat} {s : List UInt8} (h : 3 * s.length + 3 ≤ n) : prE n s = pE s := by
  have := (pr_far (3 * s.length + 3) (n - (3 * s.length + 3))).1 s (Nat.le_refl _)
  rwa [show 3 * s.length + 3 + (n - (3 * s.length + 3)) = n by omega] at this
theorem pA_of {n : Nat} {a : Re UInt8} {s : List UInt8} (h : 3 * s.length + 1 ≤ n) : prA n a s = pA a s := by
  have := (pr_far (3 * s.length + 1) (n - (3 * s.length + 1))).2.1 a s (Nat.le_refl _)
  rwa [show 3 * s.length + 1 + (n - (3 * s.length + 1)) = n by omega] at this
theorem pR_of {n : Nat} {o : Option (Re UInt8)} {s : List UInt8} (h : 3 * s.length + 2 ≤ n) : prR n o s = pR o s := by
  have := (pr_far (3 * s.length + 2) (n - (3 * s.length + 2))).2.2.1 o s (Nat.le_refl _)
  rwa [show 3 * s.length + 2 + (n - (3 * s.length + 2)) = n by omega] at this
theorem pP_of {n : Nat} {c : UInt8} {s : List UInt8} (h : 3 * s.length + 4 ≤ n) : prP n c s = pP c s := by
  have := (pr_far (3 * s.length + 4) (n - (3 * s.length + 4))).2.2.2 c s (Nat.le_refl _)
  rwa [show 3 * s.length + 4 + (n - (3 * s.length + 4)) = n by omega] at this
theorem pE_le {s : List UInt8} {r : Re UInt8} {t : List UInt8} (h : pE s = some (r, t)) : t.length ≤ s.length := (pr_le _).1 _ _ _ h
theorem pA_le {a : Re UInt8} {s : List UInt8} {r : Re UInt8} {t : List UInt8} (h : pA a s = some (r, t)) : t.length ≤ s.length := (pr_le _).2.1 _ _ _ _ h
theorem pR_le {o : Option (Re UInt8)} {s : List UInt8} {r : Re UInt8} {t : List UInt8} (h : pR o s = some (r, t)) : t.length ≤ s.length := (pr_le _).2.2.1 _ _ _ _ h
theorem pP_le {c : UInt8} {s : List UInt8} {r : Re UInt8} {t : List UInt8} (h : pP c s = some (r, t)) : t.length ≤ s.length := (pr_le _).2.2.2 _ _ _ _ h
theorem pE_eq (s : List UInt8) : pE s = match pR none s with
    | none => none
    | some (r, t) => pA r t := by
  rw [pE, prE, pR_of (by omega)]
  split
  · rfl
  · rename_i r t e
    have := pR_le e
    exact pA_of (by omega)
theorem pA_nil (a : Re UInt8) : pA a [] = some (a, []) := rfl
theorem pA_bar (a : Re UInt8) (t : List UInt8) : pA a (124 :: t) = match pR none t with
    | none => none
    | some (r, u) => pA (.alt a r) u := by
  rw [pA, List.length_cons, prA, if_pos rfl, pR_of (by omega)]
  split
  · rfl
  · rename_i r u e
    have := pR_le e
    exact pA_of (by omega)
theorem pA_other (a : Re UInt8) {c : UInt8} (t : List UInt8) (h : c ≠ 124) : pA a (c :: t) = some (a, c :: t) := by
  rw [pA, List.length_cons, prA, if_neg h]
theorem pR_nil (o : Option (Re UInt8)) : pR o [] = some (o.getD .eps, []) := rfl
theorem pR_stop (o : Option (Re UInt8)) {c : UInt8} (t : List UInt8) (h : c = 124 ∨ c = 41) : pR o (c :: t) = some (o.getD .eps, c :: t) := by
  rw [pR, List.length_cons, prR, if_pos h]
theorem pR_part (o : Option (Re UInt8)) {c : UInt8} (t : List UInt8) (h : ¬ (c = 124 ∨ c = 41)) : pR o (c :: t) = match pP c t with
    | none => none
    | some (q, u) => pR (some (catO o q)) u := by
  rw [pR, List.length_cons, prR, if_neg h, pP_of (by omega)]
  split
  · rfl
  · rename_i q u e
    have := pP_le e
    exact pR_of (by omega)
theorem pP_letter {c : UInt8} (t : List UInt8) (h : ltr c = true) : pP c t = some (prS (.ch c) t) := by
  rw [pP, prP, if_pos h]
theorem pP_open (t : List UInt8) : pP 40 t = match pE t with
    | some (r, d :: u) => if d = 41 then some (prS r u) else none
    | _ => none := by
  rw [pP, prP, if_neg (by decide), if_pos rfl, pE_of (by omega)]
theorem pP_bad {c : UInt8} (t : List UInt8) (h : ltr c = false) (h' : c ≠ 40) : pP c t = none := by
  rw [pP, prP, if_neg (by rw [h]; decide), if_neg h']
theorem prS_nil (r : Re UInt8) : prS r [] = (r, []) := rfl
theorem prS_star (r : Re UInt8) (t : List UInt8) : prS r (42 :: t) = prS (.star r) t := by rw [prS, if_pos rfl]
theorem prS_other (r : Re UInt8) {c : UInt8} (t : List UInt8) (h : c ≠ 42) : prS r (c :: t) = (r, c :: t) := by rw [prS, if_neg h]

/-- What the whole of a text means as a pattern. -/
def prs (s : List UInt8) : Option (Re UInt8) := match pE s with
  | some (r, []) => some r
  | _ => none
theorem prs_some {s : List UInt8} {r : Re UInt8} : prs s = some r ↔ pE s = some (r, []) := by
  unfold prs
  split
  · rename_i r' e
    rw [e]
    simp
  · rename_i h
    constructor
    · intro e; cases e
    · intro e; exact absurd e (h r)
theorem prs_none {s : List UInt8} (h : ∀ r, pE s ≠ some (r, [])) : prs s = none := by
  cases e : prs s with
  | none => rfl
  | some r => exact absurd (prs_some.1 e) (h r)

/-! ### What is read ahead of other texts -/
theorem prS_any {y : List UInt8} : ∀ (r : Re UInt8) (s : List UInt8), (prS r s).2 ≠ [] → prS r (s ++ y) = ((prS r s).1, (prS r s).2 ++ y)
  | r, [], h => absurd rfl h
  | r, c :: t, h => by
    rw [List.cons_append]
    by_cases hc : c = 42
    · subst hc
      rw [prS_star] at h
      rw [prS_star, prS_star, prS_any (.star r) t h]
    · rw [prS_other r _ hc, prS_other r _ hc]; rfl
/-- Where something is left, it is read so whatever stands behind. -/
theorem pr_any (y : List UInt8) : ∀ n : Nat, (∀ s r t, s.length ≤ n → t ≠ [] → pE s = some (r, t) → pE (s ++ y) = some (r, t ++ y)) ∧ (∀ a s r t, s.length ≤ n → t ≠ [] → pA a s = some (r, t) → pA a (s ++ y) = some (r, t ++ y)) ∧
    (∀ o s r t, s.length ≤ n → t ≠ [] → pR o s = some (r, t) → pR o (s ++ y) = some (r, t ++ y)) ∧ (∀ c s r t, s.length < n → t ≠ [] → pP c s = some (r, t) → pP c (s ++ y) = some (r, t ++ y)) := by
  intro n
  induction n with
  | zero =>
    refine ⟨fun s r t hs ht h => ?_, fun a s r t hs ht h => ?_, fun o s r t hs ht h => ?_, fun c s r t hs h => by omega⟩
    · have := pE_le h
      exact absurd (List.eq_nil_of_length_eq_zero (by omega)) ht
    · have := pA_le h
      exact absurd (List.eq_nil_of_length_eq_zero (by omega)) ht
    · have := pR_le h
      exact absurd (List.eq_nil_of_length_eq_zero (by omega)) ht
  | succ n ih =>
    obtain ⟨iE, iA, iR, iP⟩ := ih
    have jP : ∀ c s r t, s.length < n + 1 → t ≠ [] → pP c s = some (r, t) → pP c (s ++ y) = some (r, t ++ y) := fun c s r t hs ht h => by
      by_cases hl : ltr c = true
      · rw [pP_letter s hl] at h
        have e := Option.some.inj h
        rw [pP_letter _ hl, prS_any _ _ (by rw [e]; exact ht), e]
      · by_cases ho : c = 40
        · subst ho
          rw [pP_open] at h ⊢
          split at h
          · rename_i r1 d u e
            split at h
            · rename_i hd
              subst hd
              have e2 := Option.some.inj h
              rw [iE s r1 (41 :: u) (by omega) (by simp) e]
              simp only [List.cons_append, if_true]
              rw [prS_any _ _ (by rw [e2]; exact ht), e2]
            · cases h
          · cases h
        · rw [pP_bad s (by simpa using hl) ho] at h; cases h
    have jR : ∀ o s r t, s.length ≤ n + 1 → t ≠ [] → pR o s = some (r, t) → pR o (s ++ y) = some (r, t ++ y) := fun o s r t hs ht h => by
      cases s with
      | nil => exact iR o [] r t (by simp) ht h
      | cons c s =>
        rw [List.length_cons] at hs
        by_cases hc : c = 124 ∨ c = 41
        · rw [pR_stop o s hc] at h
          rw [List.cons_append, pR_stop o _ hc]
          cases h
          rfl
        · rw [pR_part o s hc] at h
          rw [List.cons_append, pR_part o _ hc]
          split at h
          · cases h
          · rename_i q u e
            have hu : u ≠ [] := fun e0 => by subst e0; rw [pR_nil] at h; cases h; exact ht rfl
            rw [jP c s q u (by omega) hu e]
            have := pP_le e
            exact iR _ u r t (by omega) ht h
    have jA : ∀ a s r t, s.length ≤ n + 1 → t ≠ [] → pA a s = some (r, t) → pA a (s ++ y) = some (r, t ++ y) := fun a s r t hs ht h => by
      cases s with
      | nil => exact iA a [] r t (by simp) ht h
      | cons c s =>
        rw [List.length_cons] at hs
        by_cases hc : c = 124
        · subst hc
          rw [pA_bar] at h
          rw [List.cons_append, pA_bar]
          split at h
          · cases h
          · rename_i q u e
            have hu : u ≠ [] := fun e0 => by subst e0; rw [pA_nil] at h; cases h; exact ht rfl
            rw [iR none s q u (by omega) hu e]
            have := pR_le e
            exact iA _ u r t (by omega) ht h
        · rw [pA_other a s hc] at h
          rw [List.cons_append, pA_other a _ hc]
          cases h
          rfl
    refine ⟨fun s r t hs ht h => ?_, jA, jR, jP⟩
    rw [pE_eq] at h ⊢
    split at h
    · cases h
    · rename_i q u e
      have hu : u ≠ [] := fun e0 => by subst e0; rw [pA_nil] at h; cases h; exact ht rfl
      rw [jR none s q u hs hu e]
      have := pR_le e
      exact jA q u r t (by omega) ht h
/-- What may stand behind a row: nothing, a bar or a shut bracket first. -/
def Stop (x : List UInt8) : Prop := x = [] ∨ ∃ c y, x = c :: y ∧ (c = 124 ∨ c = 41)
/-- What may stand behind a pattern: nothing, or a shut bracket first. -/
def Shut (x : List UInt8) : Prop := x = [] ∨ ∃ y, x = 41 :: y
theorem Shut.stop {x : List UInt8} (h : Shut x) : Stop x := by
  rcases h with h | ⟨y, h⟩
  · exact .inl h
  · exact .inr ⟨41, y, h, .inr rfl⟩
theorem stop_bar (y : List UInt8) : Stop (124 :: y) := .inr ⟨124, y, rfl, .inl rfl⟩
theorem prS_stop {x : List UInt8} (hx : Stop x) : ∀ (r : Re UInt8) (t : List UInt8), prS r (t ++ x) = ((prS r t).1, (prS r t).2 ++ x)
  | r, [] => by
    rcases hx with rfl | ⟨c, y, rfl, hc⟩
    · rfl
    · rw [List.nil_append, prS_nil, prS_other r y (by rcases hc with rfl | rfl <;> decide)]; rfl
  | r, c :: t => by
    rw [List.cons_append]
    by_cases h : c = 42
    · subst h
      rw [prS_star, prS_star, prS_stop hx]
    · rw [prS_other r _ h, prS_other r _ h]; rfl
theorem pP_ahead {x : List UInt8} (hx : Stop x) {c : UInt8} {s : List UInt8} {q : Re UInt8} {u : List UInt8} (h : pP c s = some (q, u)) : pP c (s ++ x) = some (q, u ++ x) := by
  by_cases hl : ltr c = true
  · rw [pP_letter s hl] at h
    have e := Option.some.inj h
    rw [pP_letter _ hl, prS_stop hx, e]
  · by_cases ho : c = 40
    · subst ho
      rw [pP_open] at h ⊢
      split at h
      · rename_i r1 d v e
        split at h
        · rename_i hd
          subst hd
          have e2 := Option.some.inj h
          rw [(pr_any x s.length).1 s r1 (41 :: v) (Nat.le_refl _) (by simp) e]
          simp only [List.cons_append, if_true]
          rw [prS_stop hx, e2]
        · cases h
      · cases h
    · rw [pP_bad s (by simpa using hl) ho] at h; cases h
theorem pR_ahead {x : List UInt8} (hx : Stop x) : ∀ (n : Nat) (o : Option (Re UInt8)) (s : List UInt8) (r : Re UInt8) (t : List UInt8), s.length ≤ n → pR o s = some (r, t) → pR o (s ++ x) = some (r, t ++ x) := by
  have zR : ∀ o : Option (Re UInt8), pR o x = some (o.getD .eps, x) := fun o => by
    rcases hx with rfl | ⟨c, y, rfl, hc⟩
    · rfl
    · exact pR_stop o y hc
  intro n
  induction n with
  | zero =>
    intro o s r t hs h
    obtain rfl := List.eq_nil_of_length_eq_zero (Nat.le_zero.1 hs)
    rw [pR_nil] at h
    cases h
    exact zR o
  | succ n ih =>
    intro o s r t hs h
    cases s with
    | nil => exact ih o [] r t (by simp) h
    | cons c s =>
      rw [List.length_cons] at hs
      by_cases hc : c = 124 ∨ c = 41
      · rw [pR_stop o s hc] at h
        rw [List.cons_append, pR_stop o _ hc]
        cases h
        rfl
      · rw [pR_part o s hc] at h
        rw [List.cons_append, pR_part o _ hc]
        split at h
        · cases h
        · rename_i q u e
          rw [pP_ahead hx e]
          have := pP_le e
          exact ih _ u r t (by omega) h
theorem pA_ahead {x : List UInt8} (hx : Shut x) : ∀ (n : Nat) (a : Re UInt8) (s : List UInt8) (r : Re UInt8) (t : List UInt8), s.length ≤ n → pA a s = some (r, t) → pA a (s ++ x) = some (r, t ++ x) := by
  have zA : ∀ a : Re UInt8, pA a x = some (a, x) := fun a => by
    rcases hx with rfl | ⟨y, rfl⟩
    · rfl
    · exact pA_other a y (by decide)
  intro n
  induction n with
  | zero =>
    intro a s r t hs h
    obtain rfl := List.eq_nil_of_length_eq_zero (Nat.le_zero.1 hs)
    rw [pA_nil] at h
    cases h
    exact zA a
  | succ n ih =>
    intro a s r t hs h
    cases s with
    | nil => exact ih a [] r t (by simp) h
    | cons c s =>
      rw [List.length_cons] at hs
      by_cases hc : c = 124
      · subst hc
        rw [pA_bar] at h
        rw [List.cons_append, pA_bar]
        split at h
        · cases h
        · rename_i q u e
          rw [pR_ahead hx.stop _ none s q u (Nat.le_refl _) e]
          have := pR_le e
          exact ih _ u r t (by omega) h
      · rw [pA_other a s hc] at h
        rw [List.cons_append, pA_other a _ hc]
        cases h
        rfl
theorem pE_shut {x : List UInt8} (hx : Shut x) {s : List UInt8} {r : Re UInt8} {t : List UInt8} (h : pE s = some (r, t)) : pE (s ++ x) = some (r, t ++ x) := by
  rw [pE_eq] at h ⊢
  split at h
  · cases h
  · rename_i q u e
    rw [pR_ahead hx.stop _ none s q u (Nat.le_refl _) e]
    exact pA_ahead hx _ q u r t (Nat.le_refl _) h
theorem pE_ahead {s : List UInt8} {r : Re UInt8} (h : prs s = some r) {x : List UInt8} (hx : Shut x) : pE (s ++ x) = some (r, x) :=
  pE_shut hx (prs_some.1 h)
/-- In brackets, with stars and more behind. -/
theorem pP_brackets {s : List UInt8} {r : Re UInt8} (h : prs s = some r) (t : List UInt8) : pP 40 (s ++ 41 :: t) = some (prS r t) := by
  rw [pP_open, pE_ahead h (.inr ⟨t, rfl⟩)]
  rfl
theorem prs_brackets {s : List UInt8} {r : Re UInt8} (h : prs s = some r) : prs (40 :: (s ++ [41])) = some r := by
  rw [prs_some, pE_eq, pR_part none _ (by decide), pP_brackets h []]
  rfl
theorem prs_starred {s : List UInt8} {r : Re UInt8} (h : prs s = some r) : prs (40 :: (s ++ [41, 42])) = some (.star r) := by
  rw [prs_some, pE_eq, pR_part none _ (by decide), pP_brackets h [42]]
  rfl
theorem prs_both {s t : List UInt8} {r q : Re UInt8} (h : prs s = some r) (k : prs t = some q) : prs (40 :: (s ++ 41 :: 40 :: (t ++ [41]))) = some (.cat r q) := by
  rw [prs_some, pE_eq, pR_part none _ (by decide), pP_brackets h, prS_other r _ (by decide)]
  simp only
  rw [pR_part _ _ (by decide), pP_brackets k]
  rfl
/-- '|(p)(p)*' -/
theorem prs_unfold {s : List UInt8} {r : Re UInt8} (h : prs s = some r) : prs (124 :: 40 :: (s ++ 41 :: 40 :: (s ++ [41, 42]))) = some (.alt .eps (.cat r (.star r))) := by
  rw [prs_some, pE_eq, pR_stop none _ (.inl rfl)]
  simp only [Option.getD_none]
  rw [pA_bar, pR_part none _ (by decide), pP_brackets h, prS_other r _ (by decide)]
  simp only
  rw [pR_part _ _ (by decide), pP_brackets h]
  rfl
/-- With one bracket too many it is none. -/
theorem prs_open {s : List UInt8} {r : Re UInt8} (h : prs s = some r) : prs (40 :: s) = none := by
  refine prs_none fun q hq => ?_
  rw [pE_eq, pR_part none _ (by decide), pP_open, prs_some.1 h] at hq
  simp at hq
theorem prs_shut {s : List UInt8} {r : Re UInt8} (h : prs s = some r) : prs (s ++ [41]) = none := by
  refine prs_none fun q hq => ?_
  rw [pE_ahead h (.inr ⟨[], rfl⟩)] at hq
  simp at hq
/-! ### One or the other one -/
theorem pA_bars (y : List UInt8) : ∀ (n : Nat) (a : Re UInt8) (s : List UInt8) (r : Re UInt8), s.length ≤ n → pA a s = some (r, []) → pA a (s ++ 124 :: y) = pA r (124 :: y) := by
  intro n
  induction n with
  | zero =>
    intro a s r hs h
    obtain rfl := List.eq_nil_of_length_eq_zero (Nat.le_zero.1 hs)
    rw [pA_nil] at h
    cases h
    rfl
  | succ n ih =>
    intro a s r hs h
    cases s with
    | nil => exact ih a [] r (by simp) h
    | cons c s =>
      rw [List.length_cons] at hs
      by_cases hc : c = 124
      · subst hc
        rw [pA_bar] at h
        rw [List.cons_append, pA_bar]
        split at h
        · cases h
        · rename_i q u e
          rw [pR_ahead (stop_bar y) _ none s q u (Nat.le_refl _) e]
          have := pR_le e
          exact ih _ u r (by omega) h
      · rw [pA_other a s hc] at h
        cases h
/-- An alternative more at the beginning. -/
theorem pA_first {r : Re UInt8} : ∀ (n : Nat) (a b : Re UInt8) (s : List UInt8) (x : Re UInt8) (t : List UInt8), s.length ≤ n → (∀ w, Mt b w ↔ Mt r w ∨ Mt a w) → pA a s = some (x, t) → ∃ z, pA b s = some (z, t) ∧ ∀ w, Mt z w ↔ Mt r w ∨ Mt x w := by
  intro n
  induction n with
  | zero =>
    intro a b s x t hs hb h
    obtain rfl := List.eq_nil_of_length_eq_zero (Nat.le_zero.1 hs)
    rw [pA_nil] at h
    cases h
    exact ⟨b, rfl, hb⟩
  | succ n ih =>
    intro a b s x t hs hb h
    cases s with
    | nil => exact ih a b [] x t (by simp) hb h
    | cons c s =>
      rw [List.length_cons] at hs
      by_cases hc : c = 124
      · subst hc
        rw [pA_bar] at h
        rw [pA_bar]
        split at h
        · cases h
        · rename_i q u e
          have := pR_le e
          refine ih _ _ u x t (by omega) (fun w => ?_) h
          rw [mt_alt, mt_alt, hb, or_assoc]
      · rw [pA_other a s hc] at h
        cases h
        exact ⟨b, pA_other b s hc, hb⟩
theorem prs_bar {s t : List UInt8} {r q : Re UInt8} (h : prs s = some r) (k : prs t = some q) : ∃ z, prs (s ++ 124 :: t) = some z ∧ ∀ w, Mt z w ↔ Mt r w ∨ Mt q w := by
  have h := prs_some.1 h
  have k := prs_some.1 k
  rw [pE_eq] at h k
  split at h
  · cases h
  rename_i r1 u e1
  split at k
  · cases k
  rename_i q1 v e2
  obtain ⟨z, hz, hw⟩ := pA_first (r := r) v.length q1 (.alt r q1) v q [] (Nat.le_refl _) (fun w => mt_alt) k
  refine ⟨z, prs_some.2 ?_, hw⟩
  rw [pE_eq, pR_ahead (stop_bar t) _ none s r1 u (Nat.le_refl _) e1]
  simp only
  rw [pA_bars t u.length r1 u r (Nat.le_refl _) h, pA_bar, e2]
  exact hz

/-! ### Its letters -/
def sgO : Option (Re UInt8) → List UInt8
  | none => []
  | some r => sgs r
theorem prS_sgs : ∀ (r : Re UInt8) (t : List UInt8), sgs (prS r t).1 ++ (prS r t).2.filter ltr = sgs r ++ t.filter ltr
  | r, [] => rfl
  | r, c :: t => by
    by_cases h : c = 42
    · subst h
      rw [prS_star, prS_sgs (.star r) t, List.filter_cons, ltr_star]
      rfl
    · rw [prS_other r t h]
theorem pr_sgs : ∀ n : Nat, (∀ s r t, prE n s = some (r, t) → sgs r ++ t.filter ltr = s.filter ltr) ∧ (∀ a s r t, prA n a s = some (r, t) → sgs r ++ t.filter ltr = sgs a ++ s.filter ltr) ∧
    (∀ o s r t, prR n o s = some (r, t) → sgs r ++ t.filter ltr = sgO o ++ s.filter ltr) ∧ (∀ c s r t, prP n c s = some (r, t) → sgs r ++ t.filter ltr = (c :: s).filter ltr) := by
  have getO : ∀ o : Option (Re UInt8), sgs (o.getD .eps) = sgO o := fun o => by cases o <;> rfl
  intro n
  induction n with
  | zero => exact ⟨fun s r t h => by simp [prE] at h, fun a s r t h => by simp [prA] at h, fun o s r t h => by simp [prR] at h, fun c s r t h => by simp [prP] at h⟩
  | succ n ih =>
    obtain ⟨iE, iA, iR, iP⟩ := ih
    refine ⟨fun s r t h => ?_, fun a s r t h => ?_, fun o s r t h => ?_, fun c s r t h => ?_⟩
    · rw [prE] at h
      split at h
      · cases h
      · rename_i r1 t1 e
        rw [iA _ _ _ _ h, iR _ _ _ _ e]; rfl
    · cases s with
      | nil => rw [prA] at h; cases h; rfl
      | cons c s =>
        rw [prA] at h
        split at h
        · rename_i hc
          subst hc
          split at h
          · cases h
          · rename_i r1 t1 e
            have h1 := iR _ _ _ _ e
            rw [iA _ _ _ _ h, List.filter_cons, ltr_bar, show sgs (.alt a r1) = sgs a ++ sgs r1 from rfl, List.append_assoc, h1]
            rfl
        · cases h; rfl
    · cases s with
      | nil => rw [prR] at h; cases h; rw [getO]
      | cons c s =>
        rw [prR] at h
        split at h
        · cases h; rw [getO]
        · split at h
          · cases h
          · rename_i r1 t1 e
            have h1 := iP _ _ _ _ e
            have e2 : sgO (some (catO o r1)) = sgO o ++ sgs r1 := by cases o <;> rfl
            rw [iR _ _ _ _ h, e2, List.append_assoc, h1]
    · rw [prP] at h
      split at h
      · rename_i hl
        have e := Option.some.inj h
        have h2 := prS_sgs (.ch c) s
        rw [e] at h2
        rw [h2, List.filter_cons, if_pos hl]
        rfl
      · split at h
        · rename_i hc
          subst hc
          split at h
          · rename_i r1 d u e
            split at h
            · rename_i hd
              subst hd
              have e2 := Option.some.inj h
              have h1 := iE _ _ _ e
              have h2 := prS_sgs r1 u
              rw [e2] at h2
              rw [List.filter_cons, ltr_shut] at h1
              have h3 : sgs r1 ++ u.filter ltr = s.filter ltr := h1
              rw [h2, h3, List.filter_cons, ltr_open]
              rfl
            · cases h
          · cases h
        · cases h
/-- The letters of a pattern are the small letters of its text. -/
theorem prs_sgs {s : List UInt8} {r : Re UInt8} (h : prs s = some r) : sgs r = s.filter ltr := by
  have := (pr_sgs _).1 _ _ _ (prs_some.1 h)
  simpa using this
end Go.Proofs.YtdhklkpeepmedaaDoor
