/-
  Plain mathematics, without a program: how package regex reads a pattern: an item without its stars, what is left where nothing more can be read. No condition.
-/
import Derived.Test.YtdhklkpeepmedaaDoorPat
import Derived.Test.YtdhklkpeepmedaaDoorBs
namespace Go.Proofs.YtdhklkpeepmedaaDoor

/-- An item at a text's beginning, without the stars behind it. -/
def uP : List UInt8 → Pt
  | [] => none
  | c :: t => if ltr c = true then some (.ch c, t) else if c = 40 then (match pE t with
    | some (r, d :: u) => if d = 41 then some (r, u) else none
    | _ => none) else none
/-- An item at a text's beginning. -/
def iP : List UInt8 → Pt
  | [] => none
  | c :: t => pP c t
theorem uP_letter {c : UInt8} (t : List UInt8) (h : ltr c = true) : uP (c :: t) = some (.ch c, t) := by rw [uP, if_pos h]
theorem uP_bad {c : UInt8} (t : List UInt8) (h : ltr c = false) (h' : c ≠ 40) : uP (c :: t) = none := by rw [uP, if_neg (by rw [h]; decide), if_neg h']
theorem uP_open {t : List UInt8} {r : Re UInt8} {u : List UInt8} (h : pE t = some (r, 41 :: u)) : uP (40 :: t) = some (r, u) := by
  rw [uP, if_neg (by decide), if_pos rfl, h]; rfl
theorem uP_shut {t : List UInt8} (h : ∀ r u, pE t ≠ some (r, 41 :: u)) : uP (40 :: t) = none := by
  rw [uP, if_neg (by decide), if_pos rfl]
  cases e : pE t with
  | none => rfl
  | some x =>
    obtain ⟨r, u⟩ := x
    cases u with
    | nil => rfl
    | cons d u =>
      by_cases hd : d = 41
      · subst hd; exact absurd e (h r u)
      · simp only [if_neg hd]
theorem iP_uP (l : List UInt8) : iP l = match uP l with
    | none => none
    | some (r, t) => some (prS r t) := by
  cases l with
  | nil => rfl
  | cons c t =>
    rw [show iP (c :: t) = pP c t from rfl]
    by_cases h : ltr c = true
    · rw [pP_letter t h, uP_letter t h]
    · have h0 : ltr c = false := by simpa using h
      by_cases h' : c = 40
      · subst h'
        by_cases hx : ∃ r u, pE t = some (r, 41 :: u)
        · obtain ⟨r, u, e⟩ := hx
          rw [pP_open, uP_open e, e]; rfl
        · rw [uP_shut (fun r u e => hx ⟨r, u, e⟩), pP_open]
          split
          · rename_i r d u e
            rw [if_neg (fun hd => hx ⟨r, u, by rw [e, hd]⟩)]
          · rfl
      · rw [pP_bad t h0 h', uP_bad t h0 h']
theorem iP_lt {l : List UInt8} {r : Re UInt8} {t : List UInt8} (h : iP l = some (r, t)) : t.length < l.length := by
  cases l with
  | nil => cases h
  | cons c s =>
    have := pP_le (show pP c s = some (r, t) from h)
    simp; omega
/-- Where no item can be read, a row ends, or nothing is a pattern. -/
theorem pR_item {l : List UInt8} (o : Option (Re UInt8)) {q : Re UInt8} {u : List UInt8} (h : iP l = some (q, u)) : pR o l = pR (some (catO o q)) u := by
  cases l with
  | nil => cases h
  | cons c t =>
    have h : pP c t = some (q, u) := h
    have hc : ¬ (c = 124 ∨ c = 41) := by
      rintro (rfl | rfl)
      · rw [pP_bad t ltr_bar (by decide)] at h; cases h
      · rw [pP_bad t ltr_shut (by decide)] at h; cases h
    rw [pR_part o t hc, h]
theorem pR_none {l : List UInt8} (o : Option (Re UInt8)) (h : iP l = none) : (Stop l ∧ pR o l = some (o.getD .eps, l)) ∨ (¬ Stop l ∧ pR o l = none) := by
  cases l with
  | nil => exact .inl ⟨.inl rfl, pR_nil o⟩
  | cons c t =>
    by_cases hc : c = 124 ∨ c = 41
    · exact .inl ⟨.inr ⟨c, t, rfl, hc⟩, pR_stop o t hc⟩
    · refine .inr ⟨?_, ?_⟩
      · rintro (h' | ⟨d, y, h', hd⟩)
        · cases h'
        · cases h'; exact hc hd
      · have h : pP c t = none := h
        rw [pR_part o t hc, h]
/-- What is read of a row: it, and what is left; or it is none, and no bar stands there, no shut bracket, and not the end. -/
def RowO (l : List UInt8) (x : List UInt8) (b : Bool) : Prop := (∃ r, pR none l = some (r, x) ∧ nul r = b) ∨ (pR none l = none ∧ ¬ Stop x)
/-- The same of alternatives. -/
def PatO (l : List UInt8) (x : List UInt8) (b : Bool) : Prop := (∃ r, pE l = some (r, x) ∧ nul r = b) ∨ (pE l = none ∧ ¬ Stop x)
/-- The state of the reading of alternatives. -/
def AltTo (l : List UInt8) (x : List UInt8) (b : Bool) : Prop := (∃ a, pE l = pA a x ∧ nul a = b) ∨ (pE l = none ∧ ¬ Stop x)
theorem altTo_start {l x : List UInt8} {b : Bool} (h : RowO l x b) : AltTo l x b := by
  rcases h with ⟨r, h, hb⟩ | ⟨h, hx⟩
  · exact .inl ⟨r, by rw [pE_eq, h], hb⟩
  · exact .inr ⟨by rw [pE_eq, h], hx⟩
theorem altTo_step {l u x : List UInt8} {b b' : Bool} (h : AltTo l (124 :: u) b) (k : RowO u x b') : AltTo l x (b || b') := by
  rcases h with ⟨a, h, hb⟩ | ⟨_, hx⟩
  · rw [pA_bar] at h
    rcases k with ⟨r, k, kb⟩ | ⟨k, kx⟩
    · rw [k] at h
      exact .inl ⟨.alt a r, h, by rw [← hb, ← kb]; rfl⟩
    · rw [k] at h
      exact .inr ⟨h, kx⟩
  · exact absurd (stop_bar u) hx
theorem altTo_end {l x : List UInt8} {b : Bool} (h : AltTo l x b) (hx : ∀ u, x ≠ 124 :: u) : PatO l x b := by
  rcases h with ⟨a, h, hb⟩ | h
  · refine .inl ⟨a, ?_, hb⟩
    cases x with
    | nil => rw [h, pA_nil]
    | cons c u => rw [h, pA_other a u (fun e => hx u (by rw [e]))]
  · exact .inr h
theorem patO_shut {l u : List UInt8} {b : Bool} (h : PatO l (41 :: u) b) : ∃ r, pE l = some (r, 41 :: u) ∧ nul r = b := by
  rcases h with h | ⟨_, h⟩
  · exact h
  · exact absurd (.inr ⟨41, u, rfl, .inr rfl⟩) h
theorem patO_open {l x : List UInt8} {b : Bool} (h : PatO l x b) (hx : ∀ u, x ≠ 41 :: u) (r : Re UInt8) (u : List UInt8) : pE l ≠ some (r, 41 :: u) := by
  intro e
  rcases h with ⟨r', h, _⟩ | ⟨h, _⟩
  · rw [e] at h
    have := Option.some.inj h
    exact hx u (by cases this; rfl)
  · rw [e] at h; cases h
/-- Nothing is left: it is a pattern; something is left: it is none. -/
theorem patO_all {l : List UInt8} {b : Bool} (h : PatO l [] b) : ∃ r, prs l = some r ∧ nul r = b := by
  rcases h with ⟨r, h, hb⟩ | ⟨_, h⟩
  · exact ⟨r, prs_some.2 h, hb⟩
  · exact absurd (.inl rfl) h
theorem patO_rest {l x : List UInt8} {b : Bool} (h : PatO l x b) (hx : x ≠ []) : prs l = none := prs_none fun r e => by
  rcases h with ⟨r', h, _⟩ | ⟨h, _⟩
  · rw [e] at h; cases h; exact hx rfl
  · rw [e] at h; cases h
theorem patO_le {l x : List UInt8} {b : Bool} (h : PatO l x b) (hx : x = [] ∨ ∃ u, x = 41 :: u) : x.length ≤ l.length := by
  rcases h with ⟨r', h, _⟩ | ⟨_, h⟩
  · exact pE_le h
  · exfalso
    rcases hx with rfl | ⟨u, rfl⟩
    · exact h (.inl rfl)
    · exact h (.inr ⟨41, u, rfl, .inr rfl⟩)
/-- The state of the reading of a row: whether the items so far are all without signs. -/
def RowTo (l : List UInt8) (x : List UInt8) (b : Bool) : Prop := ∃ o, pR none l = pR o x ∧ nul (o.getD .eps) = b
theorem rowTo_start (l : List UInt8) : RowTo l l true := ⟨none, rfl, rfl⟩
theorem rowTo_step {l x u : List UInt8} {b : Bool} {q : Re UInt8} (h : RowTo l x b) (k : iP x = some (q, u)) : RowTo l u (b && nul q) := by
  obtain ⟨o, h, hb⟩ := h
  refine ⟨some (catO o q), by rw [h, pR_item o k], ?_⟩
  rw [← hb]
  cases o <;> rfl
theorem rowTo_end {l x : List UInt8} {b : Bool} (h : RowTo l x b) (k : iP x = none) : RowO l x b := by
  obtain ⟨o, h, hb⟩ := h
  rcases pR_none o k with ⟨_, e⟩ | ⟨hx, e⟩
  · exact .inl ⟨_, h.trans e, hb⟩
  · exact .inr ⟨h.trans e, hx⟩
end Go.Proofs.YtdhklkpeepmedaaDoor
