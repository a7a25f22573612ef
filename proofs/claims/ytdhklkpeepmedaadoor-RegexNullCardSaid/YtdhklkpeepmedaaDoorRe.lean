/-
  Plain mathematics, without a program: patterns, what fits them, without signs, behind a first sign (derivatives), with signs turned into others, and which signs there are. No condition.
-/
namespace Go.Proofs.YtdhklkpeepmedaaDoor

/-- A pattern over signs of any kind. -/
inductive Re (α : Type) where
  | eps : Re α
  | ch (c : α) : Re α
  | alt (a b : Re α) : Re α
  | cat (a b : Re α) : Re α
  | star (a : Re α) : Re α
/-- What fits a pattern. -/
inductive Mt {α : Type} : Re α → List α → Prop
  | eps : Mt .eps []
  | ch (c : α) : Mt (.ch c) [c]
  | left {a b : Re α} {s : List α} (h : Mt a s) : Mt (.alt a b) s
  | right {a b : Re α} {s : List α} (h : Mt b s) : Mt (.alt a b) s
  | cat {a b : Re α} {s t : List α} (h : Mt a s) (k : Mt b t) : Mt (.cat a b) (s ++ t)
  | none {a : Re α} : Mt (.star a) []
  | more {a : Re α} {s t : List α} (h : Mt a s) (h0 : s ≠ []) (k : Mt (.star a) t) : Mt (.star a) (s ++ t)
theorem mt_eps {α : Type} {s : List α} : Mt (.eps : Re α) s ↔ s = [] := ⟨fun h => by cases h; rfl, fun h => by subst h; exact .eps⟩
theorem mt_ch {α : Type} {c : α} {s : List α} : Mt (.ch c) s ↔ s = [c] := ⟨fun h => by cases h; rfl, fun h => by subst h; exact .ch c⟩
theorem mt_alt {α : Type} {a b : Re α} {s : List α} : Mt (.alt a b) s ↔ Mt a s ∨ Mt b s := by
  constructor
  · intro h
    cases h with
    | left h => exact .inl h
    | right h => exact .inr h
  · rintro (h | h)
    · exact .left h
    · exact .right h
theorem mt_cat {α : Type} {a b : Re α} {s : List α} : Mt (.cat a b) s ↔ ∃ u v, s = u ++ v ∧ Mt a u ∧ Mt b v := by
  constructor
  · intro h
    cases h with
    | cat h k => exact ⟨_, _, rfl, h, k⟩
  · rintro ⟨u, v, rfl, h, k⟩
    exact .cat h k
theorem mt_star {α : Type} {a : Re α} {s : List α} : Mt (.star a) s ↔ s = [] ∨ ∃ u v, s = u ++ v ∧ u ≠ [] ∧ Mt a u ∧ Mt (.star a) v := by
  constructor
  · intro h
    cases h with
    | none => exact .inl rfl
    | more h h0 k => exact .inr ⟨_, _, rfl, h0, h, k⟩
  · rintro (rfl | ⟨u, v, rfl, h0, h, k⟩)
    · exact .none
    · exact .more h h0 k
/-- A text that fits, whatever it is, and more: again and again. -/
theorem star_any {α : Type} {a : Re α} {s t : List α} (h : Mt a s) (k : Mt (.star a) t) : Mt (.star a) (s ++ t) := by
  by_cases e : s = []
  · subst e; exact k
  · exact .more h e k
theorem star_one {α : Type} {a : Re α} {s : List α} (h : Mt a s) : Mt (.star a) s := by
  have := star_any h .none
  rwa [List.append_nil] at this
/-- KLEENE. -/
theorem star_kleene {α : Type} {a : Re α} {s : List α} : Mt (.star a) s ↔ Mt (.alt .eps (.cat a (.star a))) s := by
  rw [mt_star, mt_alt, mt_eps, mt_cat]
  constructor
  · rintro (h | ⟨u, v, e, _, h, k⟩)
    · exact .inl h
    · exact .inr ⟨u, v, e, h, k⟩
  · rintro (h | ⟨u, v, e, h, k⟩)
    · exact .inl h
    · by_cases hu : u = []
      · subst hu
        rw [List.nil_append] at e
        subst e
        exact mt_star.1 k
      · exact .inr ⟨u, v, e, hu, h, k⟩
/-- Does the empty text fit? -/
def nul {α : Type} : Re α → Bool
  | .eps => true
  | .ch _ => false
  | .alt a b => nul a || nul b
  | .cat a b => nul a && nul b
  | .star _ => true
theorem nul_iff {α : Type} : ∀ r : Re α, nul r = true ↔ Mt r []
  | .eps => ⟨fun _ => .eps, fun _ => rfl⟩
  | .ch c => ⟨fun h => (by cases h), fun h => (by have := mt_ch.1 h; cases this)⟩
  | .alt a b => by rw [nul, Bool.or_eq_true, nul_iff a, nul_iff b, mt_alt]
  | .cat a b => by
    rw [nul, Bool.and_eq_true, nul_iff a, nul_iff b, mt_cat]
    constructor
    · rintro ⟨h, k⟩; exact ⟨[], [], rfl, h, k⟩
    · rintro ⟨u, v, e, h, k⟩
      obtain ⟨rfl, rfl⟩ := List.append_eq_nil_iff.1 e.symm
      exact ⟨h, k⟩
  | .star a => ⟨fun _ => .none, fun _ => rfl⟩
/-- Each pattern fits something. -/
theorem mt_some {α : Type} : ∀ r : Re α, ∃ s, Mt r s
  | .eps => ⟨[], .eps⟩
  | .ch c => ⟨[c], .ch c⟩
  | .alt a _ => by obtain ⟨s, h⟩ := mt_some a; exact ⟨s, .left h⟩
  | .cat a b => by obtain ⟨s, h⟩ := mt_some a; obtain ⟨t, k⟩ := mt_some b; exact ⟨s ++ t, .cat h k⟩
  | .star _ => ⟨[], .none⟩
/-- The signs of a pattern, as they stand. -/
def sgs {α : Type} : Re α → List α
  | .eps => []
  | .ch c => [c]
  | .alt a b => sgs a ++ sgs b
  | .cat a b => sgs a ++ sgs b
  | .star a => sgs a
theorem mt_sgs {α : Type} {r : Re α} {s : List α} (h : Mt r s) : ∀ c ∈ s, c ∈ sgs r := by
  induction h with
  | eps => intro c hc; cases hc
  | ch c => intro d hd; exact hd
  | left h ih => intro c hc; exact List.mem_append_left _ (ih c hc)
  | right h ih => intro c hc; exact List.mem_append_right _ (ih c hc)
  | cat h k ih ik =>
    intro c hc
    rcases List.mem_append.1 hc with hc | hc
    · exact List.mem_append_left _ (ih c hc)
    · exact List.mem_append_right _ (ik c hc)
  | none => intro c hc; cases hc
  | more h h0 k ih ik =>
    intro c hc
    rcases List.mem_append.1 hc with hc | hc
    · exact ih c hc
    · exact ik c hc
/-- Other signs for its signs. -/
def Re.map {α β : Type} (f : α → β) : Re α → Re β
  | .eps => .eps
  | .ch c => .ch (f c)
  | .alt a b => .alt (a.map f) (b.map f)
  | .cat a b => .cat (a.map f) (b.map f)
  | .star a => .star (a.map f)
theorem mt_map {α β : Type} (f : α → β) {r : Re α} {w : List α} (h : Mt r w) : Mt (r.map f) (w.map f) := by
  induction h with
  | eps => exact .eps
  | ch c => exact .ch (f c)
  | left h ih => exact .left ih
  | right h ih => exact .right ih
  | cat h k ih ik => rw [List.map_append]; exact .cat ih ik
  | none => exact .none
  | more h h0 k ih ik => rw [List.map_append]; exact .more ih (fun e => h0 (List.map_eq_nil_iff.1 e)) ik
theorem map_mt {α β : Type} (f : α → β) : ∀ {r : Re α} {s : List β}, Mt (r.map f) s → ∃ w, Mt r w ∧ w.map f = s := by
  intro r
  induction r with
  | eps => intro s h; exact ⟨[], .eps, (mt_eps.1 h).symm⟩
  | ch c => intro s h; exact ⟨[c], .ch c, (mt_ch.1 h).symm⟩
  | alt a b iha ihb =>
    intro s h
    rcases mt_alt.1 h with h | h
    · obtain ⟨w, k, e⟩ := iha h; exact ⟨w, .left k, e⟩
    · obtain ⟨w, k, e⟩ := ihb h; exact ⟨w, .right k, e⟩
  | cat a b iha ihb =>
    intro s h
    obtain ⟨u, v, rfl, h, k⟩ := mt_cat.1 h
    obtain ⟨x, hx, rfl⟩ := iha h
    obtain ⟨y, hy, rfl⟩ := ihb k
    exact ⟨x ++ y, .cat hx hy, List.map_append⟩
  | star a iha =>
    have key : ∀ (n : Nat) (s : List β), s.length ≤ n → Mt (Re.star (a.map f)) s → ∃ w, Mt (Re.star a) w ∧ w.map f = s := by
      intro n
      induction n with
      | zero =>
        intro s hs _
        obtain rfl := List.eq_nil_of_length_eq_zero (Nat.le_zero.1 hs)
        exact ⟨[], .none, rfl⟩
      | succ n ih =>
        intro s hs h
        rcases mt_star.1 h with rfl | ⟨u, v, rfl, h0, h, k⟩
        · exact ⟨[], .none, rfl⟩
        · obtain ⟨x, hx, rfl⟩ := iha h
          have hl : 0 < (x.map f).length := List.length_pos_iff.2 h0
          rw [List.length_append] at hs
          obtain ⟨y, hy, rfl⟩ := ih v (by omega) k
          exact ⟨x ++ y, star_any hx hy, List.map_append⟩
    intro s h
    exact key s.length s (Nat.le_refl _) h

/-! ### Behind a first sign -/
/-- Patterns behind a first sign: any of these fits what is left. -/
def der {α : Type} [DecidableEq α] (c : α) : Re α → List (Re α)
  | .eps => []
  | .ch d => if c = d then [.eps] else []
  | .alt a b => der c a ++ der c b
  | .cat a b => (der c a).map (fun r => .cat r b) ++ if nul a then der c b else []
  | .star a => (der c a).map (fun r => .cat r (.star a))
theorem der_iff {α : Type} [DecidableEq α] (c : α) : ∀ (r : Re α) (s : List α), Mt r (c :: s) ↔ ∃ q ∈ der c r, Mt q s
  | .eps, s => by
    rw [mt_eps]
    exact ⟨fun h => (by cases h), fun ⟨q, hq, _⟩ => (by cases hq)⟩
  | .ch d, s => by
    rw [mt_ch, der]
    constructor
    · intro h
      injection h with h1 h2
      subst h1 h2
      rw [if_pos rfl]
      exact ⟨.eps, by simp, .eps⟩
    · rintro ⟨q, hq, h⟩
      by_cases e : c = d
      · rw [if_pos e] at hq
        obtain rfl := List.mem_singleton.1 hq
        rw [mt_eps.1 h, e]
      · rw [if_neg e] at hq; cases hq
  | .alt a b, s => by
    rw [mt_alt, der_iff c a s, der_iff c b s, der]
    constructor
    · rintro (⟨q, hq, h⟩ | ⟨q, hq, h⟩)
      · exact ⟨q, List.mem_append_left _ hq, h⟩
      · exact ⟨q, List.mem_append_right _ hq, h⟩
    · rintro ⟨q, hq, h⟩
      rcases List.mem_append.1 hq with hq | hq
      · exact .inl ⟨q, hq, h⟩
      · exact .inr ⟨q, hq, h⟩
  | .cat a b, s => by
    rw [mt_cat, der]
    constructor
    · rintro ⟨u, v, e, h, k⟩
      cases u with
      | nil =>
        rw [List.nil_append] at e
        subst e
        obtain ⟨q, hq, h2⟩ := (der_iff c b s).1 k
        exact ⟨q, List.mem_append_right _ (by rw [if_pos ((nul_iff a).2 h)]; exact hq), h2⟩
      | cons d u =>
        injection e with e1 e2
        subst e1 e2
        obtain ⟨q, hq, h2⟩ := (der_iff c a u).1 h
        exact ⟨.cat q b, List.mem_append_left _ (List.mem_map.2 ⟨q, hq, rfl⟩), .cat h2 k⟩
    · rintro ⟨q, hq, h⟩
      rcases List.mem_append.1 hq with hq | hq
      · obtain ⟨p, hp, rfl⟩ := List.mem_map.1 hq
        obtain ⟨u, v, rfl, h1, h2⟩ := mt_cat.1 h
        exact ⟨c :: u, v, rfl, (der_iff c a u).2 ⟨p, hp, h1⟩, h2⟩
      · by_cases e : nul a = true
        · rw [if_pos e] at hq
          exact ⟨[], c :: s, rfl, (nul_iff a).1 e, (der_iff c b s).2 ⟨q, hq, h⟩⟩
        · rw [if_neg e] at hq; cases hq
  | .star a, s => by
    rw [mt_star, der]
    constructor
    · rintro (h | ⟨u, v, e, h0, h, k⟩)
      · cases h
      · cases u with
        | nil => exact absurd rfl h0
        | cons d u =>
          injection e with e1 e2
          subst e1 e2
          obtain ⟨q, hq, h2⟩ := (der_iff c a u).1 h
          exact ⟨.cat q (.star a), List.mem_map.2 ⟨q, hq, rfl⟩, .cat h2 k⟩
    · rintro ⟨q, hq, h⟩
      obtain ⟨p, hp, rfl⟩ := List.mem_map.1 hq
      obtain ⟨u, v, rfl, h1, h2⟩ := mt_cat.1 h
      exact .inr ⟨c :: u, v, rfl, by simp, (der_iff c a u).2 ⟨p, hp, h1⟩, h2⟩
/-- What begins something that fits. -/
def Bg {α : Type} (r : Re α) (s : List α) : Prop := ∃ t, Mt r (s ++ t)
theorem bg_of {α : Type} {r : Re α} {s : List α} (h : Mt r s) : Bg r s := ⟨[], by rwa [List.append_nil]⟩
theorem bg_less {α : Type} {r : Re α} {s t : List α} (h : Bg r (s ++ t)) : Bg r s := by
  obtain ⟨u, h⟩ := h
  exact ⟨t ++ u, by rwa [← List.append_assoc]⟩
theorem bg_more {α : Type} {r : Re α} {s : List α} (h : Bg r s) : Mt r s ∨ ∃ c ∈ sgs r, Bg r (s ++ [c]) := by
  obtain ⟨t, h⟩ := h
  cases t with
  | nil => rw [List.append_nil] at h; exact .inl h
  | cons c t => exact .inr ⟨c, mt_sgs h c (by simp), t, by rw [List.append_assoc]; exact h⟩
end Go.Proofs.YtdhklkpeepmedaaDoor
