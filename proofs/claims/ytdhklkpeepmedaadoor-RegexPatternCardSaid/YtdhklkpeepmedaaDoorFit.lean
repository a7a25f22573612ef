/-
  Plain mathematics, without a program: whether a text fits a pattern, as a Boolean; a pattern as a tree among nodes that are numbered. No condition.
-/
import Derived.Test.YtdhklkpeepmedaaDoorRe
namespace Go.Proofs.YtdhklkpeepmedaaDoor

/-- Does a text fit? By its signs, one behind the other. -/
def mtB : Re UInt8 → List UInt8 → Bool
  | r, [] => nul r
  | r, c :: s => (der c r).any fun q => mtB q s
theorem mtB_iff : ∀ (s : List UInt8) (r : Re UInt8), mtB r s = true ↔ Mt r s
  | [], r => by rw [mtB, nul_iff]
  | c :: s, r => by
    rw [mtB, List.any_eq_true, der_iff]
    constructor
    · rintro ⟨q, hq, h⟩; exact ⟨q, hq, (mtB_iff s q).1 h⟩
    · rintro ⟨q, hq, h⟩; exact ⟨q, hq, (mtB_iff s q).2 h⟩
theorem bool_iff {a b : Bool} (h : a = true ↔ b = true) : a = b := by cases a <;> cases b <;> simp_all
theorem mtB_congr {r q : Re UInt8} {s : List UInt8} (h : Mt r s ↔ Mt q s) : mtB r s = mtB q s := bool_iff (by rw [mtB_iff, mtB_iff]; exact h)
theorem mtB_eps (s : List UInt8) : mtB .eps s = decide (s.length = 0) := bool_iff (by
  rw [mtB_iff, mt_eps, decide_eq_true_eq, List.length_eq_zero_iff])
theorem mtB_ch (c : UInt8) (s : List UInt8) : mtB (.ch c) s = true ↔ s = [c] := by rw [mtB_iff, mt_ch]
theorem mtB_alt (a b : Re UInt8) (s : List UInt8) : mtB (.alt a b) s = (mtB a s || mtB b s) := bool_iff (by
  rw [Bool.or_eq_true, mtB_iff, mtB_iff, mtB_iff, mt_alt])
/-- A row, cut at a place below m. -/
def cutB (a b : Re UInt8) (s : List UInt8) : Nat → Bool
  | 0 => false
  | m + 1 => cutB a b s m || (mtB a (s.take m) && mtB b (s.drop m))
theorem cutB_iff (a b : Re UInt8) (s : List UInt8) : ∀ m, cutB a b s m = true ↔ ∃ i, i < m ∧ Mt a (s.take i) ∧ Mt b (s.drop i)
  | 0 => ⟨fun h => (by cases h), fun ⟨i, h, _⟩ => absurd h (by omega)⟩
  | m + 1 => by
    rw [cutB, Bool.or_eq_true, cutB_iff a b s m, Bool.and_eq_true, mtB_iff, mtB_iff]
    constructor
    · rintro (⟨i, h, k⟩ | h)
      · exact ⟨i, by omega, k⟩
      · exact ⟨m, by omega, h⟩
    · rintro ⟨i, h, k⟩
      by_cases e : i = m
      · subst e; exact .inr k
      · exact .inl ⟨i, by omega, k⟩
theorem mtB_cat (a b : Re UInt8) (s : List UInt8) : mtB (.cat a b) s = cutB a b s (s.length + 1) := bool_iff (by
  rw [mtB_iff, mt_cat, cutB_iff]
  constructor
  · rintro ⟨u, v, rfl, h, k⟩
    exact ⟨u.length, by rw [List.length_append]; omega, by rw [List.take_left]; exact h, by rw [List.drop_left]; exact k⟩
  · rintro ⟨i, _, h, k⟩
    exact ⟨_, _, (List.take_append_drop i s).symm, h, k⟩)
theorem cutB_stop {a b : Re UInt8} {s : List UInt8} {m : Nat} (h1 : mtB a (s.take m) = true) (h2 : mtB b (s.drop m) = true) {n : Nat} (h : m < n) : cutB a b s n = true :=
  (cutB_iff a b s n).2 ⟨m, h, (mtB_iff _ _).1 h1, (mtB_iff _ _).1 h2⟩
theorem mtB_star_nil (a : Re UInt8) : mtB (.star a) [] = true := rfl
/-- Again and again, cut at a place from 1 on, below m. -/
def starB (a : Re UInt8) (s : List UInt8) : Nat → Bool
  | 0 => false
  | m + 1 => starB a s m || (decide (0 < m) && (mtB a (s.take m) && mtB (.star a) (s.drop m)))
theorem starB_iff (a : Re UInt8) (s : List UInt8) : ∀ m, starB a s m = true ↔ ∃ i, 0 < i ∧ i < m ∧ Mt a (s.take i) ∧ Mt (.star a) (s.drop i)
  | 0 => ⟨fun h => (by cases h), fun ⟨i, _, h, _⟩ => absurd h (by omega)⟩
  | m + 1 => by
    rw [starB, Bool.or_eq_true, starB_iff a s m, Bool.and_eq_true, Bool.and_eq_true, decide_eq_true_eq, mtB_iff, mtB_iff]
    constructor
    · rintro (⟨i, h0, h, k⟩ | ⟨h0, h⟩)
      · exact ⟨i, h0, by omega, k⟩
      · exact ⟨m, h0, by omega, h⟩
    · rintro ⟨i, h0, h, k⟩
      by_cases e : i = m
      · subst e; exact .inr ⟨h0, k⟩
      · exact .inl ⟨i, h0, by omega, k⟩
theorem mtB_star (a : Re UInt8) {s : List UInt8} (h0 : s ≠ []) : mtB (.star a) s = starB a s (s.length + 1) := bool_iff (by
  rw [mtB_iff, mt_star, starB_iff]
  constructor
  · rintro (h | ⟨u, v, rfl, hu, h, k⟩)
    · exact absurd h h0
    · exact ⟨u.length, List.length_pos_iff.2 hu, by rw [List.length_append]; omega, by rw [List.take_left]; exact h, by rw [List.drop_left]; exact k⟩
  · rintro ⟨i, hi, hl, h, k⟩
    refine .inr ⟨_, _, (List.take_append_drop i s).symm, fun e => ?_, h, k⟩
    have := congrArg List.length e
    rw [List.length_take, List.length_nil] at this
    have := List.length_pos_iff.2 h0
    omega)
theorem starB_stop {a : Re UInt8} {s : List UInt8} {m : Nat} (h0 : 0 < m) (h1 : mtB a (s.take m) = true) (h2 : mtB (.star a) (s.drop m) = true) {n : Nat} (h : m < n) : starB a s n = true :=
  (starB_iff a s n).2 ⟨m, h0, h, (mtB_iff _ _).1 h1, (mtB_iff _ _).1 h2⟩
theorem starB_one (a : Re UInt8) (s : List UInt8) : starB a s 1 = false := rfl
theorem starB_succ (a : Re UInt8) (s : List UInt8) {m : Nat} (h : 0 < m) : starB a s (m + 1) = (starB a s m || (mtB a (s.take m) && mtB (.star a) (s.drop m))) := by
  rw [starB, decide_eq_true h, Bool.true_and]

/-- A node: its kind, its sign, and two numbers of nodes. -/
abbrev Nd := Nat × UInt8 × Nat × Nat
/-- Node k is the top of a tree. -/
def TreeAt (N : List Nd) : Re UInt8 → Nat → Prop
  | .eps, k => ∃ c l r, N[k]? = some (0, c, l, r)
  | .ch c, k => ∃ l r, N[k]? = some (1, c, l, r)
  | .alt a b, k => ∃ c l r, N[k]? = some (2, c, l, r) ∧ TreeAt N a l ∧ TreeAt N b r
  | .cat a b, k => ∃ c l r, N[k]? = some (3, c, l, r) ∧ TreeAt N a l ∧ TreeAt N b r
  | .star a, k => ∃ c l r, N[k]? = some (4, c, l, r) ∧ TreeAt N a l
theorem TreeAt.lt {N : List Nd} : ∀ {r : Re UInt8} {k : Nat}, TreeAt N r k → k < N.length
  | .eps, _, ⟨_, _, _, h⟩ => (List.getElem?_eq_some_iff.1 h).1
  | .ch _, _, ⟨_, _, h⟩ => (List.getElem?_eq_some_iff.1 h).1
  | .alt _ _, _, ⟨_, _, _, h, _⟩ => (List.getElem?_eq_some_iff.1 h).1
  | .cat _ _, _, ⟨_, _, _, h, _⟩ => (List.getElem?_eq_some_iff.1 h).1
  | .star _, _, ⟨_, _, _, h, _⟩ => (List.getElem?_eq_some_iff.1 h).1
theorem getElem?_grow {α : Type} {N M : List α} {k : Nat} {x : α} (h : N[k]? = some x) : (N ++ M)[k]? = some x := by
  rw [List.getElem?_append_left (List.getElem?_eq_some_iff.1 h).1]; exact h
/-- More nodes behind are no matter. -/
theorem TreeAt.grow {N : List Nd} (M : List Nd) : ∀ {r : Re UInt8} {k : Nat}, TreeAt N r k → TreeAt (N ++ M) r k
  | .eps, _, ⟨c, l, r, h⟩ => ⟨c, l, r, getElem?_grow h⟩
  | .ch _, _, ⟨l, r, h⟩ => ⟨l, r, getElem?_grow h⟩
  | .alt _ _, _, ⟨c, l, r, h, h1, h2⟩ => ⟨c, l, r, getElem?_grow h, h1.grow M, h2.grow M⟩
  | .cat _ _, _, ⟨c, l, r, h, h1, h2⟩ => ⟨c, l, r, getElem?_grow h, h1.grow M, h2.grow M⟩
  | .star _, _, ⟨c, l, r, h, h1⟩ => ⟨c, l, r, getElem?_grow h, h1.grow M⟩
theorem last_node (N : List Nd) (x : Nd) : (N ++ [x])[N.length]? = some x := by simp
end Go.Proofs.YtdhklkpeepmedaaDoor
