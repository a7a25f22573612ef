/-
  Plain mathematics, without a program: what a search for things that stand twice yields: pairs of a place and a length, in their order; what has been yielded so far, all of it, a part of it that ends with one; those of them that go on with their first sign; the first one. No condition.
-/
import Derived.Test.YtkpjflfhegejpaaDoorMem
import Derived.Test.YtkpjflfhegejpaaDoorThueM
namespace Go.Proofs.YtkpjflfhegejpaaDoor
open Go

/-- A place and a length at which something stands twice (more: with its first sign once more). -/
abbrev SqE (s : ByteArray) (more : Bool) : Type := { x : Nat × Nat // Sq (bs s) more x.1 x.2 }
def encQ {s : ByteArray} {more : Bool} (x : SqE s more) : Array Value := #[.int .i64 (x.1.1 : Int), .int .i64 (x.1.2 : Int)]
/-- All of them are there. -/
def AllQ {s : ByteArray} {more : Bool} (xs : List (SqE s more)) : Prop := ∀ i k, Sq (bs s) more i k → ∃ y, y ∈ xs ∧ y.1 = (i, k)
/-- All of them are there up to the last one. -/
def FirstQ {s : ByteArray} {more : Bool} (pre : List (SqE s more)) : Prop :=
  ∃ p x, pre = p ++ [x] ∧ ∀ i k, Sq (bs s) more i k → (∃ y, y ∈ p ∧ y.1 = (i, k)) ∨ x.1.1 < i ∨ (x.1.1 = i ∧ x.1.2 ≤ k)
theorem allQ_none {s : ByteArray} {more : Bool} (h : AllQ ([] : List (SqE s more))) : FSq (bs s) more (-1) 0 := .none fun i k hs => by
  obtain ⟨y, hy, _⟩ := h i k hs
  cases hy
theorem firstQ_some {s : ByteArray} {more : Bool} {x : SqE s more} (h : FirstQ [x]) : FSq (bs s) more (x.1.1 : Int) (x.1.2 : Int) := by
  obtain ⟨p, y, e, h⟩ := h
  cases p with
  | nil =>
    have e1 : x = y := by simpa using e
    subst e1
    exact .some x.2 fun i k hs => (h i k hs).resolve_left fun ⟨z, hz, _⟩ => by cases hz
  | cons a t => simp at e
/-- What has been yielded ahead of place i and length k. -/
structure GotQ {s : ByteArray} {more : Bool} (pre : List (SqE s more)) (i k : Nat) : Prop where
  few : pre.length + 1 ≤ 101 * i + k
  all : ∀ i' k', Sq (bs s) more i' k' → (∃ y, y ∈ pre ∧ y.1 = (i', k')) ∨ i < i' ∨ (i = i' ∧ k ≤ k')
theorem gotQ_start (s : ByteArray) (more : Bool) : GotQ ([] : List (SqE s more)) 0 1 := ⟨by simp, fun i' k' h => by have := h.1; omega⟩
theorem gotQ_next {s : ByteArray} {more : Bool} {pre : List (SqE s more)} {i k : Nat} (h : GotQ pre i k) (hn : ¬ Sq (bs s) more i k) : GotQ pre i (k + 1) :=
  ⟨by have := h.few; omega, fun i' k' h' => by
    rcases h.all i' k' h' with h1 | h1 | ⟨rfl, h2⟩
    · exact .inl h1
    · exact .inr (.inl h1)
    · by_cases e : k = k'
      · subst e; exact absurd h' hn
      · exact .inr (.inr ⟨rfl, by omega⟩)⟩
theorem gotQ_yield {s : ByteArray} {more : Bool} {pre : List (SqE s more)} {i k : Nat} (h : GotQ pre i k) (x : SqE s more) (hx : x.1 = (i, k)) : GotQ (pre ++ [x]) i (k + 1) :=
  ⟨by have := h.few; simp; omega, fun i' k' h' => by
    rcases h.all i' k' h' with ⟨y, hy, hy2⟩ | h1 | ⟨rfl, h2⟩
    · exact .inl ⟨y, by simp [hy], hy2⟩
    · exact .inr (.inl h1)
    · by_cases e : k = k'
      · subst e; exact .inl ⟨x, by simp, hx⟩
      · exact .inr (.inr ⟨rfl, by omega⟩)⟩
theorem gotQ_place {s : ByteArray} {more : Bool} {pre : List (SqE s more)} {i k : Nat} (h : GotQ pre i k) (hk : s.size < i + 2 * k) (hk2 : k ≤ 101) : GotQ pre (i + 1) 1 :=
  ⟨by have := h.few; omega, fun i' k' h' => by
    have h3 := h'.1
    have h4 := h'.2.1
    rw [bs_len] at h4
    rcases h.all i' k' h' with h1 | h1 | ⟨rfl, h2⟩
    · exact .inl h1
    · omega
    · omega⟩
theorem gotQ_end {s : ByteArray} {more : Bool} {pre : List (SqE s more)} {i : Nat} (h : GotQ pre i 1) (hi : s.size ≤ i) : AllQ pre := fun i' k' h' => by
  have h3 := h'.1
  have h4 := h'.2.1
  rw [bs_len] at h4
  rcases h.all i' k' h' with h1 | h1 | ⟨rfl, h2⟩
  · exact h1
  · omega
  · omega
theorem gotQ_stop {s : ByteArray} {more : Bool} {pre : List (SqE s more)} {i k : Nat} (h : GotQ pre i k) (x : SqE s more) (hx : x.1 = (i, k)) : FirstQ (pre ++ [x]) :=
  ⟨pre, x, rfl, fun i' k' h' => by rw [hx]; exact h.all i' k' h'⟩

/-- Those that go on with their first sign. -/
def ovF {s : ByteArray} (xs : List (SqE s false)) : List (SqE s true) := xs.filterMap fun x => if h : Sq (bs s) true x.1.1 x.1.2 then some ⟨x.1, h⟩ else none
theorem ovF_yes {s : ByteArray} (pre : List (SqE s false)) (x : SqE s false) (h : Sq (bs s) true x.1.1 x.1.2) : ovF (pre ++ [x]) = ovF pre ++ [⟨x.1, h⟩] := by
  simp [ovF, List.filterMap_append, h]
theorem ovF_no {s : ByteArray} (pre : List (SqE s false)) (x : SqE s false) (h : ¬ Sq (bs s) true x.1.1 x.1.2) : ovF (pre ++ [x]) = ovF pre := by
  simp [ovF, List.filterMap_append, h]
theorem ovF_few {s : ByteArray} (pre : List (SqE s false)) : (ovF pre).length ≤ pre.length := List.length_filterMap_le _ _
theorem ovF_mem {s : ByteArray} {pre : List (SqE s false)} {y : SqE s false} (hy : y ∈ pre) {i k : Nat} (he : y.1 = (i, k)) (h : Sq (bs s) true i k) : ∃ z, z ∈ ovF pre ∧ z.1 = (i, k) :=
  ⟨⟨(i, k), h⟩, List.mem_filterMap.2 ⟨y, hy, by
    have h1 : Sq (bs s) true y.1.1 y.1.2 := by rw [he]; exact h
    rw [dif_pos h1]
    exact congrArg some (Subtype.ext he)⟩, rfl⟩
theorem ovF_all {s : ByteArray} {xs : List (SqE s false)} (h : AllQ xs) : AllQ (ovF xs) := fun i k hs => by
  obtain ⟨y, hy, he⟩ := h i k (sq_less hs)
  exact ovF_mem hy he hs
theorem ovF_first {s : ByteArray} {p : List (SqE s false)} {x : SqE s false} (h : FirstQ (p ++ [x])) (hx : Sq (bs s) true x.1.1 x.1.2) : FirstQ (ovF (p ++ [x])) := by
  obtain ⟨p', x', e, h⟩ := h
  obtain ⟨e1, e2⟩ := List.append_inj' e rfl
  obtain rfl : x = x' := by simpa using e2
  subst e1
  rw [ovF_yes p x hx]
  refine ⟨ovF p, ⟨x.1, hx⟩, rfl, fun i k hs => ?_⟩
  rcases h i k (sq_less hs) with ⟨y, hy, he⟩ | h1
  · exact .inl (ovF_mem hy he hs)
  · exact .inr h1
end Go.Proofs.YtkpjflfhegejpaaDoor
