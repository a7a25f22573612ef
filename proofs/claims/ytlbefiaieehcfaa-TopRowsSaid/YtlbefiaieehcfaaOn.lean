/-
  What is kept from call to call, without sizes: a slice of numbers, and the old memory (Below.on). No condition.
-/
import Derived.Test.YtlbefiaieehcfaaMem
namespace Go.Proofs.Ytlbefiaieehcfaa
open Go.RowKit

theorem own_n {w : World} {base n : Nat} {e : TypeId} {v : Value} {xs : List Int} (h : OwnI w base e v xs) (hn : xs.length = n) : ∃ A c, v = .slice A n c ∧ IsInts w w.heap.size A n xs := by
  subst hn
  obtain ⟨A, c, h1, _, h2⟩ := IsInts.of_own h
  exact ⟨A, c, h1, h2⟩
/-- What reads as a list does so where all that lay there is kept. -/
theorem IsInts.up {w w' : World} {A : Option Addr} {n : Nat} {xs : List Int} (h : IsInts w w.heap.size A n xs) (hb : Below w.heap.size w w') : IsInts w' w'.heap.size A n xs :=
  (h.below hb).keep hb.size fun _ _ _ => rfl
theorem Below.on {B : Nat} {a b c : World} (h : Below B a b) (h' : Below b.heap.size b c) (hB : B ≤ a.heap.size) : Below B a c := h.trans (h'.mono (Nat.le_trans hB h.size))
end Go.Proofs.Ytlbefiaieehcfaa
