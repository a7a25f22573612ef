/-
  Plain facts on lengths of codes: what is wrong with them, and the room of the first of them. No condition.
-/
import Derived.Test.YtlfncplldppncaaDoorAllr
namespace Go.Proofs.YtlfncplldppncaaDoor

/-- What is wrong with lengths, 0 if nothing is. -/
def LenC (l : List Int) (k : Int) : Prop := (10 < l.length ∧ k = 4) ∨ (l.length ≤ 10 ∧ ¬ InL 1 12 l ∧ k = 1) ∨ (l.length ≤ 10 ∧ InL 1 12 l ∧ k = 0)
theorem pow_le {i n : Nat} (h : i ≤ n) : 2 ^ i ≤ 2 ^ n := Nat.pow_le_pow_right (by decide) h
theorem rm_succ (E : List Nat) {i : Nat} (hi : i < E.length) : rm 12 (E.take (i + 1)) = rm 12 (E.take i) + 2 ^ (12 - E.getD i 0) := by
  rw [List.take_succ_eq_append_getElem hi, rm_app]
  simp [rm, hi]
theorem rm_le (E : List Nat) : rm 12 E ≤ 4096 * E.length := by
  induction E with
  | nil => simp [rm]
  | cons d E ih =>
    have : 2 ^ (12 - d) ≤ 4096 := pow_le (n := 12) (by omega)
    simp only [rm, List.length_cons]
    omega
end Go.Proofs.YtlfncplldppncaaDoor
