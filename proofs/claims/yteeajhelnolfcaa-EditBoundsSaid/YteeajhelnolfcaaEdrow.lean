/-
  Plain mathematics, without a program: how far two given texts are, reckoned row by row. No condition.
-/
import Derived.Test.YteeajhelnolfcaaLev
namespace Go.Proofs.Yteeajhelnolfcaa

/-- The row of a: how far a is from each end of b. -/
def fbase : List UInt8 → List Nat
  | [] => [0]
  | _ :: b => (b.length + 1) :: fbase b
def fstep (x : UInt8) : List UInt8 → List Nat → List Nat
  | [], r => [r.headD 0 + 1]
  | y :: b, r => min (min (r.headD 0 + 1) ((fstep x b r.tail).headD 0 + 1)) (r.tail.headD 0 + if x = y then 0 else 1) :: fstep x b r.tail
def frow (b : List UInt8) : List UInt8 → List Nat
  | [] => fbase b
  | x :: a => fstep x b (frow b a)
def IsRow (a : List UInt8) : List UInt8 → List Nat → Prop
  | [], r => r.headD 0 = far a []
  | y :: b, r => r.headD 0 = far a (y :: b) ∧ IsRow a b r.tail
theorem IsRow.head {a b : List UInt8} {r : List Nat} (h : IsRow a b r) : r.headD 0 = far a b := by
  cases b with
  | nil => exact h
  | cons y b => exact h.1
theorem fbase_row (b : List UInt8) : IsRow [] b (fbase b) := by
  induction b with
  | nil => exact (far_left []).symm
  | cons y b ih => exact ⟨(far_left (y :: b)).symm, ih⟩
theorem fstep_row (x : UInt8) (a : List UInt8) : ∀ (b : List UInt8) (r : List Nat), IsRow a b r → IsRow (x :: a) b (fstep x b r) := by
  intro b
  induction b with
  | nil =>
    intro r h
    show r.headD 0 + 1 = far (x :: a) []
    have h : r.headD 0 = far a [] := h
    rw [h, far_right, far_right]
    rfl
  | cons y b ih =>
    intro r h
    have h2 := ih _ h.2
    refine ⟨?_, h2⟩
    show min (min (r.headD 0 + 1) ((fstep x b r.tail).headD 0 + 1)) (r.tail.headD 0 + if x = y then 0 else 1) = _
    rw [far_cons, h.1, h2.head, h.2.head]
theorem frow_row (b : List UInt8) : ∀ a, IsRow a b (frow b a)
  | [] => fbase_row b
  | x :: a => fstep_row x a b _ (frow_row b a)
theorem far_reckon {a b : List UInt8} {n : Nat} (h : (frow b a).headD 0 = n) : far a b = n := by rw [← (frow_row b a).head, h]
theorem far_kitten : far [107, 105, 116, 116, 101, 110] [115, 105, 116, 116, 105, 110, 103] = 3 := far_reckon (by decide)
theorem least_ab : Least [97, 98] [98] [45, 61] := by
  refine least_del (fun y b' e => ?_) (by rw [far_reckon (n := 0) (by decide), far_reckon (n := 1) (by decide)]) (least_eq (by rw [far_reckon (n := 1) (by decide), far_reckon (n := 0) (by decide)]; decide) (by rw [far_reckon (n := 1) (by decide), far_reckon (n := 0) (by decide)]; decide) least_nil)
  injection e with e1 e2
  subst e1
  subst e2
  refine ⟨fun _ => ?_, ?_⟩
  · rw [far_reckon (n := 1) (by decide), far_reckon (n := 1) (by decide)]; decide
  · rw [far_reckon (n := 2) (by decide), far_reckon (n := 1) (by decide)]; decide
end Go.Proofs.Yteeajhelnolfcaa
