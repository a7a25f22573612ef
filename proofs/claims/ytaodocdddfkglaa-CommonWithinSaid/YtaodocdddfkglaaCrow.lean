/-
  Plain mathematics, without a program: what two given texts have in common, reckoned row by row. No condition.
-/
import Derived.Test.YtaodocdddfkglaaLcs
namespace Go.Proofs.Ytaodocdddfkglaa

/-- The row of a: what it has in common with each end of b. -/
def cbase : List UInt8 → List (List UInt8)
  | [] => [[]]
  | _ :: b => [] :: cbase b
def cstep (x : UInt8) : List UInt8 → List (List UInt8) → List (List UInt8)
  | [], _ => [[]]
  | y :: b, r => (if x = y then betL (betL ((cstep x b r.tail).headD []) (r.headD [])) (x :: r.tail.headD []) else betL ((cstep x b r.tail).headD []) (r.headD [])) :: cstep x b r.tail
def crowL (b : List UInt8) : List UInt8 → List (List UInt8)
  | [] => cbase b
  | x :: a => cstep x b (crowL b a)
def IsCrow (a : List UInt8) : List UInt8 → List (List UInt8) → Prop
  | [], r => r.headD [] = cmn a []
  | y :: b, r => r.headD [] = cmn a (y :: b) ∧ IsCrow a b r.tail
theorem IsCrow.head {a b : List UInt8} {r : List (List UInt8)} (h : IsCrow a b r) : r.headD [] = cmn a b := by
  cases b with
  | nil => exact h
  | cons y b => exact h.1
theorem cbase_row (b : List UInt8) : IsCrow [] b (cbase b) := by
  induction b with
  | nil => exact (cmn_left []).symm
  | cons y b ih => exact ⟨(cmn_left (y :: b)).symm, ih⟩
theorem cstep_row (x : UInt8) (a : List UInt8) : ∀ (b : List UInt8) (r : List (List UInt8)), IsCrow a b r → IsCrow (x :: a) b (cstep x b r) := by
  intro b
  induction b with
  | nil => intro r _; exact (cmn_right (x :: a)).symm
  | cons y b ih =>
    intro r h
    have h2 := ih _ h.2
    refine ⟨?_, h2⟩
    show (if x = y then betL (betL ((cstep x b r.tail).headD []) (r.headD [])) (x :: r.tail.headD []) else betL ((cstep x b r.tail).headD []) (r.headD [])) = _
    rw [cmn_cons, h.1, h2.head, h.2.head]
theorem crowL_row (b : List UInt8) : ∀ a, IsCrow a b (crowL b a)
  | [] => cbase_row b
  | x :: a => cstep_row x a b _ (crowL_row b a)
theorem cmn_reckon {a b s : List UInt8} (h : (crowL b a).headD [] = s) : cmn a b = s := by rw [← (crowL_row b a).head, h]
theorem cmn_abcb : cmn [97, 98, 99, 98] [98, 99, 97, 98] = [98, 99, 98] := cmn_reckon (by decide)
end Go.Proofs.Ytaodocdddfkglaa
