/-
  What every walk of this seat rests on: comparisons of two signs as the walk spells them, and the row of the type int. No condition.
-/
import Derived.Test.YtdhklkpeepmedaaDoorProg
import Derived.Test.YtdhklkpeepmedaaDoorMem
import Derived.Test.YtdhklkpeepmedaaDoorBorder
import Derived.Outline
namespace Go.Proofs.YtdhklkpeepmedaaDoor
open Go.RowKit

theorem byte_eq (s : ByteArray) (a b : Nat) (ha : a < s.size) (hb : b < s.size) (h : sg s a = sg s b) : ((s[a].toNat : Int) == (s[b].toNat : Int)) = true := by
  rw [sg_eq s a ha, sg_eq s b hb] at h; simp [h]
theorem byte_ne_false (s : ByteArray) (a b : Nat) (ha : a < s.size) (hb : b < s.size) (h : sg s a = sg s b) : ((s[a].toNat : Int) != (s[b].toNat : Int)) = false := by
  rw [sg_eq s a ha, sg_eq s b hb] at h; simp [h]
theorem byte_apart {x y : UInt8} (h : x ≠ y) : (x.toNat : Int) ≠ (y.toNat : Int) := fun e => h (UInt8.toNat_inj.1 (by omega))
theorem byte_eq_false (s : ByteArray) (a b : Nat) (ha : a < s.size) (hb : b < s.size) (h : sg s a ≠ sg s b) : ((s[a].toNat : Int) == (s[b].toNat : Int)) = false := by
  rw [sg_eq s a ha, sg_eq s b hb] at h; simpa using byte_apart h
theorem byte_ne (s : ByteArray) (a b : Nat) (ha : a < s.size) (hb : b < s.size) (h : sg s a ≠ sg s b) : ((s[a].toNat : Int) != (s[b].toNat : Int)) = true := by
  rw [sg_eq s a ha, sg_eq s b hb] at h; simpa using byte_apart h

/-- A byte's number is a sign's. -/
theorem byte_of {a : Int} (h : (Lit.int .u8 a).wf = true) : ∃ c : UInt8, a = (c.toNat : Int) := by
  have hx : 0 ≤ a ∧ a ≤ 255 := by simpa [Lit.wf, IntKind.min, IntKind.max, IntKind.signed, IntKind.bits] using h
  refine ⟨UInt8.ofNat a.toNat, ?_⟩
  rw [UInt8.toNat_ofNat']
  omega

theorem int_info : (Tryd.prog.info? 3).map (fun i => (i.zero, i.size, i.bytes)) = some (some (.int .i64 0), 1, 8) := by kernel_rfl

end Go.Proofs.YtdhklkpeepmedaaDoor
