/-
  Contract of letterbeckref1.Begins: whether a text begins with another one. Conditions: texts of at most 2^40 bytes.
-/
import Derived.Test.YtdhklkpeepmedaaDoorBase
import Derived.Test.YtdhklkpeepmedaaDoorOcc
import Derived.Test.YtdhklkpeepmedaaDoorStr
namespace Go.Proofs.YtdhklkpeepmedaaDoor
open Go.RowKit

/-- Does s begin with t? -/
def begB (s t : ByteArray) : Bool := ocB (sg s) (sg t) s.size t.size 0
theorem beg_text (s t : ByteArray) (h : t.size ≤ s.size) : s.extract 0 t.size = t ↔ Oc (sg s) (sg t) s.size t.size 0 := by
  have h1 : (s.extract 0 t.size).size = t.size := by rw [ByteArray.size_extract]; omega
  constructor
  · intro e
    refine ⟨by omega, fun j hj => ?_⟩
    have : sg (s.extract 0 t.size) j = sg t j := by rw [e]
    rw [sg_cut s 0 t.size j h (by omega)] at this
    exact this.symm
  · intro ho
    refine text_eq _ _ h1 fun i hi => ?_
    rw [sg_cut s 0 t.size i h (by omega)]
    exact (ho.2 i (by omega)).symm
theorem beg_cut (s t : ByteArray) (i : Nat) (h : i ≤ s.size) : begB (s.extract i s.size) t = ocB (sg s) (sg t) s.size t.size i := by
  have e : (s.extract i s.size).size = s.size - i := by rw [ByteArray.size_extract]; omega
  unfold begB
  rw [Bool.eq_iff_iff, ocB_iff, ocB_iff, e]
  constructor
  · intro ho
    have h1 := ho.1
    refine ⟨by omega, fun j hj => ?_⟩
    rw [ho.2 j hj, sg_cut s i s.size _ (Nat.le_refl _) (by omega)]; congr 1; omega
  · intro ho
    have h1 := ho.1
    refine ⟨by omega, fun j hj => ?_⟩
    rw [ho.2 j hj, sg_cut s i s.size _ (Nat.le_refl _) (by omega)]; congr 1; omega

set_option maxHeartbeats 400000 in
theorem begins_any (s t : ByteArray) (w : World) (_hs : s.size ≤ 1099511627776) (ht : t.size ≤ 1099511627776) :
    Calls Tryd.prog 25 #[.string s, .string t] w fun e w' => e = .returned (.bool (begB s t)) ∧ w' = w := by
  by_cases h : t.size ≤ s.size
  · have hcut : ∀ W : World, Sem.run Tryd.prog (Instr.slice 9 (.string s) none (some (.int .i64 (t.size : Int))) none) W = .ok (.string (s.extract 0 t.size)) W := fun W =>
      run_slice_string_h W 9 s Tryd.underlying9 .i64 (t.size : Int) (by omega) (by omega)
    have hd : decide (t.size ≤ s.size) = true := by simpa using h
    by_cases e : s.extract 0 t.size = t
    · have HR : Hid (begB s t = true) := hid (ocB_iff.2 ((beg_text s t h).1 e))
      have hq := same_yes e
      clear e
      generalize s.extract 0 t.size = s1 at hcut hq
      go_enter Tryd.func25, Tryd.ntmps25
      go_wp2
      go_ret
      exact ⟨ret_bool HR.out.symm, rfl⟩
    · have HR : Hid (begB s t = false) := hid (ocB_no fun ho => e ((beg_text s t h).2 ho))
      have hq := same_no e
      clear e
      generalize s.extract 0 t.size = s1 at hcut hq
      go_enter Tryd.func25, Tryd.ntmps25
      go_wp2
      go_ret
      exact ⟨ret_bool HR.out.symm, rfl⟩
  · have HR : Hid (begB s t = false) := hid (ocB_no fun ho => by have := ho.1; omega)
    have hd : decide (t.size ≤ s.size) = false := by simpa using h
    go_enter Tryd.func25, Tryd.ntmps25
    go_wp2
    go_ret
    exact ⟨ret_bool HR.out.symm, rfl⟩
end Go.Proofs.YtdhklkpeepmedaaDoor
