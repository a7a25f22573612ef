/-
  Contract of strings.HasPrefix: whether a text begins with another one. Conditions: texts of at most 2^40 bytes.
-/
import Derived.Test.YtlfncplldppncaaDoorBase
import Derived.Test.YtlfncplldppncaaDoorStr
namespace Go.Proofs.YtlfncplldppncaaDoor
open Go.RowKit

/-- Does s begin with t? -/
def preB (s t : ByteArray) : Bool := decide (t.size ≤ s.size ∧ s.extract 0 t.size = t)
set_option maxHeartbeats 400000 in
theorem plite_any (s t : ByteArray) (w : World) (_hs : s.size ≤ 1099511627776) (ht : t.size ≤ 1099511627776) :
    Calls Tryd.prog 41 #[.string s, .string t] w fun e w' => e = .returned (.bool (preB s t)) ∧ w' = w := by
  by_cases h : t.size ≤ s.size
  · have hcut : ∀ W : World, Sem.run Tryd.prog (Instr.slice 9 (.string s) none (some (.int .i64 (t.size : Int))) none) W = .ok (.string (s.extract 0 t.size)) W := fun W =>
      run_slice_string_h W 9 s Tryd.underlying9 .i64 (t.size : Int) (by omega) (by omega)
    have hd : decide (t.size ≤ s.size) = true := by simpa using h
    by_cases e : s.extract 0 t.size = t
    · have HR : Hid (preB s t = true) := hid (decide_eq_true ⟨h, e⟩)
      have hq := same_yes e
      clear e
      generalize s.extract 0 t.size = s1 at hcut hq
      go_enter Tryd.func41, Tryd.ntmps41
      go_wp2
      go_ret
      exact ⟨ret_bool HR.out.symm, rfl⟩
    · have HR : Hid (preB s t = false) := hid (decide_eq_false fun h' => e h'.2)
      have hq := same_no e
      clear e
      generalize s.extract 0 t.size = s1 at hcut hq
      go_enter Tryd.func41, Tryd.ntmps41
      go_wp2
      go_ret
      exact ⟨ret_bool HR.out.symm, rfl⟩
  · have HR : Hid (preB s t = false) := hid (decide_eq_false fun h' => h h'.1)
    have hd : decide (t.size ≤ s.size) = false := by simpa using h
    go_enter Tryd.func41, Tryd.ntmps41
    go_wp2
    go_ret
    exact ⟨ret_bool HR.out.symm, rfl⟩
theorem prefix_any (s t : ByteArray) (w : World) (hs : s.size ≤ 1099511627776) (ht : t.size ≤ 1099511627776) :
    Calls Tryd.prog 35 #[.string s, .string t] w fun e w' => e = .returned (.bool (preB s t)) ∧ w' = w := by
  have HC := hid (plite_any s t w hs ht)
  go_enter Tryd.func35, Tryd.ntmps35
  go_wp2_with fail
  refine HC.out.mono ?_
  rintro e w1 ⟨rfl, hw⟩
  subst w1
  go_wp2_with fail
  go_ret
  exact ⟨rfl, rfl⟩
end Go.Proofs.YtlfncplldppncaaDoor
