/-
  Contract of strings.HasPrefix: whether a text begins with another one. No condition.
-/
import Derived.Test.YtdhklkpeepmedaaDoorBase
import Derived.Test.YtdhklkpeepmedaaDoorBs
import Derived.Test.YtdhklkpeepmedaaDoorStr
import Derived.Test.YtdhklkpeepmedaaDoorCuts
namespace Go.Proofs.YtdhklkpeepmedaaDoor
open Go.RowKit

/-- Does s begin with t? -/
def hpB (s t : ByteArray) : Bool := decide (bs t <+: bs s)
theorem hp_text {s t : ByteArray} (_h : t.size ≤ s.size) : s.extract 0 t.size = t ↔ bs t <+: bs s := by
  rw [List.prefix_iff_eq_take, bs_len]
  constructor
  · intro e
    conv => lhs; rw [← e]
    rw [bs_head]
  · intro e
    apply bs_inj
    rw [bs_head, ← e]
theorem hp_one {s : ByteArray} {c : UInt8} : hpB s ⟨#[c]⟩ = true ↔ ∃ u, bs s = c :: u := by
  unfold hpB
  rw [decide_eq_true_eq]
  constructor
  · rintro ⟨u, h⟩
    exact ⟨u, h.symm⟩
  · rintro ⟨u, h⟩
    exact ⟨u, h.symm⟩
set_option maxHeartbeats 400000 in
theorem hplite_any (s t : ByteArray) (w : World) :
    Calls Tryd.prog 58 #[.string s, .string t] w fun e w' => e = .returned (.bool (hpB s t)) ∧ w' = w := by
  by_cases h : t.size ≤ s.size
  · have hcut := cut_head s t.size h
    have hd : decide (t.size ≤ s.size) = true := by simpa using h
    by_cases e : s.extract 0 t.size = t
    · have HR : Hid (hpB s t = true) := hid (decide_eq_true ((hp_text h).1 e))
      have hq := same_yes e
      clear e
      generalize s.extract 0 t.size = s1 at hcut hq
      go_enter Tryd.func58, Tryd.ntmps58
      go_wp2
      go_ret
      exact ⟨ret_bool HR.out.symm, rfl⟩
    · have HR : Hid (hpB s t = false) := hid (decide_eq_false fun h' => e ((hp_text h).2 h'))
      have hq := same_no e
      clear e
      generalize s.extract 0 t.size = s1 at hcut hq
      go_enter Tryd.func58, Tryd.ntmps58
      go_wp2
      go_ret
      exact ⟨ret_bool HR.out.symm, rfl⟩
  · have HR : Hid (hpB s t = false) := hid (decide_eq_false fun h' => by have := h'.length_le; rw [bs_len, bs_len] at this; omega)
    have hd : decide (t.size ≤ s.size) = false := by simpa using h
    go_enter Tryd.func58, Tryd.ntmps58
    go_wp2
    go_ret
    exact ⟨ret_bool HR.out.symm, rfl⟩
theorem hp_any (s t : ByteArray) (w : World) :
    Calls Tryd.prog 41 #[.string s, .string t] w fun e w' => e = .returned (.bool (hpB s t)) ∧ w' = w := by
  have HC := hid (hplite_any s t w)
  go_enter Tryd.func41, Tryd.ntmps41
  go_wp2_with fail
  refine HC.out.mono ?_
  rintro e w1 ⟨rfl, hw⟩
  subst w1
  go_wp2_with fail
  go_ret
  exact ⟨rfl, rfl⟩
end Go.Proofs.YtdhklkpeepmedaaDoor
