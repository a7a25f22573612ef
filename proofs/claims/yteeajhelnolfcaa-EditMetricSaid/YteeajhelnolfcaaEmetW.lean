/-
  The walk of EditMetric: it returns true at every three texts. Conditions: the row's own sizes.
-/
import Derived.Test.YteeajhelnolfcaaEdfact
import Derived.Test.YteeajhelnolfcaaIn2
import Derived.Test.YteeajhelnolfcaaStr
namespace Go.Proofs.Yteeajhelnolfcaa
open Go.RowKit

theorem emet_long (a b c : ByteArray) (w : World) (h : 24 < a.size ∨ 24 < b.size) (ha : a.size ≤ maxLen) (hb : b.size ≤ maxLen) (_hc : c.size ≤ maxLen) :
    Calls Try.prog 3 #[.string a, .string b, .string c] w fun e w' => e = .returned (.bool true) ∧ Below w.heap.size w w' := by
  have HF := fun W => hid (efact_any W)
  have H1 := fun W => hid (efar_full a b W h ha hb)
  have H2 := fun W => hid (efar_full b a W h.symm hb ha)
  clear h ha hb
  go_enter Try.func3, Try.ntmps3
  go_wp2_with fail
  refine (HF _).out.mono ?_
  rintro e w1 ⟨rfl, hb1⟩
  go_wp2_with fail
  refine (H1 _).out.mono ?_
  rintro e w2 ⟨rfl, hb2⟩
  go_wp2_with fail
  refine (H2 _).out.mono ?_
  rintro e w3 ⟨rfl, hb3⟩
  have hb12 := hb1.trans (hb2.mono hb1.size)
  have hbw := hb12.trans (hb3.mono hb12.size)
  clear HF H1 H2 hb1 hb2 hb3 hb12
  go_wp2_with fail
  go_ret
  exact ⟨rfl, hbw⟩
set_option maxHeartbeats 2000000 in
theorem emet_any (a b c : ByteArray) (w : World) (ha : a.size ≤ maxLen) (hb : b.size ≤ maxLen) (hc : c.size ≤ maxLen) :
    Calls Try.prog 3 #[.string a, .string b, .string c] w fun e w' => e = .returned (.bool true) ∧ Below w.heap.size w w' := by
  by_cases h : 24 < a.size ∨ 24 < b.size
  · exact emet_long a b c w h ha hb hc
  have ha2 : a.size ≤ 24 := by omega
  have hb2 : b.size ≤ 24 := by omega
  clear h ha hb
  have HF := fun W => hid (efact_any W)
  have H1 := fun W => hid (efar_any a b W ha2 hb2)
  have H2 := fun W => hid (efar_any b a W hb2 ha2)
  have h24 : far (bs a) (bs b) ≤ 24 := tb_le a b 0 0 ha2 hb2
  have hz : far (bs a) (bs b) = 0 ↔ a = b := far_zero.trans ⟨bs_inj, fun h => by rw [h]⟩
  have HIN := fun W => hid (in_yes ((far (bs a) (bs b) : Nat) : Int) 0 24 W (by omega) (by omega))
  rw [far_sym (bs b) (bs a)] at H2
  have htri := far_tri (bs a) (bs b) (bs c)
  have htri2 := far_tri (bs a) (bs c) (bs b)
  rw [far_sym (bs c) (bs b)] at htri2
  have htri3 := far_tri (bs b) (bs a) (bs c)
  rw [far_sym (bs b) (bs a)] at htri3
  have hma : a.size ≤ maxLen := by unfold maxLen; omega
  have hmb : b.size ≤ maxLen := by unfold maxLen; omega
  have H3 := fun h W => hid (efar_full b c W (.inr h) hmb hc)
  have H6 := fun h W => hid (efar_full a c W (.inr h) hma hc)
  have H4 := fun h W => hid (efar_any b c W hb2 h)
  have H5 := fun h W => hid (efar_any a c W ha2 h)
  have hway : (((far (bs a) (bs b) : Nat) : Int) == 0) = (a.toList == b.toList) := by
    by_cases e : a = b
    · rw [same_yes e]
      exact beq_iff_eq.2 (by have := hz.2 e; omega)
    · rw [same_no e]
      have hne : far (bs a) (bs b) ≠ 0 := fun h => e (hz.1 h)
      exact beq_eq_false_iff_ne.2 (by omega)
  obtain ⟨q, hq⟩ : ∃ q, q = (a.toList == b.toList) := ⟨_, rfl⟩
  have hq1 := hq.symm
  rw [← hq] at hway
  clear hq hz
  have HV := hid (fun h : c.size ≤ 24 => tb_le a c 0 0 ha2 h)
  have HZ := hid (fun h : c.size ≤ 24 => tb_le b c 0 0 hb2 h)
  simp only [tb_zero] at HV HZ
  generalize far (bs a) (bs b) = X at H1 H2 h24 HIN htri htri2 htri3 hway
  generalize far (bs b) (bs c) = Z at H4 HZ htri htri2 htri3
  generalize far (bs a) (bs c) = V at H5 HV htri htri2 htri3
  go_enter Try.func3, Try.ntmps3
  go_wp2_with fail
  refine (HF _).out.mono ?_
  rintro e w1 ⟨rfl, hb1⟩
  go_wp2_with fail
  refine (H1 _).out.mono ?_
  rintro e w2 ⟨rfl, hb2⟩
  have hb12 := hb1.trans (hb2.mono hb1.size)
  clear hb1 hb2
  go_wp2_with fail
  refine (H2 _).out.mono ?_
  rintro e w3 ⟨rfl, hb3⟩
  have hbw := hb12.trans (hb3.mono hb12.size)
  clear HF H1 H2 hb3 hb12
  go_wp2_with fail
  refine (HIN _).out.mono ?_
  rintro e w4 ⟨rfl, hw4⟩
  subst w4
  clear HIN hma hmb
  by_cases h : 24 < c.size
  · have H7 := H3 h
    have H8 := H6 h
    clear H3 H4 H5 H6 htri htri2 htri3
    unfold maxLen at hc
    go_wp2_with fail
    refine (H7 _).out.mono ?_
    rintro e w5 ⟨rfl, hb5⟩
    have hbx := hbw.trans (hb5.mono hbw.size)
    clear H7 hb5 hbw
    go_wp2_with fail
    refine (H8 _).out.mono ?_
    rintro e w6 ⟨rfl, hb6⟩
    have hby := hbx.trans (hb6.mono hbx.size)
    clear H8 hb6 hbx
    go_wp2_with fail
    go_ret
    exact ⟨ret_bool (decide_eq_true (by omega)), hby⟩
  · have hv : V ≤ 24 := HV.out (by omega)
    have hv2 : Z ≤ 24 := HZ.out (by omega)
    have H7 := H4 (by omega)
    have H8 := H5 (by omega)
    clear H3 H4 H5 H6 hc h
    go_wp2_with fail
    refine (H7 _).out.mono ?_
    rintro e w5 ⟨rfl, hb5⟩
    have hbx := hbw.trans (hb5.mono hbw.size)
    clear H7 hb5 hbw
    go_wp2_with fail
    refine (H8 _).out.mono ?_
    rintro e w6 ⟨rfl, hb6⟩
    have hby := hbx.trans (hb6.mono hbx.size)
    clear H8 hb6 hbx
    have i1 : (V : Int) ≤ (X : Int) + Z := by omega
    have i2 : (X : Int) ≤ (V : Int) + Z := by omega
    have i3 : (Z : Int) ≤ (X : Int) + V := by omega
    go_wp2_with fail
    go_ret
    exact ⟨rfl, hby⟩
end Go.Proofs.Yteeajhelnolfcaa
