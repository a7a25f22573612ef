/-
  The walk of CommonEdit: it returns true at every two texts. Conditions: the row's own sizes.
-/
import Derived.Test.YtaodocdddfkglaaCfact
import Derived.Test.YtaodocdddfkglaaEfar
namespace Go.Proofs.Ytaodocdddfkglaa
open Go.RowKit

theorem cme_long (a b : ByteArray) (w : World) (h : 24 < a.size ∨ 24 < b.size) (ha : a.size ≤ maxLen) (hb : b.size ≤ maxLen) :
    Calls Try.prog 4 #[.string a, .string b] w fun e w' => e = .returned (.bool true) ∧ Below w.heap.size w w' := by
  have HF := fun W => hid (cfact_any W)
  have H1 := fun W => hid (clong_full a b W h ha hb)
  have H2 := fun W => hid (efar_full a b W h ha hb)
  clear h ha hb
  go_enter Try.func4, Try.ntmps4
  go_wp2_with fail
  refine (HF _).out.mono ?_
  rintro e w1 ⟨rfl, hb1⟩
  go_wp2_with fail
  refine (H1 _).out.mono ?_
  rintro e w2 ⟨rfl, hb2⟩
  have hbA := hb1.trans (hb2.mono hb1.size)
  clear hb1 hb2 HF H1
  go_wp2_with fail
  refine (H2 _).out.mono ?_
  rintro e w3 ⟨rfl, hb3⟩
  have hbB := hbA.trans (hb3.mono hbA.size)
  clear hb3 hbA H2
  go_wp2_with fail
  go_ret
  exact ⟨rfl, hbB⟩
set_option maxHeartbeats 1000000 in
theorem cme_any (a b : ByteArray) (w : World) (ha : a.size ≤ maxLen) (hb : b.size ≤ maxLen) :
    Calls Try.prog 4 #[.string a, .string b] w fun e w' => e = .returned (.bool true) ∧ Below w.heap.size w w' := by
  by_cases h : 24 < a.size ∨ 24 < b.size
  · exact cme_long a b w h ha hb
  have ha2 : a.size ≤ 24 := by omega
  have hb2 : b.size ≤ 24 := by omega
  clear h ha hb
  have HF := fun W => hid (cfact_any W)
  have H1 := fun W => hid (clong_any a b W ha2 hb2)
  have H2 := fun W => hid (efar_any a b W ha2 hb2)
  have H3 := fun W => hid (clong_any b a W hb2 ha2)
  rw [cmn_sym (bs b) (bs a)] at H3
  obtain ⟨t1, t2⟩ := common_edit (bs a) (bs b)
  obtain ⟨l1, l2⟩ := cmn_le (bs a) (bs b)
  rw [bs_len, bs_len] at t1 t2
  rw [bs_len] at l1 l2
  generalize (cmn (bs a) (bs b)).length = N at H1 H3 t1 t2 l1 l2
  generalize far (bs a) (bs b) = K at H2 t1 t2
  go_enter Try.func4, Try.ntmps4
  go_wp2_with fail
  refine (HF _).out.mono ?_
  rintro e w1 ⟨rfl, hb1⟩
  go_wp2_with fail
  refine (H1 _).out.mono ?_
  rintro e w2 ⟨rfl, hb2'⟩
  have hbA := hb1.trans (hb2'.mono hb1.size)
  clear hb1 hb2' HF H1
  go_wp2_with fail
  refine (H2 _).out.mono ?_
  rintro e w3 ⟨rfl, hb3⟩
  have hbB := hbA.trans (hb3.mono hbA.size)
  clear hb3 hbA H2
  go_wp2_with fail
  refine (H3 _).out.mono ?_
  rintro e w4 ⟨rfl, hb4⟩
  have hbC := hbB.trans (hb4.mono hbB.size)
  clear hb4 hbB H3
  have i1 : (K : Int) ≤ (a.size : Int) + (b.size : Int) - 2 * (N : Int) := by omega
  have i2 : (a.size : Int) + (b.size : Int) - 2 * (N : Int) ≤ 2 * (K : Int) := by omega
  go_wp2_with fail
  go_ret
  exact ⟨rfl, hbC⟩
end Go.Proofs.Ytaodocdddfkglaa
