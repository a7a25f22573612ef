/-
  The walk of WheelBack: it returns true at every text of a length that a row may have. No other condition.
-/
import Derived.Test.YtldhcmoecmfigaaWfact
namespace Go.Proofs.Ytldhcmoecmfigaa
open Go.RowKit

set_option maxHeartbeats 800000 in
theorem wheelBack_any (s : ByteArray) (w : World) (hs : s.size ≤ maxLen) :
    Calls Try.prog 3 #[.string s] w fun e w' => e = .returned (.bool true) ∧ Below w.heap.size w w' := by
  have HF := fun W => hid (wfact_any W)
  by_cases h : s.size ≤ 24
  · have H1 := fun W => hid (there_any s W h)
    have hsl : (bs s).length ≤ 24 := by rw [bs_len]; exact h
    have H2 := fun W => hid (back_wheel (bs s) (wheelN (bs s)) W hsl ⟨fun h0 => (wheelN_here h0).1, fun h0 => by rw [List.length_eq_zero_iff.1 h0, wheelN_nil]⟩)
    have hrow : (wheelM (bs s)).getD (wheelN (bs s)) [] = bs s := by
      rcases Nat.eq_zero_or_pos (bs s).length with e | e
      · have e' := List.length_eq_zero_iff.1 e
        have : wheelM (bs s) = [] := List.length_eq_zero_iff.1 (by rw [wheelM_len]; exact e)
        rw [this, e']; rfl
      · exact (wheelN_here e).2
    rw [hrow, txt_bs] at H2
    have hnn : wheelN (bs s) ≤ 24 := Nat.le_trans (wheelN_le _) hsl
    have hq := same_yes (rfl : s = s)
    generalize wheelN (bs s) = n at H1 H2 hnn
    generalize txt (wheelT (bs s)) = t at H1 H2
    clear hrow hsl hs
    go_enter Try.func3, Try.ntmps3
    go_wp2_with fail
    refine (HF _).out.mono ?_
    rintro e w1 ⟨rfl, hb1⟩
    go_wp2_with fail
    refine (H1 _).out.mono ?_
    rintro e w2 ⟨rfl, hb2⟩
    have hbB := hb1.trans (hb2.mono hb1.size)
    clear hb1 hb2
    go_wp2_with fail
    refine (H2 _).out.mono ?_
    rintro e w3 ⟨rfl, hb3⟩
    have hbC := hbB.trans (hb3.mono hbB.size)
    clear hbB hb3
    go_wp2_with fail
    go_ret
    exact ⟨rfl, hbC⟩
  · have H1 := fun W => hid (there_long s W (by omega) hs)
    clear hs
    go_enter Try.func3, Try.ntmps3
    go_wp2_with fail
    refine (HF _).out.mono ?_
    rintro e w1 ⟨rfl, hb1⟩
    go_wp2_with fail
    refine (H1 _).out.mono ?_
    rintro e w2 ⟨rfl, hw2⟩
    subst w2
    go_wp2_with fail
    go_ret
    exact ⟨rfl, hb1⟩
end Go.Proofs.Ytldhcmoecmfigaa
