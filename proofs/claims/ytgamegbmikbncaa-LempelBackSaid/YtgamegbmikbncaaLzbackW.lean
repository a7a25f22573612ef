/-
  The walk of LempelBack: it returns true at every text. Conditions: the row's own sizes.
-/
import Derived.Test.YtgamegbmikbncaaLzfact
import Derived.Test.YtgamegbmikbncaaStr
namespace Go.Proofs.Ytgamegbmikbncaa
open Go.RowKit

theorem lzback_long (s : ByteArray) (w : World) (h : 1000 < s.size) (hs : s.size ≤ maxLen) :
    Calls Try.prog 3 #[.string s] w fun e w' => e = .returned (.bool true) ∧ Below w.heap.size w w' := by
  have H1 := fun W => hid (lwrite_full s W h hs)
  have HF := fun W => hid (lfact_any W)
  unfold maxLen at hs
  go_enter Try.func3, Try.ntmps3
  go_wp2_with fail
  refine (HF _).out.mono ?_
  rintro e w1 ⟨rfl, hb1⟩
  go_wp2_with fail
  refine (H1 _).out.mono ?_
  rintro e w2 ⟨rfl, hb2⟩
  have hbw := hb1.trans (hb2.mono hb1.size)
  clear H1 HF hb1 hb2
  go_wp2_with fail
  go_ret
  exact ⟨rfl, hbw⟩
set_option maxHeartbeats 1000000 in
theorem lzback_any (s : ByteArray) (w : World) (hs : s.size ≤ maxLen) :
    Calls Try.prog 3 #[.string s] w fun e w' => e = .returned (.bool true) ∧ Below w.heap.size w w' := by
  by_cases h : 1000 < s.size
  · exact lzback_long s w h hs
  have H1 := fun W => hid (lwrite_any s W (by omega))
  have HF := fun W => hid (lfact_any W)
  have hq := same_yes (rfl : s = s)
  clear hs
  go_enter Try.func3, Try.ntmps3
  go_wp2_with fail
  refine (HF _).out.mono ?_
  rintro e w1 ⟨rfl, hb1⟩
  go_wp2_with fail
  refine (H1 _).out.mono ?_
  rintro e w2 ⟨A, c, ps, rfl, hw, hI, hb2⟩
  have hbw := hb1.trans (hb2.mono hb1.size)
  have hlen := wr_len hw
  rw [bs_len] at hlen
  obtain ⟨hf, hwh⟩ := wr_fine hw (by rw [bs_len]; omega)
  have H2 := hid (lread_ok A ps.length c (pcs ps) w2 (by unfold maxLen; omega) hI hf)
  rw [hwh, txt_bs] at H2
  clear hb1 hb2 hI hw hf hwh H1 HF
  generalize ps.length = n at H2 hlen ⊢
  go_wp2_with fail
  refine H2.out.mono ?_
  rintro e w3 ⟨rfl, hb3⟩
  have hbx := hbw.trans (hb3.mono hbw.size)
  clear H2 hb3 hbw
  go_wp2_with fail
  go_ret
  exact ⟨rfl, hbx⟩
end Go.Proofs.Ytgamegbmikbncaa
