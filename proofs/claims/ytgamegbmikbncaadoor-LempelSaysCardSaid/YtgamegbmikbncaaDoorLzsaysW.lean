/-
  The walk of LempelSays: it returns true for every text and every list of pieces, and leaves the old memory alone. Conditions: the row's own sizes; errors.errorType as the program's text lays it.
-/
import Derived.Test.YtgamegbmikbncaaDoorErr
import Derived.Test.YtgamegbmikbncaaDoorLong2
import Derived.Test.YtgamegbmikbncaaDoorPun
import Derived.Test.YtgamegbmikbncaaDoorPsame
import Derived.Test.YtgamegbmikbncaaDoorLwrite
import Derived.Test.YtgamegbmikbncaaDoorLread
import Derived.Test.YtgamegbmikbncaaDoorStr
namespace Go.Proofs.YtgamegbmikbncaaDoor
open Go.RowKit

set_option maxHeartbeats 4000000 in
set_option maxRecDepth 100000 in
theorem lempelSays_any (s : ByteArray) (A : Option Addr) (n c : Nat) (l : List (Int × UInt8)) (w : World) (hs : s.size ≤ maxLen) (hn : n ≤ maxLen) (hl : IsPcs w w.heap.size A n l) (hg : Laid w) :
    Calls Tryd.prog 3 #[.string s, .slice A n c] w fun e w' => e = .returned (.bool true) ∧ Below w.heap.size w w' := by
  have hp := hg.pos
  have HL := hid hl
  clear hl
  go_enter Tryd.func3, Tryd.ntmps3
  by_cases h : s.size ≤ 1000
  focus
    have H1 := fun W => hid (long2_no s 1000 W h)
    have H2 := fun W => hid (rpieces_any s W h)
    clear hs
    go_wp2_with fail
    refine (H1 _).out.mono ?_
    rintro e w1 ⟨rfl, hw1⟩
    subst w1
    go_wp2_with fail
    refine (H2 _).out.mono ?_
    rintro e w2 ⟨A2, c2, ps, rfl, hwp, hI2, hb2⟩
    have H3 := fun W => hid (lwrite_any s W h)
    have hlx : (pcs ps).length ≤ 1099511627776 := by have := wr_len hwp; rw [bs_len] at this; rw [pcs_len]; omega
    rw [← pcs_len] at hI2
    have HI2 := hid hI2
    have HWP := hid hwp
    have HPL := hid (pcs_len ps)
    clear hwp hI2 H1 H2
    obtain ⟨lx, hx⟩ : ∃ z, z = ps.length := ⟨_, rfl⟩
    have HX := hid hx
    rw [pcs_len, ← hx] at HI2 hlx
    rw [← hx]
    clear hx
    go_wp2_with fail
    refine (H3 _).out.mono ?_
    rintro e w3 ⟨A3, c3, qs, rfl, hwq, hI3, hb3⟩
    obtain rfl := wr_one HWP.out hwq
    rw [← HX.out] at hI3 ⊢
    have hbC := hb2.trans (hb3.mono hb2.size)
    have H4 := hid (pieces_ok A3 A2 lx c3 c2 (pcs ps) w3 _ _ hlx hI3 (HI2.out.on hb3))
    clear hwq HWP HX HPL
    clear hI3 HI2 hb2 hb3 H3
    go_wp2_with fail
    refine (error_nil _).mono ?_
    rintro e w4 ⟨rfl, hw4⟩
    subst w4
    go_wp2_with fail
    refine H4.out.mono ?_
    rintro e w4 ⟨rfl, hb4⟩
    have hbB := hbC.trans (hb4.mono hbC.size)
    clear hb4 hbC H4 hlx
    go_wp2_with fail
  rotate_left
  focus
    have H1 := fun W => hid (long2_yes s 1000 W (by omega))
    have H3 := fun W => hid (lwrite_full s W (by omega) hs)
    have H4 := fun W => hid (pieces_ok none none 0 0 0 [] W 0 0 (by omega) IsPcs.nil IsPcs.nil)
    clear hs
    go_wp2_with fail
    refine (H1 _).out.mono ?_
    rintro e w1 ⟨rfl, hw1⟩
    subst w1
    go_wp2_with fail
    refine (H3 _).out.mono ?_
    rintro e w2 ⟨rfl, hb2⟩
    have hg2 := hg.below hp hb2
    go_wp2_with fail
    refine (error_err 4 _ hg2).mono ?_
    rintro e w3 ⟨rfl, hb3⟩
    have hb3 := hb2.trans (hb3.mono hb2.size)
    clear hb2 hg2
    go_wp2_with fail
    refine (H4 _).out.mono ?_
    rintro e w4 ⟨rfl, hb4⟩
    have hbB := hb3.trans (hb4.mono hb3.size)
    clear hb4 hb3 H1 H3 H4
    go_wp2_with fail
  rotate_left
  all_goals (
    have hgB := hg.below hp hbB
    have HLB := hid (HL.out.on hbB)
    clear hg HL h
    rcases pcs_or l with hok | ⟨k, hk⟩
    · have H5 := fun W hW => hid (unpiece_ok A n c l W hn hW hok)
      have H6 := fun W hW => hid (lread_ok A n c l W hn hW hok)
      generalize txt (whP l) = t at H5 H6
      have hq := same_yes (rfl : t = t)
      refine (H5 _ HLB.out).out.mono ?_
      rintro e w5 ⟨rfl, hb5⟩
      have HL5 := hid (HLB.out.on hb5)
      have hbC := hbB.trans (hb5.mono hbB.size)
      clear H5 HLB hb5 hok
      go_wp2_with fail
      refine (H6 _ HL5.out).out.mono ?_
      rintro e w6 ⟨rfl, hb6⟩
      have hbD := hbC.trans (hb6.mono hbC.size)
      clear H6 HL5 hb6 hbC hgB
      go_wp2_with fail
      refine (error_nil _).mono ?_
      rintro e w7 ⟨rfl, hw7⟩
      subst w7
      go_wp2_with fail
      go_ret
      exact ⟨rfl, hbD⟩
    · have H5 := fun W hW => hid (unpiece_bad A n c l k W hn hW hk)
      have H6 := fun W hW => hid (lread_bad A n c l k W hn hW hk)
      generalize ByteArray.empty = t at H5 H6
      have hq := same_yes (rfl : t = t)
      refine (H5 _ HLB.out).out.mono ?_
      rintro e w5 ⟨rfl, hb5⟩
      have HL5 := hid (HLB.out.on hb5)
      have hbC := hbB.trans (hb5.mono hbB.size)
      have hg5 := hgB.below (Nat.lt_of_lt_of_le hp hbB.size) hb5
      clear H5 HLB hb5 hk hgB
      go_wp2_with fail
      refine (H6 _ HL5.out).out.mono ?_
      rintro e w6 ⟨rfl, hb6⟩
      have hbD := hbC.trans (hb6.mono hbC.size)
      have hg6 := hg5.below (Nat.lt_of_lt_of_le hp hbC.size) hb6
      clear H6 HL5 hb6 hbC hg5
      go_wp2_with fail
      refine (error_err k _ hg6).mono ?_
      rintro e w7 ⟨rfl, hb7⟩
      have hbE := hbD.trans (hb7.mono hbD.size)
      clear hb7 hbD hg6
      go_wp2_with fail
      go_ret
      exact ⟨rfl, hbE⟩)
end Go.Proofs.YtgamegbmikbncaaDoor
