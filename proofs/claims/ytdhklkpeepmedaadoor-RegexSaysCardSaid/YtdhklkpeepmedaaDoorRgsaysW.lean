/-
  The walk of RegexSays: it returns true at every text, and leaves the old memory alone. Conditions: the row's own sizes; errors.errorType as the program's text lays it.
-/
import Derived.Test.YtdhklkpeepmedaaDoorErr
import Derived.Test.YtdhklkpeepmedaaDoorRgx
import Derived.Test.YtdhklkpeepmedaaDoorRgread
import Derived.Test.YtdhklkpeepmedaaDoorStr
namespace Go.Proofs.YtdhklkpeepmedaaDoor
open Go.RowKit

set_option maxHeartbeats 8000000 in
set_option maxRecDepth 100000 in
theorem regexSays_any (p : ByteArray) (w : World) (hs : p.size ≤ maxLen) (hg : Laid w) :
    Calls Tryd.prog 3 #[.string p] w fun e w' => e = .returned (.bool true) ∧ Below w.heap.size w w' := by
  have hp := hg.pos
  rcases rg_or p with ⟨r, hr⟩ | ⟨k, hk⟩
  · have H1 := fun W => hid (rgread_ok p r W hr)
    have H2 := fun W => hid (rgcheck_ok p r W hr)
    have H3 := fun v k N W (h : RdX encN 4 W v N) (hT : TreeAt N r k) => hid (Fits_any (pvA v ByteArray.empty false (k : Nat)) r ByteArray.empty W (Nat.zero_le _) ⟨v, k, N, rfl, h, hT⟩)
    have H4 := fun W => hid (signs_any p W (by have := hr.1; omega))
    have H5 := fun W => hid (letters_any p W (by have := hr.1; omega))
    have H6 := fun W => hid (rgnull_ok p r W hr)
    have H7 := fun W => hid (rgsigns_ok p r W hr)
    have hmb : mtB r (bs ByteArray.empty) = nul r := rfl
    rw [hmb] at H3
    have hlen : (txt ((bs p).filter ltr)).size = ((bs p).filter ltr).length := txt_size _
    rw [← hlen] at H7
    clear hg hp hs hmb hlen hr
    generalize nul r = q at H3 H6
    generalize txt (sgnL (bs p)) = t at H4 H7
    generalize txt ((bs p).filter ltr) = u at H5 H7
    have ht := same_yes (rfl : t = t)
    unfold pvA at H1 H3
    go_enter Tryd.func3, Tryd.ntmps3
    go_wp2_with fail
    refine (H1 _).out.mono ?_
    rintro e w1 ⟨v, kk, N, rfl, hN, hT, hb1⟩
    obtain ⟨A, c, hv⟩ := hN.shape
    obtain ⟨n, hn⟩ : ∃ n, n = N.length := ⟨_, rfl⟩
    rw [← hn] at hv
    subst hv
    clear hn
    have HN := hid (And.intro hN hT)
    clear H1 hN hT
    go_wp2_with fail
    generalize hwx : World.alloc w1 _ = wx
    obtain ⟨hB, hbx⟩ := pat_laid hwx
    have HB := hid hB
    have hN2 := HN.out.1.below hbx
    have HN2 := hid (And.intro hN2 HN.out.2)
    have hbA := hb1.trans (hbx.mono hb1.size)
    clear hwx hB HN hN2 hb1 hbx
    refine (H2 _).out.mono ?_
    rintro e w2 ⟨rfl, hb2⟩
    have HB2 := hid (HB.out.below hb2 HB.out.lt)
    have HN3 := hid (And.intro (HN2.out.1.below hb2) HN2.out.2)
    have hbB := hbA.trans (hb2.mono hbA.size)
    clear HB HN2 hbA hb2 H2
    obtain ⟨c0, c1, c2, c3⟩ := HB2.out.cells
    go_wp2_with fail
    refine (error_nil _).mono ?_
    rintro e w3 ⟨rfl, hw3⟩
    subst w3
    go_wp2_with fail
    refine (H3 (.slice A n c) kk N _ HN3.out.1 HN3.out.2).out.mono ?_
    rintro e w3 ⟨rfl, hb3⟩
    have hbC := hbB.trans (hb3.mono hbB.size)
    clear H3 HB2 HN3 c0 c1 c2 c3 hbB hb3
    go_wp2_with fail
    refine (H4 _).out.mono ?_
    rintro e w4 ⟨rfl, hb4⟩
    have hbD := hbC.trans (hb4.mono hbC.size)
    clear H4 hbC hb4
    go_wp2_with fail
    refine (H5 _).out.mono ?_
    rintro e w5 ⟨rfl, hw5⟩
    subst w5
    clear H5
    go_wp2_with fail
    refine (H6 _).out.mono ?_
    rintro e w5 ⟨rfl, hb5⟩
    have hbE := hbD.trans (hb5.mono hbD.size)
    clear H6 hbD hb5
    go_wp2_with fail
    refine (error_nil _).mono ?_
    rintro e w6 ⟨rfl, hw6⟩
    subst w6
    go_wp2_with fail
    refine (H7 _).out.mono ?_
    rintro e w7 ⟨rfl, hb7⟩
    have hbF := hbE.trans (hb7.mono hbE.size)
    clear H7 hbE hb7
    go_wp2_with fail
    refine (error_nil _).mono ?_
    rintro e w8 ⟨rfl, hw8⟩
    subst w8
    go_wp2_with fail
    go_ret
    exact ⟨by first | rfl | simp, hbF⟩
  · have H1 := fun W => hid (rgread_bad p k W hs hk)
    have H2 := fun W => hid (rgcheck_bad p k W hs hk)
    have H6 := fun W => hid (rgnull_bad p k W hs hk)
    have H7 := fun W => hid (rgsigns_bad p k W hs hk)
    have HE := fun W (h : Below w.heap.size w W) => hid (error_err k W (hg.below hp h))
    have hk0 : (k == 0) = false := beq_eq_false_iff_ne.2 (by rcases rg_num hk with rfl | rfl <;> decide)
    have ht := same_yes (rfl : ByteArray.empty = ByteArray.empty)
    clear hg hp hs hk
    unfold pvA at H1
    go_enter Tryd.func3, Tryd.ntmps3
    go_wp2_with fail
    refine (H1 _).out.mono ?_
    rintro e w1 ⟨rfl, hb1⟩
    clear H1
    go_wp2_with fail
    generalize hwx : World.alloc w1 _ = wx
    obtain ⟨_, hbx⟩ := pat_laid hwx
    have hbA := hb1.trans (hbx.mono hb1.size)
    clear hwx hb1 hbx
    refine (H2 _).out.mono ?_
    rintro e w2 ⟨rfl, hb2⟩
    have hbB := hbA.trans (hb2.mono hbA.size)
    clear hbA hb2 H2
    go_wp2_with fail
    refine (HE _ hbB).out.mono ?_
    rintro e w3 ⟨rfl, hb3⟩
    have hbC := hbB.trans (hb3.mono hbB.size)
    clear hbB hb3
    go_wp2_with fail
    refine (H6 _).out.mono ?_
    rintro e w5 ⟨rfl, hb5⟩
    have hbE := hbC.trans (hb5.mono hbC.size)
    clear H6 hbC hb5
    go_wp2_with fail
    refine (HE _ hbE).out.mono ?_
    rintro e w6 ⟨rfl, hb6⟩
    have hbF := hbE.trans (hb6.mono hbE.size)
    clear hbE hb6
    go_wp2_with fail
    refine (H7 _).out.mono ?_
    rintro e w7 ⟨rfl, hb7⟩
    have hbG := hbF.trans (hb7.mono hbF.size)
    clear H7 hbF hb7
    go_wp2_with fail
    refine (HE _ hbG).out.mono ?_
    rintro e w8 ⟨rfl, hb8⟩
    have hbH := hbG.trans (hb8.mono hbG.size)
    clear HE hbG hb8
    go_wp2_with fail
    go_ret
    exact ⟨by first | rfl | simp, hbH⟩
end Go.Proofs.YtdhklkpeepmedaaDoor
