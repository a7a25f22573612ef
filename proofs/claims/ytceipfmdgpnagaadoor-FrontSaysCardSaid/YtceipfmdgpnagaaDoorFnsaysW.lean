/-
  The walk of FrontSays: it returns true for every text and every list of numbers, and leaves the old memory alone. Conditions: the row's own sizes; errors.errorType as the program's text lays it.
-/
import Derived.Test.YtceipfmdgpnagaaDoorErr
import Derived.Test.YtceipfmdgpnagaaDoorLong2
import Derived.Test.YtceipfmdgpnagaaDoorFthere
import Derived.Test.YtceipfmdgpnagaaDoorFref
import Derived.Test.YtceipfmdgpnagaaDoorInts
import Derived.Test.YtceipfmdgpnagaaDoorStr
namespace Go.Proofs.YtceipfmdgpnagaaDoor
open Go.RowKit

theorem ints_onto {w w' : World} {n : Nat} {A : Option Addr} {xs : List Int} (h : IsInts w w.heap.size A n xs) (hb : Below w.heap.size w w') : IsInts w' w'.heap.size A n xs := h.keep hb.size fun _ _ hp => hb.cell hp
set_option maxHeartbeats 4000000 in
set_option maxRecDepth 100000 in
theorem frontSays_any (s : ByteArray) (A : Option Addr) (n c : Nat) (l : List Int) (w : World) (hs : s.size ≤ maxLen) (hn : n ≤ maxLen) (hl : IsInts w w.heap.size A n l) (hg : Laid w) :
    Calls Tryd.prog 3 #[.string s, .slice A n c] w fun e w' => e = .returned (.bool true) ∧ Below w.heap.size w w' := by
  have hp := hg.pos
  have HL := hid hl
  clear hl
  go_enter Tryd.func3, Tryd.ntmps3
  by_cases h : s.size ≤ 1000
  focus
    have H1 := fun W => hid (long2_no s 1000 W h)
    have H2 := fun W => hid (rcode_any s W h)
    have H3 := fun W => hid (fthere_any s W h)
    have hcl := hid ((codF_len allB (bs s)).trans (bs_len s))
    clear hs
    go_wp2_with fail
    refine (H1 _).out.mono ?_
    rintro e w1 ⟨rfl, hw1⟩
    subst w1
    go_wp2_with fail
    refine (H2 _).out.mono ?_
    rintro e w2 ⟨v2, rfl, ho2, hb2⟩
    obtain ⟨A2, c2, rfl, _, hI2⟩ := IsInts.of_own ho2
    rw [hcl.out] at hI2 ⊢
    have HI2 := hid hI2
    clear ho2 hI2 H1 H2
    go_wp2_with fail
    refine (H3 _).out.mono ?_
    rintro e w3 ⟨A3, c3, rfl, hI3, hb3⟩
    have hbC := hb2.trans (hb3.mono hb2.size)
    have H4 := hid (ints_ok A3 A2 s.size s.size c3 c2 _ w3 _ _ (by omega) (by omega) hI3 (ints_onto HI2.out hb3))
    clear hI3 HI2 hb2 hb3 H3
    go_wp2_with fail
    refine (error_nil _).mono ?_
    rintro e w4 ⟨rfl, hw4⟩
    subst w4
    go_wp2_with fail
    refine H4.out.mono ?_
    rintro e w4 ⟨rfl, hb4⟩
    have hbB := hbC.trans (hb4.mono hbC.size)
    clear hb4 hbC H4 hcl
  rotate_left
  focus
    have H1 := fun W => hid (long2_yes s 1000 W (by omega))
    have H3 := fun W => hid (fthere_long s W (by omega) hs)
    have H4 := fun W => hid (ints_ok none none 0 0 0 0 [] W 0 0 (by omega) (by omega) IsInts.nil IsInts.nil)
    clear hs
    go_wp2_with fail
    refine (H1 _).out.mono ?_
    rintro e w1 ⟨rfl, hw1⟩
    subst w1
    go_wp2_with fail
    refine (H3 _).out.mono ?_
    rintro e w2 ⟨rfl, hw2⟩
    subst w2
    go_wp2_with fail
    refine (error_err 4 _ hg).mono ?_
    rintro e w3 ⟨rfl, hb3⟩
    go_wp2_with fail
    refine (H4 _).out.mono ?_
    rintro e w4 ⟨rfl, hb4⟩
    have hbB := hb3.trans (hb4.mono hb3.size)
    clear hb4 hb3 H1 H3 H4
  rotate_left
  all_goals (
    have hgB := hg.below hp hbB
    have HLB := hid (ints_onto HL.out hbB)
    clear hg HL h
    by_cases hn2 : n ≤ 1000
    · have HA := fun W hW => hid (rAll_any A n c l W hn2 hW)
      go_wp2_with fail
      refine (HA _ HLB.out).out.mono ?_
      rintro e w5 ⟨hcase, hw5⟩
      subst w5
      clear HA
      rcases hcase with ⟨hok, rfl⟩ | ⟨hok, rfl⟩
      · have H5 := fun W hW => hid (rtext_any A n c l W hn2 hW hok)
        have H6 := fun W hW => hid (fback_ok A n c l W hn2 hW hok)
        generalize txt (decF allB l) = t at H5 H6
        have hq := same_yes (rfl : t = t)
        clear hok
        go_wp2_with fail
        refine (H5 _ HLB.out).out.mono ?_
        rintro e w5 ⟨rfl, hb5⟩
        have HL5 := hid (ints_onto HLB.out hb5)
        have hbC := hbB.trans (hb5.mono hbB.size)
        clear H5 HLB hb5
        go_wp2_with fail
        refine (H6 _ HL5.out).out.mono ?_
        rintro e w6 ⟨rfl, hb6⟩
        have hbD := hbC.trans (hb6.mono hbC.size)
        clear H6 HL5 hb6 hbC hgB
        go_wp2_with fail
        refine (error_nil _).mono ?_
        rintro e w7 ⟨rfl, hw7⟩
        subst w7
        go_wp2_with fail
        go_ret
        exact ⟨rfl, hbD⟩
      · have H6 := fun W hW => hid (fback_bad A n c l W hn2 hW hok)
        clear hok
        go_wp2_with fail
        refine (H6 _ HLB.out).out.mono ?_
        rintro e w6 ⟨rfl, hb6⟩
        have hbD := hbB.trans (hb6.mono hbB.size)
        have hg6 := hgB.below (Nat.lt_of_lt_of_le hp hbB.size) hb6
        clear H6 HLB hb6 hbB hgB
        go_wp2_with fail
        refine (error_err 1 _ hg6).mono ?_
        rintro e w7 ⟨rfl, hb7⟩
        have hbE := hbD.trans (hb7.mono hbD.size)
        clear hb7 hbD hg6
        go_wp2_with fail
        go_ret
        exact ⟨rfl, hbE⟩
    · have H6 := fun W => hid (fback_long A n c W (by omega) hn)
      go_wp2_with fail
      refine (H6 _).out.mono ?_
      rintro e w6 ⟨rfl, hw6⟩
      subst w6
      clear H6 HLB
      go_wp2_with fail
      refine (error_err 4 _ hgB).mono ?_
      rintro e w7 ⟨rfl, hb7⟩
      have hbE := hbB.trans (hb7.mono hbB.size)
      clear hb7 hbB hgB
      go_wp2_with fail
      go_ret
      exact ⟨rfl, hbE⟩)
end Go.Proofs.YtceipfmdgpnagaaDoor
