/-
  The walk of FrontBack: it returns true at every text and every list of numbers. Conditions: the row's own sizes.
-/
import Derived.Test.YtceipfmdgpnagaaFnfact
import Derived.Test.YtceipfmdgpnagaaStr
namespace Go.Proofs.Ytceipfmdgpnagaa
open Go.RowKit

theorem void_txt : (ByteArray.empty.toList).isEmpty = true := by rw [ByteArray.toList_eq]; rfl
theorem IsInts.onto {w w' : World} {n : Nat} {A : Option Addr} {xs : List Int} (h : IsInts w w.heap.size A n xs) (hb : Below w.heap.size w w') : IsInts w' w'.heap.size A n xs := h.keep hb.size fun _ _ hp => hb.cell hp
set_option maxHeartbeats 2000000 in
set_option maxRecDepth 100000 in
theorem frontBack_any (s : ByteArray) (A : Option Addr) (n c : Nat) (l : List Int) (w : World) (hs : s.size ≤ maxLen) (hn : n ≤ maxLen) (hl : IsInts w w.heap.size A n l) :
    Calls Try.prog 3 #[.string s, .slice A n c] w fun e w' => e = .returned (.bool true) ∧ Below w.heap.size w w' := by
  have HF := fun W => hid (fnfact_any W)
  have HL := hid hl
  have hv := void_txt
  have HNL : Hid (n = l.length) := hid hl.1.symm
  clear hl
  go_enter Try.func3, Try.ntmps3
  go_wp2_with fail
  refine (HF _).out.mono ?_
  rintro e w1 ⟨rfl, hb1⟩
  clear HF
  by_cases h : s.size ≤ 1000
  focus
    have H1 := fun W => hid (fthere_any s W h)
    have hq := same_yes (rfl : s = s)
    clear hs
    go_wp2_with fail
    refine (H1 _).out.mono ?_
    rintro e w2 ⟨A2, c2, rfl, hI2, hb2⟩
    have H2 := hid (fback_ok A2 s.size c2 _ w2 h hI2 (codF_in full_all _))
    rw [dec_cod full_all, txt_bs] at H2
    have hbB := hb1.trans (hb2.mono hb1.size)
    clear hb1 hb2 hI2 H1
    go_wp2_with fail
    refine H2.out.mono ?_
    rintro e w3 ⟨rfl, hb3⟩
    have hbC := hbB.trans (hb3.mono hbB.size)
    clear hbB hb3 H2
    go_wp2_with fail
    clear hq
  rotate_left
  focus
    have H1 := fun W => hid (fthere_long s W (by omega) hs)
    clear hs
    go_wp2_with fail
    refine (H1 _).out.mono ?_
    rintro e w3 ⟨rfl, hw3⟩
    subst w3
    have hbC := hb1
    clear hb1 H1
    go_wp2_with fail
  rotate_left
  all_goals (
    have HLn := hid (HL.out.onto hbC)
    by_cases hn2 : n ≤ 1000
    · rcases Classical.em (InB l) with hok | hok
      · have H3 := hid (fback_ok A n c l _ hn2 HLn.out hok)
        have H4 := fun W => hid (fthere_any (txt (decF allB l)) W (by rw [txt_size, decF_len, ← HNL.out]; exact hn2))
        rw [bs_txt, cod_dec full_all hok, txt_size, decF_len, ← HNL.out] at H4
        generalize txt (decF allB l) = t at H3 H4
        clear hok
        refine H3.out.mono ?_
        rintro e w4 ⟨rfl, hb4⟩
        have hbD := hbC.trans (hb4.mono hbC.size)
        clear H3
        go_wp2_with fail
        refine (H4 _).out.mono ?_
        rintro e w5 ⟨A5, c5, rfl, hI5, hb5⟩
        have hbE := hbD.trans (hb5.mono hbD.size)
        have H6 := hid (ints_ok A5 A n n c5 c l w5 _ _ (by omega) (by omega) hI5 ((HLn.out.onto hb4).onto hb5))
        clear hI5 hb5 hb4 hbD H4 HLn hbC
        go_wp2_with fail
        refine H6.out.mono ?_
        rintro e w6 ⟨rfl, hb6⟩
        go_wp2_with fail
        go_ret
        exact ⟨rfl, hbE.trans (hb6.mono hbE.size)⟩
      · have H3 := hid (fback_bad A n c l _ hn2 HLn.out hok)
        refine H3.out.mono ?_
        rintro e w4 ⟨rfl, hb4⟩
        have hbD := hbC.trans (hb4.mono hbC.size)
        clear H3 HLn hbC hb4
        go_wp2_with fail
        go_ret
        exact ⟨rfl, hbD⟩
    · have H3 := fun W => hid (fback_long A n c W (by omega) hn)
      refine (H3 _).out.mono ?_
      rintro e w4 ⟨rfl, hw4⟩
      subst w4
      clear H3 HLn
      go_wp2_with fail
      go_ret
      exact ⟨rfl, hbC⟩)
end Go.Proofs.Ytceipfmdgpnagaa
