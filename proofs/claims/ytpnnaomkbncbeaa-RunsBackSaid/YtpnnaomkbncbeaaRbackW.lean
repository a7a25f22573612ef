/-
  The walk of RunsBack: it returns true at every text and every list of runs. Conditions: the row's own sizes.
-/
import Derived.Test.YtpnnaomkbncbeaaRfact
import Derived.Test.YtpnnaomkbncbeaaStr
namespace Go.Proofs.Ytpnnaomkbncbeaa
open Go.RowKit

theorem void_txt : (ByteArray.empty.toList).isEmpty = true := by rw [ByteArray.toList_eq]; rfl
set_option maxHeartbeats 2000000 in
set_option maxRecDepth 100000 in
theorem runsBack_any (s : ByteArray) (A : Option Addr) (n c : Nat) (l : List (UInt8 × Int)) (w : World) (hs : s.size ≤ maxLen) (hn : n ≤ maxLen) (hl : IsRuns w w.heap.size A n l) :
    Calls Try.prog 3 #[.string s, .slice A n c] w fun e w' => e = .returned (.bool true) ∧ Below w.heap.size w w' := by
  have HF := fun W => hid (rfact_any W)
  have HL := hid hl
  have hv := void_txt
  have HNL : Hid (n = l.length) := hid hl.1.symm
  clear hl
  go_enter Try.func3, Try.ntmps3
  go_wp2_with fail
  refine (HF _).out.mono ?_
  rintro e w1 ⟨rfl, hb1⟩
  clear HF
  by_cases h : s.size ≤ 1000
  focus
    have H1 := fun W => hid (write_any s W h)
    have hq := same_yes (rfl : s = s)
    clear hs
    go_wp2_with fail
    refine (H1 _).out.mono ?_
    rintro e w2 ⟨A2, c2, l2, rfl, hg2, hu2, hI2, hb2⟩
    have hl2 : l2.length ≤ maxLen := by
      have := good_len hg2
      rw [hu2, bs_len] at this
      unfold maxLen; omega
    have H2 := hid (read_ok A2 l2.length c2 l2 w2 hl2 hI2 (okTo_good.2 ⟨hg2, by rw [hu2, bs_len]; exact h⟩))
    rw [hu2, txt_bs] at H2
    have hbB := hb1.trans (hb2.mono hb1.size)
    clear hb1 hb2 hI2 hg2 hu2 H1
    generalize l2.length = n2 at H2 hl2 ⊢
    go_wp2_with fail
    refine H2.out.mono ?_
    rintro e w3 ⟨rfl, hb3⟩
    have hbC := hbB.trans (hb3.mono hbB.size)
    clear hbB hb3 H2
    go_wp2_with fail
    clear hq hl2
  rotate_left
  focus
    have H1 := fun W => hid (write_long s W (by omega) hs)
    clear hs
    go_wp2_with fail
    refine (H1 _).out.mono ?_
    rintro e w3 ⟨rfl, hw3⟩
    subst w3
    have hbC := hb1
    clear hb1 H1
    go_wp2_with fail
  rotate_left
  all_goals (
    have HLn := hid (HL.out.on hbC)
    rcases runs_or l with hok | ⟨k, hk⟩
    · have H3 := hid (read_ok A n c l _ hn HLn.out hok)
      obtain ⟨hg, hlen⟩ := okTo_good.1 hok
      have H4 := fun W => hid (write_is (txt (unr l)) l W (by rw [txt_size]; exact hlen) hg (bs_txt _).symm)
      rw [← HNL.out] at H4
      have hn2 : n ≤ 1099511627776 := by have := good_len hg; have := HNL.out; omega
      generalize txt (unr l) = t at H3 H4
      clear hok hg hlen
      refine H3.out.mono ?_
      rintro e w4 ⟨rfl, hb4⟩
      have hbD := hbC.trans (hb4.mono hbC.size)
      clear H3
      go_wp2_with fail
      refine (H4 _).out.mono ?_
      rintro e w5 ⟨A5, c5, rfl, hI5, hb5⟩
      have hbE := hbD.trans (hb5.mono hbD.size)
      have H6 := hid (runs_ok A5 A n c5 c l w5 _ _ hn2 hI5 ((HLn.out.on hb4).on hb5))
      clear hI5 hb5 hb4 hbD H4 HLn hbC
      go_wp2_with fail
      refine H6.out.mono ?_
      rintro e w6 ⟨rfl, hb6⟩
      go_wp2_with fail
      go_ret
      exact ⟨rfl, hbE.trans (hb6.mono hbE.size)⟩
    · have H3 := hid (read_bad A n c l k _ hn HLn.out hk)
      refine H3.out.mono ?_
      rintro e w4 ⟨rfl, hb4⟩
      have hbD := hbC.trans (hb4.mono hbC.size)
      clear H3 HLn hbC hb4
      go_wp2_with fail
      go_ret
      exact ⟨rfl, hbD⟩)
end Go.Proofs.Ytpnnaomkbncbeaa
