/-
  The walk of ManySays: it returns true for all words and every text, and leaves the old memory alone. Conditions: the row's own sizes; errors.errorType as the program's text lays it.
-/
import Derived.Test.YtkdpdongiehelaaDoorErr
import Derived.Test.YtkdpdongiehelaaDoorInts
import Derived.Test.YtkdpdongiehelaaDoorLong
import Derived.Test.YtkdpdongiehelaaDoorRwords
import Derived.Test.YtkdpdongiehelaaDoorRhits
import Derived.Test.YtkdpdongiehelaaDoorMsame
namespace Go.Proofs.YtkdpdongiehelaaDoor
open Go.RowKit

theorem badm_no {ws : List ByteArray} {t : ByteArray} {k : Int} (h : BadM ws t k) : (k == 0) = false := by
  rcases h with h | ⟨_, _, rfl⟩
  · rcases bad_code h with rfl | rfl | rfl <;> rfl
  · rfl
/-- The words, read on in a later world. -/
theorem IsStrs.on {w w' : World} {n : Nat} {A : Option Addr} {ws : List ByteArray} (h : IsStrs w w.heap.size A n ws) (hb : Below w.heap.size w w') : IsStrs w' w'.heap.size A n ws := (h.below hb).mono hb.size

set_option maxHeartbeats 1000000 in
theorem msays_bad (A : Option Addr) (n c : Nat) (ws : List ByteArray) (t : ByteArray) (k : Int) (w : World) (hn : n ≤ maxLen) (hs : ∀ i, i < n → (wat ws i).size ≤ maxLen) (ht : t.size ≤ maxLen) (hk : BadM ws t k) (h : IsStrs w w.heap.size A n ws) (hg : Laid w) :
    Calls Tryd.prog 3 #[.slice A n c, .string t] w fun e w' => e = .returned (.bool true) ∧ Below w.heap.size w w' := by
  have H := hid h
  have HP := hid hg.pos
  have HG := hid hg
  have hk0 := badm_no hk
  have H2 := fun w' hb => hid (all_bad A n c ws t k w' hn hs ht hk (H.out.on hb))
  have H3 := fun w' hb => hid (cut_bad A n c ws t k w' hn hs ht hk (H.out.on hb))
  have HE := fun w' hb => hid (error_err k w' (HG.out.below HP.out hb))
  have HTM := hid ht
  rcases hk with hk | ⟨hf, h24, rfl⟩
  have H1 := hid (rwords_bad A n c ws k w hn hs hk h)
  clear h hg hk hs hn ht
  go_enter Tryd.func3, Tryd.ntmps3
  go_wp2_with fail
  refine H1.out.mono ?_
  rintro e w1 ⟨rfl, q, rfl⟩
  have hb := below_drewN (Below.refl w.heap.size w) q
  generalize w.drewN q = w1 at hb ⊢
  clear H1
  go_wp2_with fail
  rotate_left
  have H1 := hid (rwords_ok A n c ws w hf h)
  clear h hg hf hs hn ht
  go_enter Tryd.func3, Tryd.ntmps3
  go_wp2_with fail
  refine H1.out.mono ?_
  rintro e w1 ⟨rfl, q, rfl⟩
  have hb := below_drewN (Below.refl w.heap.size w) q
  generalize w.drewN q = w1 at hb ⊢
  clear H1
  go_wp2_with fail
  refine (long_yes t _ (by omega) HTM.out).mono ?_
  rintro e w2 ⟨rfl, hw2⟩
  subst w2
  clear h24
  go_wp2_with fail
  all_goals
    refine (H2 _ hb).out.mono ?_
    rintro e w2 ⟨rfl, hb2⟩
    have hbA := hb.trans (hb2.mono hb.size)
    clear hb2
    go_wp2_with fail
    refine (HE _ hbA).out.mono ?_
    rintro e w3 ⟨rfl, hb3⟩
    have hbB := hbA.trans (hb3.mono hbA.size)
    clear hb3
    go_wp2_with fail
    refine (hits_ok none none 0 0 0 [] w3 0 0 (by omega) IsHits.nil IsHits.nil).mono ?_
    rintro e w4 ⟨rfl, hb4⟩
    have hbC := hbB.trans (hb4.mono hbB.size)
    clear hb4
    go_wp2_with fail
    refine (H3 _ hbC).out.mono ?_
    rintro e w5 ⟨rfl, hb5⟩
    have hbD := hbC.trans (hb5.mono hbC.size)
    clear hb5
    go_wp2_with fail
    refine (HE _ hbD).out.mono ?_
    rintro e w6 ⟨rfl, hb6⟩
    have hbE := hbD.trans (hb6.mono hbD.size)
    clear hb6
    go_wp2_with fail
    refine (ints_ok none none 0 0 0 0 [] w6 0 0 (by omega) (by omega) IsInts.nil IsInts.nil).mono ?_
    rintro e w7 ⟨rfl, hb7⟩
    have hbF := hbE.trans (hb7.mono hbE.size)
    go_wp2_with fail
    go_ret
    exact ⟨rfl, hbF⟩

set_option maxHeartbeats 2000000 in
theorem msays_ok (A : Option Addr) (n c : Nat) (ws : List ByteArray) (t : ByteArray) (w : World) (hf : Fine ws) (h24 : t.size ≤ 24) (h : IsStrs w w.heap.size A n ws) (hg : Laid w) :
    Calls Tryd.prog 3 #[.slice A n c, .string t] w fun e w' => e = .returned (.bool true) ∧ Below w.heap.size w w' := by
  have H := hid h
  have HP := hid hg.pos
  have HG := hid hg
  have HO := hid (wds_once.2 (fine_wl hf).1)
  have hlen : (hitsL ws t).length ≤ 1000 := by
    unfold hitsL
    have h1 := hitL_len ws (bs t) (bs t).length
    have h2 : (bs t).length * ws.length ≤ 24 * 6 := Nat.mul_le_mul (by rw [bs_len]; exact h24) hf.1
    omega
  have H1 := hid (rwords_ok A n c ws w hf h)
  have R2 := fun w' hb => hid (rhits_any A n c ws t w' hf h24 (H.out.on hb))
  have H2 := fun w' hb => hid (all_ok A n c ws t w' hf h24 (H.out.on hb))
  have R3 := fun w' hb => hid (rcut_any A n c ws t w' hf h24 (H.out.on hb))
  have H3 := fun w' hb => hid (cut_ok A n c ws t w' hf h24 (H.out.on hb))
  have HE := fun w' hb => hid (error_err 5 w' (HG.out.below HP.out hb))
  clear h hg hf
  go_enter Tryd.func3, Tryd.ntmps3
  go_wp2_with fail
  refine H1.out.mono ?_
  rintro e w1 ⟨rfl, q, rfl⟩
  have hbA := below_drewN (Below.refl w.heap.size w) q
  generalize w.drewN q = w1 at hbA ⊢
  clear H1
  go_wp2_with fail
  refine (long_no t _ h24).mono ?_
  rintro e w2 ⟨rfl, hw2⟩
  subst w2
  go_wp2_with fail
  refine (R2 _ hbA).out.mono ?_
  rintro e w3 ⟨v3, rfl, ho3, hb3⟩
  obtain ⟨A3, c3, rfl, _, hI3⟩ := IsHits.of_own ho3
  have hbB := hbA.trans (hb3.mono hbA.size)
  have HI3 := hid hI3
  clear hb3 ho3 hI3
  obtain ⟨L, hL⟩ : ∃ z, z = (hitsL ws t).length := ⟨_, rfl⟩
  rw [← hL] at HI3 hlen
  rw [← hL]
  have HL := hid hL
  clear hL
  go_wp2_with fail
  refine (H2 _ hbB).out.mono ?_
  rintro e w4 ⟨A4, c4, rfl, hI4, hb4⟩
  rw [← HL.out] at hI4
  rw [← HL.out]
  have HQ := hid (hits_ok A4 A3 L c4 c3 (hitsL ws t) w4 _ _ (by omega) hI4 (HI3.out.on hb4))
  have hbC := hbB.trans (hb4.mono hbB.size)
  clear hb4 hI4 HI3
  go_wp2_with fail
  refine (error_nil _).mono ?_
  rintro e w5 ⟨rfl, hw5⟩
  subst w5
  go_wp2_with fail
  refine HQ.out.mono ?_
  rintro e w6 ⟨rfl, hb6⟩
  have hbD := hbC.trans (hb6.mono hbC.size)
  clear hb6 HQ
  go_wp2_with fail
  refine (R3 _ hbD).out.mono ?_
  rintro e w7 ⟨r, hr, hb7, hcase⟩
  have hbE := hbD.trans (hb7.mono hbD.size)
  clear hb7
  rcases hcase with ⟨rfl, rfl⟩ | ⟨out, v7, rfl, rfl, ho7, hl7⟩
  · have HR := hid hr
    clear hr
    go_wp2_with fail
    refine (H3 _ hbE).out.mono ?_
    rintro e w8 ⟨r', hr', hb8, hcase⟩
    obtain rfl := cut_one HO.out wds_place HR.out hr'
    have hbF := hbE.trans (hb8.mono hbE.size)
    rcases hcase with ⟨_, rfl⟩ | ⟨out, v, h', _⟩
    · clear hr' HR
      go_wp2_with fail
      refine (HE _ hbF).out.mono ?_
      rintro e w9 ⟨rfl, hb9⟩
      have hbG := hbF.trans (hb9.mono hbF.size)
      go_wp2_with fail
      refine (ints_ok none none 0 0 0 0 [] w9 0 0 (by omega) (by omega) IsInts.nil IsInts.nil).mono ?_
      rintro e w10 ⟨rfl, hb10⟩
      have hbH := hbG.trans (hb10.mono hbG.size)
      go_wp2_with fail
      go_ret
      exact ⟨rfl, hbH⟩
    · cases h'
  · have HR := hid hr
    obtain ⟨A7, c7, rfl, _, hI7⟩ := IsInts.of_own ho7
    have HI7 := hid hI7
    clear hr hI7 ho7
    obtain ⟨M, hM⟩ : ∃ z, z = out.length := ⟨_, rfl⟩
    rw [← hM] at HI7 hl7
    rw [← hM]
    have HM := hid hM
    clear hM
    go_wp2_with fail
    refine (H3 _ hbE).out.mono ?_
    rintro e w8 ⟨r', hr', hb8, hcase⟩
    obtain rfl := cut_one HO.out wds_place HR.out hr'
    have hbF := hbE.trans (hb8.mono hbE.size)
    rcases hcase with ⟨h', _⟩ | ⟨out', v, h', rfl, ho8, _⟩
    · cases h'
    · cases h'
      obtain ⟨A8, c8, rfl, _, hI8⟩ := IsInts.of_own ho8
      rw [← HM.out] at hI8
      rw [← HM.out]
      have HQ := hid (ints_ok A8 A7 M M c8 c7 _ w8 _ _ (by omega) (by omega) hI8 ((HI7.out.below hb8).keep hb8.size fun _ _ _ => rfl))
      clear hr' HR hI8 HI7 ho8 hb8
      go_wp2_with fail
      refine (error_nil _).mono ?_
      rintro e w9 ⟨rfl, hw9⟩
      subst w9
      go_wp2_with fail
      refine HQ.out.mono ?_
      rintro e w10 ⟨rfl, hb10⟩
      have hbG := hbF.trans (hb10.mono hbF.size)
      go_wp2_with fail
      go_ret
      exact ⟨rfl, hbG⟩
theorem msays_any (A : Option Addr) (n c : Nat) (ws : List ByteArray) (t : ByteArray) (w : World) (hn : n ≤ maxLen) (hs : ∀ i, i < n → (wat ws i).size ≤ maxLen) (ht : t.size ≤ maxLen) (h : IsStrs w w.heap.size A n ws) (hg : Laid w) :
    Calls Tryd.prog 3 #[.slice A n c, .string t] w fun e w' => e = .returned (.bool true) ∧ Below w.heap.size w w' := by
  rcases badM_or ws t with ⟨hf, h24⟩ | ⟨k, hk⟩
  · exact msays_ok A n c ws t w hf h24 h hg
  · exact msays_bad A n c ws t k w hn hs ht hk h hg
end Go.Proofs.YtkdpdongiehelaaDoor
