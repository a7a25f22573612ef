/-
  The walk of TrieSays: it returns true for all words and every text, and leaves the old memory alone. Conditions: the row's own sizes; errors.errorType as the program's text lays it.
-/
import Derived.Test.YtkcocdlfhgincaaDoorErr
import Derived.Test.YtkcocdlfhgincaaDoorInts
import Derived.Test.YtkcocdlfhgincaaDoorLong
import Derived.Test.YtkcocdlfhgincaaDoorRwords
import Derived.Test.YtkcocdlfhgincaaDoorRsize
import Derived.Test.YtkcocdlfhgincaaDoorRsorted
import Derived.Test.YtkcocdlfhgincaaDoorRlongest
import Derived.Test.YtkcocdlfhgincaaDoorTlong
namespace Go.Proofs.YtkcocdlfhgincaaDoor
open Go.RowKit

theorem bad_no {ws : List ByteArray} {k : Int} (h : Bad ws k) : (k == 0) = false := by
  rcases bad_code h with rfl | rfl | rfl <;> rfl
/-- The words, read on in a later world. -/
theorem IsStrs.on {w w' : World} {n : Nat} {A : Option Addr} {ws : List ByteArray} (h : IsStrs w w.heap.size A n ws) (hb : Below w.heap.size w w') : IsStrs w' w'.heap.size A n ws := (h.below hb).mono hb.size

set_option maxHeartbeats 1000000 in
theorem tsays_bad (A : Option Addr) (n c : Nat) (ws : List ByteArray) (t : ByteArray) (k : Int) (w : World) (hn : n ≤ maxLen) (hs : ∀ i, i < n → (wat ws i).size ≤ maxLen) (hk : Bad ws k) (h : IsStrs w w.heap.size A n ws) (hg : Laid w) :
    Calls Tryd.prog 3 #[.slice A n c, .string t] w fun e w' => e = .returned (.bool true) ∧ Below w.heap.size w w' := by
  have H := hid h
  have HP := hid hg.pos
  have HG := hid hg
  have hk0 := bad_no hk
  have H1 := hid (rwords_bad A n c ws k w hn hs hk h)
  have H2 := fun w' hb => hid (tcheck_bad A n c ws k w' hn hs hk (H.out.on hb))
  have H3 := fun w' hb => hid (size_bad A n c ws k w' hn hs hk (H.out.on hb))
  have H4 := fun w' hb => hid (order_bad A n c ws k w' hn hs hk (H.out.on hb))
  have H5 := fun w' hb => hid (long_bad A n c ws t k w' hn hs hk (H.out.on hb))
  have HE := fun w' hb => hid (error_err k w' (HG.out.below HP.out hb))
  clear h hg hk hs hn
  go_enter Tryd.func3, Tryd.ntmps3
  go_wp2_with fail
  refine H1.out.mono ?_
  rintro e w1 ⟨rfl, q, rfl⟩
  have hb := below_drewN (Below.refl w.heap.size w) q
  generalize w.drewN q = w1 at hb ⊢
  go_wp2_with fail
  refine (H2 _ hb).out.mono ?_
  rintro e w2 ⟨rfl, hb2⟩
  have hb := hb.trans (hb2.mono hb.size)
  clear hb2
  go_wp2_with fail
  refine (HE _ hb).out.mono ?_
  rintro e w3 ⟨rfl, hb3⟩
  have hb := hb.trans (hb3.mono hb.size)
  clear hb3
  go_wp2_with fail
  refine (H3 _ hb).out.mono ?_
  rintro e w4 ⟨rfl, hb4⟩
  have hb := hb.trans (hb4.mono hb.size)
  clear hb4
  go_wp2_with fail
  refine (HE _ hb).out.mono ?_
  rintro e w5 ⟨rfl, hb5⟩
  have hb := hb.trans (hb5.mono hb.size)
  clear hb5
  go_wp2_with fail
  refine (H4 _ hb).out.mono ?_
  rintro e w6 ⟨rfl, hb6⟩
  have hb := hb.trans (hb6.mono hb.size)
  clear hb6
  go_wp2_with fail
  refine (HE _ hb).out.mono ?_
  rintro e w7 ⟨rfl, hb7⟩
  have hb := hb.trans (hb7.mono hb.size)
  clear hb7
  go_wp2_with fail
  refine (ints_ok none none 0 0 0 0 [] w7 0 0 (by omega) (by omega) IsInts.nil IsInts.nil).mono ?_
  rintro e w8 ⟨rfl, hb8⟩
  have hb := hb.trans (hb8.mono hb.size)
  clear hb8
  go_wp2_with fail
  refine (H5 _ hb).out.mono ?_
  rintro e w9 ⟨rfl, hb9⟩
  have hb := hb.trans (hb9.mono hb.size)
  clear hb9
  go_wp2_with fail
  refine (HE _ hb).out.mono ?_
  rintro e w10 ⟨rfl, hb10⟩
  have hb := hb.trans (hb10.mono hb.size)
  go_wp2_with fail
  go_ret
  exact ⟨rfl, hb⟩

set_option maxHeartbeats 1000000 in
theorem tsays_ok (A : Option Addr) (n c : Nat) (ws : List ByteArray) (t : ByteArray) (w : World) (hf : Fine ws) (ht : t.size ≤ maxLen) (h : IsStrs w w.heap.size A n ws) (hg : Laid w) :
    Calls Tryd.prog 3 #[.slice A n c, .string t] w fun e w' => e = .returned (.bool true) ∧ Below w.heap.size w w' := by
  have H := hid h
  have HP := hid hg.pos
  have HG := hid hg
  have HLO := hid (orderL_len hf)
  have HO := hid (wds_once.2 (fine_wl hf).1)
  have hl6 : (orderL ws).length ≤ 6 := by rw [orderL_len hf]; exact hf.1
  have H1 := hid (rwords_ok A n c ws w hf h)
  have H2 := fun w' hb => hid (tcheck_ok A n c ws w' hf (H.out.on hb))
  have R3 := fun w' hb => hid (rsize_any A n c ws w' hf (H.out.on hb))
  have R4 := fun w' hb => hid (rsorted_any A n c ws w' hf (H.out.on hb))
  have H3 := fun w' hb => hid (size_ok A n c ws w' hf (H.out.on hb))
  have H4 := fun w' hb => hid (order_ok A n c ws w' hf (H.out.on hb))
  have R5 := fun w' hb h24 => hid (rlong_any A n c ws t w' hf h24 (H.out.on hb))
  have H5 := fun w' hb h24 => hid (long_ok A n c ws t w' hf h24 (H.out.on hb))
  have H6 := fun w' hb h24 => hid (long_full A n c ws t w' hf h24 ht (H.out.on hb))
  have HE := fun w' hb => hid (error_err 4 w' (HG.out.below HP.out hb))
  obtain ⟨sn, hsn⟩ : ∃ z, z = sizeN ws := ⟨_, rfl⟩
  rw [← hsn] at R3 H3
  have HTM := hid ht
  clear h hg hf hsn ht
  go_enter Tryd.func3, Tryd.ntmps3
  go_wp2_with fail
  refine H1.out.mono ?_
  rintro e w1 ⟨rfl, q, rfl⟩
  have hb := below_drewN (Below.refl w.heap.size w) q
  generalize w.drewN q = w1 at hb ⊢
  go_wp2_with fail
  refine (H2 _ hb).out.mono ?_
  rintro e w2 ⟨rfl, hb2⟩
  have hb := hb.trans (hb2.mono hb.size)
  clear hb2
  go_wp2_with fail
  refine (error_nil _).mono ?_
  rintro e w3 ⟨rfl, hw3⟩
  subst w3
  go_wp2_with fail
  refine (R3 _ hb).out.mono ?_
  rintro e w4 ⟨rfl, q4, hw4⟩
  have hb := below_drewN hb q4
  rw [← hw4] at hb
  clear hw4
  go_wp2_with fail
  refine (R4 _ hb).out.mono ?_
  rintro e w5 ⟨v5, rfl, ho5, hb5⟩
  obtain ⟨A5, c5, rfl, _, hI5⟩ := IsInts.of_own ho5
  have hb := hb.trans (hb5.mono hb.size)
  clear hb5 ho5
  go_wp2_with fail
  refine (H3 _ hb).out.mono ?_
  rintro e w6 ⟨rfl, hb6⟩
  have hI6 := (hI5.below hb6).keep hb6.size (fun _ _ _ => rfl)
  have hb := hb.trans (hb6.mono hb.size)
  clear hb6 hI5
  go_wp2_with fail
  refine (error_nil _).mono ?_
  rintro e w7 ⟨rfl, hw7⟩
  subst w7
  go_wp2_with fail
  refine (H4 _ hb).out.mono ?_
  rintro e w8 ⟨v8, rfl, ho8, hb8⟩
  obtain ⟨A8, c8, rfl, _, hI8⟩ := IsInts.of_own ho8
  have hI8' := (hI6.below hb8).keep hb8.size (fun _ _ _ => rfl)
  have hb := hb.trans (hb8.mono hb.size)
  clear hb8 ho8 hI6
  have HI := hid (ints_ok A8 A5 _ _ c8 c5 _ w8 _ _ (by omega) (by omega) hI8 hI8')
  clear hI8 hI8'
  generalize (orderL ws).length = m at HI hl6 ⊢
  go_wp2_with fail
  refine (error_nil _).mono ?_
  rintro e w9 ⟨rfl, hw9⟩
  subst w9
  go_wp2_with fail
  refine HI.out.mono ?_
  rintro e w10 ⟨rfl, hb10⟩
  have hb := hb.trans (hb10.mono hb.size)
  clear hb10
  by_cases h24 : t.size ≤ 24
  · go_wp2_with fail
    refine (long_no t _ h24).mono ?_
    rintro e w11 ⟨rfl, hw11⟩
    subst w11
    go_wp2_with fail
    refine (R5 _ hb h24).out.mono ?_
    rintro e w12 ⟨k, rfl, hk, q12, hw12⟩
    have hb := below_drewN hb q12
    rw [← hw12] at hb
    clear hw12
    go_wp2_with fail
    refine (H5 _ hb h24).out.mono ?_
    rintro e w13 ⟨k', rfl, hk', hb13⟩
    obtain rfl := lg_one HO.out hk hk'
    have hb := hb.trans (hb13.mono hb.size)
    clear hb13 hk hk'
    go_wp2_with fail
    refine (error_nil _).mono ?_
    rintro e w14 ⟨rfl, hw14⟩
    subst w14
    go_wp2_with fail
    go_ret
    exact ⟨rfl, hb⟩
  · go_wp2_with fail
    refine (long_yes t _ (by omega) HTM.out).mono ?_
    rintro e w11 ⟨rfl, hw11⟩
    subst w11
    go_wp2_with fail
    refine (H6 _ hb (by omega)).out.mono ?_
    rintro e w13 ⟨rfl, hb13⟩
    have hb := hb.trans (hb13.mono hb.size)
    clear hb13
    go_wp2_with fail
    refine (HE _ hb).out.mono ?_
    rintro e w14 ⟨rfl, hb14⟩
    have hb := hb.trans (hb14.mono hb.size)
    go_wp2_with fail
    go_ret
    exact ⟨rfl, hb⟩
theorem tsays_any (A : Option Addr) (n c : Nat) (ws : List ByteArray) (t : ByteArray) (w : World) (hn : n ≤ maxLen) (hs : ∀ i, i < n → (wat ws i).size ≤ maxLen) (ht : t.size ≤ maxLen) (h : IsStrs w w.heap.size A n ws) (hg : Laid w) :
    Calls Tryd.prog 3 #[.slice A n c, .string t] w fun e w' => e = .returned (.bool true) ∧ Below w.heap.size w w' := by
  rcases words_or ws with hf | ⟨k, hk⟩
  · exact tsays_ok A n c ws t w hf ht h hg
  · exact tsays_bad A n c ws t k w hn hs hk h hg
end Go.Proofs.YtkcocdlfhgincaaDoor
