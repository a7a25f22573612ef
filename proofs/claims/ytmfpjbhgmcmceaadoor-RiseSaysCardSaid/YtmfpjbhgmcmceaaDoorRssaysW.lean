/-
  The walk of RiseSays: it returns true at every list of numbers, and leaves the old memory alone. Conditions: the row's own sizes; errors.errorType as the program's text lays it.
-/
import Derived.Test.YtmfpjbhgmcmceaaDoorErr
import Derived.Test.YtmfpjbhgmcmceaaDoorRise
import Derived.Test.YtmfpjbhgmcmceaaDoorRlst
import Derived.Test.YtmfpjbhgmcmceaaDoorRrow
import Derived.Test.YtmfpjbhgmcmceaaDoorRpil
import Derived.Test.YtmfpjbhgmcmceaaDoorRshp
import Derived.Test.YtmfpjbhgmcmceaaDoorInts
import Derived.Test.YtmfpjbhgmcmceaaDoorOn
namespace Go.Proofs.YtmfpjbhgmcmceaaDoor
open Go.RowKit

theorem badR_ne {l : List Int} {k : Int} (h : BadR l k) : k ≠ 0 := by
  rcases h with ⟨_, rfl⟩ | ⟨_, rfl, _⟩ <;> decide
set_option maxHeartbeats 4000000 in
set_option maxRecDepth 100000 in
theorem rssays_ok (A : Option Addr) (n c : Nat) (l : List Int) (w : World) (hl : IsInts w w.heap.size A n l) (hG : GoodR l) :
    Calls Tryd.prog 3 #[.slice A n c] w fun e w' => e = .returned (.bool true) ∧ Below w.heap.size w w' := by
  have hn : n ≤ 20 := by rw [← hl.1]; exact hG.1
  have HL := hid hl
  have hU := rise_le (l := l) ltB
  have hD := rise_le (l := l) geB
  have hln := hl.1
  have HP20 : Hid ((tops l.reverse).length ≤ 1099511627776) := hid (by have := tops_len l.reverse; rw [List.length_reverse] at this; omega)
  have HS20 : Hid ((shp l).length ≤ 1099511627776) := hid (by have := (tab_len l.reverse).1; rw [List.length_reverse] at this; unfold shp; rw [List.length_map]; omega)
  rw [hln] at hU hD
  have H1 := hid (rlist_ok A n c l w hl hG)
  have H2 := hid (scheck_ok A n c l w hl hG)
  have H3 := fun W (h : Below w.heap.size w W) => hid (rrow_any A n c l true W hn (HL.out.up h))
  have H4 := fun W (h : Below w.heap.size w W) => hid (rrow_any A n c l false W hn (HL.out.up h))
  have H5 := fun W (h : Below w.heap.size w W) => hid (rpiles_any A n c l W hn (HL.out.up h))
  have H6 := fun W (h : Below w.heap.size w W) => hid (rshape_any A n c l W hn (HL.out.up h))
  have H7 := fun W (h : Below w.heap.size w W) => hid (slong_ok A n c l W (HL.out.up h) hG)
  have H8 := fun W (h : Below w.heap.size w W) => hid (sfall_ok A n c l W (HL.out.up h) hG)
  have H9 := fun W (h : Below w.heap.size w W) => hid (spiles_ok A n c l W (HL.out.up h) hG)
  have H0 := fun W (h : Below w.heap.size w W) => hid (sshape_ok A n c l W (HL.out.up h) hG)
  rw [show upB true = ltB from rfl] at H3
  rw [show upB false = geB from rfl] at H4
  clear hl hG hln
  generalize lg ltB l.reverse = U at H3 H7 hU
  generalize lg geB l.reverse = D at H4 H8 hD
  generalize tops l.reverse = T at H5 H9 HP20
  generalize shp l = S at H6 H0 HS20
  go_enter Tryd.func3, Tryd.ntmps3
  go_wp2_with fail
  refine H1.out.mono ?_
  rintro e w1 ⟨rfl, hw1⟩
  subst w1
  go_wp2_with fail
  refine H2.out.mono ?_
  rintro e w1 ⟨rfl, hb1⟩
  clear H1 H2
  go_wp2_with fail
  refine (error_nil _).mono ?_
  rintro e w2 ⟨rfl, hw2⟩
  subst w2
  go_wp2_with fail
  refine (H3 _ hb1).out.mono ?_
  rintro e w2 ⟨rfl, hb⟩
  have hb2 := hb1.trans (hb.mono hb1.size)
  clear H3 hb hb1
  go_wp2_with fail
  refine (H4 _ hb2).out.mono ?_
  rintro e w3 ⟨rfl, hb⟩
  have hb3 := hb2.trans (hb.mono hb2.size)
  clear H4 hb hb2
  go_wp2_with fail
  refine (H5 _ hb3).out.mono ?_
  rintro e w4 ⟨v4, rfl, hO, hb⟩
  obtain ⟨A4, c4, rfl, _, hI⟩ := IsInts.of_own hO
  have HT := hid hI
  have hb4 := hb3.trans (hb.mono hb3.size)
  clear H5 hb hb3 hO hI
  generalize hTn : T.length = tn at HT HP20 ⊢
  have HTn := hid hTn
  rw [hTn] at H9
  clear hTn
  go_wp2_with fail
  refine (H6 _ hb4).out.mono ?_
  rintro e w5 ⟨v5, rfl, hO, hb⟩
  obtain ⟨A5, c5, rfl, _, hI⟩ := IsInts.of_own hO
  have HS := hid hI
  have HT5 := hid (HT.out.up hb)
  have hb5 := hb4.trans (hb.mono hb4.size)
  clear H6 hb hb4 hO hI HT
  generalize hSn : S.length = sn at HS HS20 ⊢
  rw [hSn] at H0
  clear hSn
  go_wp2_with fail
  refine (H7 _ hb5).out.mono ?_
  rintro e w6 ⟨rfl, hb⟩
  have HT6 := hid (HT5.out.up hb)
  have HS6 := hid (HS.out.up hb)
  have hb6 := hb5.trans (hb.mono hb5.size)
  clear H7 hb hb5 HT5 HS
  go_wp2_with fail
  refine (error_nil _).mono ?_
  rintro e w7 ⟨rfl, hw7⟩
  subst w7
  go_wp2_with fail
  refine (H8 _ hb6).out.mono ?_
  rintro e w7 ⟨rfl, hb⟩
  have HT7 := hid (HT6.out.up hb)
  have HS7 := hid (HS6.out.up hb)
  have hb7 := hb6.trans (hb.mono hb6.size)
  clear H8 hb hb6 HT6 HS6
  go_wp2_with fail
  refine (error_nil _).mono ?_
  rintro e w8 ⟨rfl, hw8⟩
  subst w8
  go_wp2_with fail
  refine (H9 _ hb7).out.mono ?_
  rintro e w8 ⟨A8, c8, rfl, hI, hb⟩
  have HT8 := hid (HT7.out.up hb)
  have HS8 := hid (HS7.out.up hb)
  have HI8 := hid hI
  have hb8 := hb7.trans (hb.mono hb7.size)
  clear H9 hb hb7 HT7 HS7 hI
  go_wp2_with fail
  refine (error_nil _).mono ?_
  rintro e w9 ⟨rfl, hw9⟩
  subst w9
  go_wp2_with fail
  refine (ints_ok _ _ _ _ _ _ T _ _ _ HP20.out HP20.out HI8.out HT8.out).mono ?_
  rintro e w9 ⟨rfl, hb⟩
  have HS9 := hid (HS8.out.up hb)
  have hb9 := hb8.trans (hb.mono hb8.size)
  clear hb hb8 HT8 HS8 HI8
  go_wp2_with fail
  refine (H0 _ hb9).out.mono ?_
  rintro e wa ⟨Aa, ca, rfl, hI, hb⟩
  have HSa := hid (HS9.out.up hb)
  have HIa := hid hI
  have hba := hb9.trans (hb.mono hb9.size)
  clear H0 hb hb9 HS9 hI
  go_wp2_with fail
  refine (error_nil _).mono ?_
  rintro e wb ⟨rfl, hwb⟩
  subst wb
  go_wp2_with fail
  refine (ints_ok _ _ _ _ _ _ S _ _ _ HS20.out HS20.out HIa.out HSa.out).mono ?_
  rintro e wc ⟨rfl, hb⟩
  have hbc := hba.trans (hb.mono hba.size)
  clear hb hba HSa HIa
  go_wp2_with fail
  go_ret
  exact ⟨by first | rfl | simp, hbc⟩
set_option maxHeartbeats 4000000 in
set_option maxRecDepth 100000 in
theorem rssays_bad (A : Option Addr) (n c : Nat) (l : List Int) (k : Int) (w : World) (hn : n ≤ maxLen) (hl : IsInts w w.heap.size A n l) (hk : BadR l k) (hg : Laid w) :
    Calls Tryd.prog 3 #[.slice A n c] w fun e w' => e = .returned (.bool true) ∧ Below w.heap.size w w' := by
  have hp := hg.pos
  have HL := hid hl
  have k0 : ¬ (k = 0) := badR_ne hk
  have H1 := hid (rlist_bad A n c l k w hn hl hk)
  have H2 := hid (scheck_bad A n c l k w hn hl hk)
  have H7 := fun W (h : Below w.heap.size w W) => hid (slong_bad A n c l k W hn (HL.out.up h) hk)
  have H8 := fun W (h : Below w.heap.size w W) => hid (sfall_bad A n c l k W hn (HL.out.up h) hk)
  have H9 := fun W (h : Below w.heap.size w W) => hid (spiles_bad A n c l k W hn (HL.out.up h) hk)
  have H0 := fun W (h : Below w.heap.size w W) => hid (sshape_bad A n c l k W hn (HL.out.up h) hk)
  have HI := fun W => hid (ints_ok none none 0 0 0 0 [] W 0 0 (by omega) (by omega) IsInts.nil IsInts.nil)
  have HE := fun W (h : Below w.heap.size w W) => hid (error_err k W (hg.below hp h))
  clear hl hk hg hp HL
  go_enter Tryd.func3, Tryd.ntmps3
  go_wp2_with fail
  refine H1.out.mono ?_
  rintro e w1 ⟨rfl, hw1⟩
  subst w1
  go_wp2_with fail
  refine H2.out.mono ?_
  rintro e w1 ⟨rfl, hb1⟩
  clear H1 H2
  go_wp2_with fail
  refine (HE _ hb1).out.mono ?_
  rintro e w2 ⟨rfl, hb⟩
  have hb2 := hb1.trans (hb.mono hb1.size)
  clear hb hb1
  go_wp2_with fail
  refine (H7 _ hb2).out.mono ?_
  rintro e w3 ⟨rfl, hb⟩
  have hb3 := hb2.trans (hb.mono hb2.size)
  clear H7 hb hb2
  go_wp2_with fail
  refine (HE _ hb3).out.mono ?_
  rintro e w4 ⟨rfl, hb⟩
  have hb4 := hb3.trans (hb.mono hb3.size)
  clear hb hb3
  go_wp2_with fail
  refine (H8 _ hb4).out.mono ?_
  rintro e w5 ⟨rfl, hb⟩
  have hb5 := hb4.trans (hb.mono hb4.size)
  clear H8 hb hb4
  go_wp2_with fail
  refine (HE _ hb5).out.mono ?_
  rintro e w6 ⟨rfl, hb⟩
  have hb6 := hb5.trans (hb.mono hb5.size)
  clear hb hb5
  go_wp2_with fail
  refine (H9 _ hb6).out.mono ?_
  rintro e w7 ⟨rfl, hb⟩
  have hb7 := hb6.trans (hb.mono hb6.size)
  clear H9 hb hb6
  go_wp2_with fail
  refine (HE _ hb7).out.mono ?_
  rintro e w8 ⟨rfl, hb⟩
  have hb8 := hb7.trans (hb.mono hb7.size)
  clear hb hb7
  go_wp2_with fail
  refine (HI _).out.mono ?_
  rintro e w9 ⟨rfl, hb⟩
  have hb9 := hb8.trans (hb.mono hb8.size)
  clear hb hb8
  go_wp2_with fail
  refine (H0 _ hb9).out.mono ?_
  rintro e wa ⟨rfl, hb⟩
  have hba := hb9.trans (hb.mono hb9.size)
  clear H0 hb hb9
  go_wp2_with fail
  refine (HE _ hba).out.mono ?_
  rintro e wb ⟨rfl, hb⟩
  have hbb := hba.trans (hb.mono hba.size)
  clear hb hba
  go_wp2_with fail
  refine (HI _).out.mono ?_
  rintro e wc ⟨rfl, hb⟩
  have hbc := hbb.trans (hb.mono hbb.size)
  clear hb hbb
  go_wp2_with fail
  go_ret
  exact ⟨by first | rfl | simp, hbc⟩
theorem riseSays_any (A : Option Addr) (n c : Nat) (l : List Int) (w : World) (hn : n ≤ maxLen) (hl : IsInts w w.heap.size A n l) (hg : Laid w) :
    Calls Tryd.prog 3 #[.slice A n c] w fun e w' => e = .returned (.bool true) ∧ Below w.heap.size w w' := by
  rcases badR_or l with hG | ⟨k, hk⟩
  · exact rssays_ok A n c l w hl hG
  · exact rssays_bad A n c l k w hn hl hk hg
end Go.Proofs.YtmfpjbhgmcmceaaDoor
