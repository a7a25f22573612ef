/-
  The walk of CommonLongest: it returns true at every three texts. Conditions: the row's own sizes.
-/
import Derived.Test.YtaodocdddfkglaaCfact
import Derived.Test.YtaodocdddfkglaaBef
namespace Go.Proofs.Ytaodocdddfkglaa
open Go.RowKit

theorem wiB_no {a b : List UInt8} (h : ¬ a.Sublist b) : wiB a b = false := by
  cases e : wiB a b with
  | false => rfl
  | true => exact absurd ((wiB_iff b a).1 e) h
theorem cml_long (a b c : ByteArray) (w : World) (h : 24 < a.size ∨ 24 < b.size) (ha : a.size ≤ maxLen) (hb : b.size ≤ maxLen) :
    Calls Try.prog 3 #[.string a, .string b, .string c] w fun e w' => e = .returned (.bool true) ∧ Below w.heap.size w w' := by
  have HF := fun W => hid (cfact_any W)
  have H1 := fun W => hid (cof_full a b W h ha hb)
  have hq : ByteArray.empty.toList.isEmpty = true := by rw [ByteArray.toList_eq]; rfl
  clear h ha hb
  generalize ByteArray.empty = u at H1 hq
  go_enter Try.func3, Try.ntmps3
  go_wp2_with fail
  refine (HF _).out.mono ?_
  rintro e w1 ⟨rfl, hb1⟩
  go_wp2_with fail
  refine (H1 _).out.mono ?_
  rintro e w2 ⟨rfl, hb2⟩
  have hbw := hb1.trans (hb2.mono hb1.size)
  clear HF H1 hb1 hb2
  go_wp2_with fail
  go_ret
  exact ⟨rfl, hbw⟩
set_option maxRecDepth 100000 in
set_option maxHeartbeats 2000000 in
theorem cml_any (a b c : ByteArray) (w : World) (ha : a.size ≤ maxLen) (hb : b.size ≤ maxLen) (hc : c.size ≤ maxLen) :
    Calls Try.prog 3 #[.string a, .string b, .string c] w fun e w' => e = .returned (.bool true) ∧ Below w.heap.size w w' := by
  by_cases h : 24 < a.size ∨ 24 < b.size
  · exact cml_long a b c w h ha hb
  have ha2 : a.size ≤ 24 := by omega
  have hb2 : b.size ≤ 24 := by omega
  have HF := fun W => hid (cfact_any W)
  have H1 := fun W => hid (cof_any a b W ha2 hb2)
  have hcm := cmn_cm (bs a) (bs b)
  have hts : (txt (cmn (bs a) (bs b))).size = (cmn (bs a) (bs b)).length := txt_size _
  have htl := (cmn_le (bs a) (bs b)).1
  rw [bs_len] at htl
  have H2 := fun W => hid (cwithin_any (txt (cmn (bs a) (bs b))) a W (by omega) ha2)
  have H3 := fun W => hid (cwithin_any (txt (cmn (bs a) (bs b))) b W (by omega) hb2)
  rw [bs_txt, (wiB_iff _ _).2 hcm.left] at H2
  rw [bs_txt, (wiB_iff _ _).2 hcm.right] at H3
  have H4 := fun W => hid (clong_any a b W ha2 hb2)
  rw [← hts] at H4
  have H5 := fun h W => hid (cwithin_any c a W h ha2)
  have H6 := fun h W => hid (cwithin_any c b W h hb2)
  have H7 := fun h W => hid (cwithin_full c a W (.inl h) hc ha)
  have H8 := fun h W => hid (cwithin_full c b W (.inl h) hc hb)
  have hway : wiB (bs c) (bs a) = false ∨ (wiB (bs c) (bs a) = true ∧ wiB (bs c) (bs b) = false) ∨ (wiB (bs c) (bs a) = true ∧ wiB (bs c) (bs b) = true ∧ (c.size < (txt (cmn (bs a) (bs b))).size ∨ (¬ c.size < (txt (cmn (bs a) (bs b))).size ∧ c.size = (txt (cmn (bs a) (bs b))).size ∧ befB c (txt (cmn (bs a) (bs b))) = false))) := by
    by_cases e1 : (bs c).Sublist (bs a)
    · by_cases e2 : (bs c).Sublist (bs b)
      · refine .inr (.inr ⟨(wiB_iff _ _).2 e1, (wiB_iff _ _).2 e2, ?_⟩)
        rcases hcm.most _ e1 e2 with h | ⟨h, h'⟩
        · rw [bs_len] at h; exact .inl (by omega)
        · rw [bs_len] at h
          exact .inr ⟨by omega, by omega, befB_no (by rw [bs_txt]; exact h')⟩
      · exact .inr (.inl ⟨(wiB_iff _ _).2 e1, wiB_no e2⟩)
    · exact .inl (wiB_no e1)
  have htz : (txt (cmn (bs a) (bs b))).size ≤ 24 := by omega
  clear hcm hts htl ha hb h
  generalize txt (cmn (bs a) (bs b)) = t at H1 H2 H3 H4 hway htz
  have H9 := fun h W => hid (before_any c t W h (by omega))
  generalize befB c t = bf at hway H9
  generalize wiB (bs c) (bs a) = x at H5 hway
  generalize wiB (bs c) (bs b) = y at H6 hway
  go_enter Try.func3, Try.ntmps3
  go_wp2_with fail
  refine (HF _).out.mono ?_
  rintro e w1 ⟨rfl, hb1⟩
  go_wp2_with fail
  refine (H1 _).out.mono ?_
  rintro e w2 ⟨rfl, hb2'⟩
  have hbA := hb1.trans (hb2'.mono hb1.size)
  clear hb1 hb2' HF H1
  go_wp2_with fail
  refine (H2 _).out.mono ?_
  rintro e w3 ⟨rfl, hb3⟩
  have hbB := hbA.trans (hb3.mono hbA.size)
  clear hb3 hbA H2
  go_wp2_with fail
  refine (H3 _).out.mono ?_
  rintro e w4 ⟨rfl, hb4⟩
  have hbC := hbB.trans (hb4.mono hbB.size)
  clear hb4 hbB H3
  go_wp2_with fail
  refine (H4 _).out.mono ?_
  rintro e w5 ⟨rfl, hb5⟩
  have hbD := hbC.trans (hb5.mono hbC.size)
  clear hb5 hbC H4
  by_cases hcl : 24 < c.size
  · have HA := H7 hcl
    have HB := H8 hcl
    clear H5 H6 H7 H8 H9 hway
    go_wp2_with fail
    refine (HA _).out.mono ?_
    rintro e w6 ⟨rfl, hb6⟩
    have hbE := hbD.trans (hb6.mono hbD.size)
    clear hb6 hbD HA
    go_wp2_with fail
    refine (HB _).out.mono ?_
    rintro e w7 ⟨rfl, hb7⟩
    have hbF := hbE.trans (hb7.mono hbE.size)
    clear hb7 hbE HB
    unfold maxLen at hc
    go_wp2_with fail
    go_ret
    exact ⟨ret_bool (decide_eq_true (by omega)), hbF⟩
  · have HA := H5 (by omega)
    have HB := H6 (by omega)
    have HC := H9 (by omega)
    have hc24 : c.size ≤ 24 := by omega
    clear H5 H6 H7 H8 H9 hc hcl
    go_wp2_with fail
    refine (HA _).out.mono ?_
    rintro e w6 ⟨rfl, hb6⟩
    have hbE := hbD.trans (hb6.mono hbD.size)
    clear hb6 hbD HA
    go_wp2_with fail
    refine (HB _).out.mono ?_
    rintro e w7 ⟨rfl, hb7⟩
    have hbF := hbE.trans (hb7.mono hbE.size)
    clear hb7 hbE HB
    rcases hway with rfl | ⟨rfl, rfl⟩ | ⟨rfl, rfl, hl | ⟨hl, he, rfl⟩⟩
    · go_wp2_with fail
      go_ret
      exact ⟨rfl, hbF⟩
    · go_wp2_with fail
      go_ret
      exact ⟨rfl, hbF⟩
    · have hd : decide (c.size < t.size) = true := decide_eq_true hl
      go_wp2_with fail
      go_ret
      exact ⟨rfl, hbF⟩
    · have hd : decide (c.size < t.size) = false := decide_eq_false hl
      have hd2 : ((c.size : Int) == (t.size : Int)) = true := beq_iff_eq.2 (by omega)
      clear hl he
      go_wp2_with fail
      refine (HC _).out.mono ?_
      rintro e w8 ⟨rfl, q, hw8⟩
      have hbG : Below w.heap.size w w8 := by rw [hw8]; exact below_drewN hbF q
      clear hw8 HC hbF
      go_wp2_with fail
      go_ret
      exact ⟨rfl, hbG⟩
end Go.Proofs.Ytaodocdddfkglaa
