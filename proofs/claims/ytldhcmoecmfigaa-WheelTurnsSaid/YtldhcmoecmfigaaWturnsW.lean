/-
  The walk of WheelTurns: it returns true at every text of a length that a row may have, and every number. No other condition.
-/
import Derived.Test.YtldhcmoecmfigaaWfact
import Derived.Test.YtldhcmoecmfigaaRturn
import Derived.Test.YtldhcmoecmfigaaTsame
import Derived.Test.YtldhcmoecmfigaaIn2
namespace Go.Proofs.Ytldhcmoecmfigaa
open Go.RowKit

/-- What stands in the order is a rotation of the text. -/
theorem row_same (s : ByteArray) {i : Nat} (hi : i < s.size) : SameR (txt ((wheelM (bs s)).getD i [])) s := by
  have hl : i < (bs s).length := by rw [bs_len]; exact hi
  obtain ⟨k, hk, e⟩ := wheelM_row hl
  rw [e]
  right
  have hsz : (txt (spin (bs s) k)).size = s.size := by rw [txt_size, spin_len, bs_len]
  rw [bs_len] at hk
  refine ⟨if k = 0 then 0 else s.size - k, by rw [hsz]; split <;> omega, ?_⟩
  apply bs_inj
  rw [bs_turn, bs_txt, spin_spin (by rw [bs_len]; omega) (by rw [bs_len]; split <;> omega), bs_len]
  have : (if (k + if k = 0 then 0 else s.size - k) < s.size then (k + if k = 0 then 0 else s.size - k) else (k + if k = 0 then 0 else s.size - k) - s.size) = 0 := by
    by_cases h0 : k = 0
    · subst h0; rw [if_pos rfl]; rw [if_pos (by omega)]
    · rw [if_neg h0, if_neg (by omega)]; omega
  rw [this, spin_zero]

set_option maxHeartbeats 1600000 in
theorem wheelTurns_any (s : ByteArray) (i : Int) (w : World) (hs : s.size ≤ maxLen) :
    Calls Try.prog 4 #[.string s, .int .i64 i] w fun e w' => e = .returned (.bool true) ∧ Below w.heap.size w w' := by
  have HF := fun W => hid (wfact_any W)
  by_cases h : s.size ≤ 24
  · have H1 := fun W => hid (there_any s W h)
    have hsl : (bs s).length ≤ 24 := by rw [bs_len]; exact h
    by_cases hin : 0 ≤ i ∧ i ≤ (s.size : Int) - 1
    · obtain ⟨k, rfl⟩ : ∃ k : Nat, i = k := ⟨i.toNat, by omega⟩
      have hk : k < s.size := by omega
      have H0 := fun W => hid (in_yes (k : Int) 0 ((s.size : Int) - 1) W (by omega) (by omega))
      have H3 := fun W => hid (rturn_any s k W (by omega) (by omega))
      have H4 := fun W => hid (there_any (turnS s k) W (by rw [turn_size _ _ (by omega)]; exact h))
      have hT : wheelT (bs (turnS s k)) = wheelT (bs s) := by rw [bs_turn, wheelT_spin (by rw [bs_len]; omega)]
      rw [hT] at H4
      have H2 := fun W => hid (back_wheel (bs s) k W hsl ⟨fun _ => by rw [bs_len]; exact hk, fun h0 => by rw [bs_len] at h0; omega⟩)
      have hrs : (txt ((wheelM (bs s)).getD k [])).size = s.size := by rw [txt_size, wheelM_rowlen (by rw [bs_len]; exact hk), bs_len]
      have H5 := fun W => hid (same_any (txt ((wheelM (bs s)).getD k [])) s W (by rw [hrs]; exact h) h)
      have HSR := hid (row_same s hk)
      have hn1 : wheelN (bs s) ≤ 24 := Nat.le_trans (wheelN_le _) hsl
      have hn2 : wheelN (bs (turnS s k)) ≤ 24 := Nat.le_trans (wheelN_le _) (by rw [bs_len, turn_size _ _ (by omega)]; exact h)
      generalize wheelN (bs (turnS s k)) = n2 at H4 hn2
      generalize wheelN (bs s) = n1 at H1 hn1
      generalize txt (wheelT (bs s)) = t at H1 H2 H4
      generalize turnS s k = u at H3 H4
      generalize txt ((wheelM (bs s)).getD k []) = v at H2 H5 HSR hrs
      have hq := same_yes (rfl : t = t)
      clear hT hsl hs hrs
      go_enter Try.func4, Try.ntmps4
      go_wp2_with fail
      refine (HF _).out.mono ?_
      rintro e w1 ⟨rfl, hb1⟩
      go_wp2_with fail
      refine (H1 _).out.mono ?_
      rintro e w2 ⟨rfl, hb2⟩
      have hbB := hb1.trans (hb2.mono hb1.size)
      clear hb1 hb2
      go_wp2_with fail
      refine (H0 _).out.mono ?_
      rintro e w3 ⟨rfl, hw3⟩
      subst w3
      go_wp2_with fail
      refine (H3 _).out.mono ?_
      rintro e w3 ⟨rfl, q, hw3⟩
      have hbC : Below w.heap.size w w3 := by rw [hw3]; exact below_drewN hbB q
      clear hw3 hbB
      go_wp2_with fail
      refine (H4 _).out.mono ?_
      rintro e w4 ⟨rfl, hb4⟩
      have hbD := hbC.trans (hb4.mono hbC.size)
      clear hbC hb4
      go_wp2_with fail
      refine (H2 _).out.mono ?_
      rintro e w5 ⟨rfl, hb5⟩
      have hbE := hbD.trans (hb5.mono hbD.size)
      clear hbD hb5
      go_wp2_with fail
      refine (H5 _).out.mono ?_
      rintro e w6 ⟨rr, rfl, hrr, q2, hw6⟩
      obtain rfl : rr = true := hrr.2 HSR.out
      have hbF : Below w.heap.size w w6 := by rw [hw6]; exact below_drewN hbE q2
      clear hw6 hbE hrr
      go_wp2_with fail
      go_ret
      exact ⟨rfl, hbF⟩
    · have H0 := fun W => hid (in_not i 0 ((s.size : Int) - 1) W hin)
      have hn1 : wheelN (bs s) ≤ 24 := Nat.le_trans (wheelN_le _) hsl
      generalize wheelN (bs s) = n1 at H1 hn1
      generalize txt (wheelT (bs s)) = t at H1
      clear hsl hs hin
      go_enter Try.func4, Try.ntmps4
      go_wp2_with fail
      refine (HF _).out.mono ?_
      rintro e w1 ⟨rfl, hb1⟩
      go_wp2_with fail
      refine (H1 _).out.mono ?_
      rintro e w2 ⟨rfl, hb2⟩
      have hbB := hb1.trans (hb2.mono hb1.size)
      clear hb1 hb2
      go_wp2_with fail
      refine (H0 _).out.mono ?_
      rintro e w3 ⟨rfl, hw3⟩
      subst w3
      go_wp2_with fail
      go_ret
      exact ⟨rfl, hbB⟩
  · have H1 := fun W => hid (there_long s W (by omega) hs)
    clear hs
    go_enter Try.func4, Try.ntmps4
    go_wp2_with fail
    refine (HF _).out.mono ?_
    rintro e w1 ⟨rfl, hb1⟩
    go_wp2_with fail
    refine (H1 _).out.mono ?_
    rintro e w2 ⟨rfl, hw2⟩
    subst w2
    go_wp2_with fail
    go_ret
    exact ⟨rfl, hb1⟩
end Go.Proofs.Ytldhcmoecmfigaa
