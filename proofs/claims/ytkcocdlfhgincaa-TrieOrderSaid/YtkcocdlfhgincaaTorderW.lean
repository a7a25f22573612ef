/-
  The walk of TrieOrder: it returns true, whatever the words. Conditions: the row's own sizes.
-/
import Derived.Test.YtkcocdlfhgincaaTfact
import Derived.Test.YtkcocdlfhgincaaBefore
import Derived.Test.YtkcocdlfhgincaaIn
namespace Go.Proofs.Ytkcocdlfhgincaa
open Go.RowKit

/-- The place of the i-th word in the words' order. -/
def od8 (ws : List ByteArray) (i : Nat) : Nat := (od 8 (wds (wl ws))).getD i 0
theorem fine_inorder {ws : List ByteArray} (hf : Fine ws) : InOrder (wl ws) (od 8 (wds (wl ws))) := od_inorder 8 (fine_wl hf).1 fun x hx => ((fine_wl hf).2 x hx).1
theorem od8_lt {ws : List ByteArray} (hf : Fine ws) {i : Nat} (hi : i < ws.length) : od8 ws i < ws.length := by
  have h := fine_inorder hf
  have hl : i < (od 8 (wds (wl ws))).length := by rw [h.1, wl_len]; exact hi
  have := h.2.1 (od8 ws i) (by unfold od8; rw [List.getD_eq_getElem?_getD, List.getElem?_eq_getElem hl]; exact List.getElem_mem _)
  rwa [wl_len] at this
theorem od8_get {ws : List ByteArray} (hf : Fine ws) {i : Nat} (hi : i < ws.length) : (orderL ws).getD i 0 = (od8 ws i : Int) := by
  have h := fine_inorder hf
  have hl : i < (od 8 (wds (wl ws))).length := by rw [h.1, wl_len]; exact hi
  unfold orderL od8
  rw [List.getD_eq_getElem?_getD, List.getD_eq_getElem?_getD, List.getElem?_map, List.getElem?_eq_getElem hl]
  rfl
theorem od8_rise {ws : List ByteArray} (hf : Fine ws) {k i : Nat} (hk : k < i) (hi : i < ws.length) : bs (wat ws (od8 ws k)) < bs (wat ws (od8 ws i)) := by
  have h := fine_inorder hf
  have hl : (od 8 (wds (wl ws))).length = ws.length := by rw [h.1, wl_len]
  have := List.pairwise_iff_getElem.1 h.2.2 k i (by omega) (by omega) hk
  have e1 : od8 ws k = (od 8 (wds (wl ws)))[k]'(by omega) := by unfold od8; rw [List.getD_eq_getElem?_getD, List.getElem?_eq_getElem (by omega)]; rfl
  have e2 : od8 ws i = (od 8 (wds (wl ws)))[i]'(by omega) := by unfold od8; rw [List.getD_eq_getElem?_getD, List.getElem?_eq_getElem (by omega)]; rfl
  rw [← e1, ← e2, wl_getD (od8_lt hf (by omega)), wl_getD (od8_lt hf hi)] at this
  exact this
theorem not_pre {x y : List UInt8} (h : x < y) : ¬ y <+: x := by
  rintro ⟨r, rfl⟩
  have : y ++ r < y ++ [] := by simpa using h
  rw [lt_app] at this
  simp at this

theorem torder_bad (A : Option Addr) (n c : Nat) (ws : List ByteArray) (k : Int) (w : World) (hn : n ≤ maxLen) (hs : ∀ i, i < n → (wat ws i).size ≤ maxLen) (hk : Bad ws k) (h : IsStrs w w.heap.size A n ws) :
    Calls Try.prog 5 #[.slice A n c] w fun e w' => e = .returned (.bool true) ∧ Below w.heap.size w w' := by
  have H := hid h
  have HK := hid hk
  have HS := hid hs
  have HN := hid hn
  clear h hk hs hn
  go_enter Try.func5, Try.ntmps5
  go_wp2_with fail
  refine (tfact_any w).mono ?_
  rintro e w1 ⟨rfl, hb1⟩
  have HC := hid (order_bad A n c ws k w1 HN.out HS.out HK.out ((H.out.below hb1).mono hb1.size))
  clear H HK HS HN
  go_wp2_with fail
  refine HC.out.mono ?_
  rintro e w2 ⟨rfl, hb2⟩
  go_wp2_with fail
  go_ret
  exact ⟨rfl, hb1.trans (hb2.mono hb1.size)⟩

set_option maxHeartbeats 2000000 in
theorem torder_ok (A : Option Addr) (n c : Nat) (ws : List ByteArray) (w : World) (hf : Fine ws) (h : IsStrs w w.heap.size A n ws) :
    Calls Try.prog 5 #[.slice A n c] w fun e w' => e = .returned (.bool true) ∧ Below w.heap.size w w' := by
  have hl : ws.length = n := h.1
  have hn6 := hf.1
  have H := hid h
  have HF := hid hf
  have HL := hid hl
  have hn : n ≤ 6 := by omega
  clear h hf hl hn6
  go_enter Try.func5, Try.ntmps5
  go_wp2_with fail
  refine (tfact_any w).mono ?_
  rintro e w1 ⟨rfl, hb1⟩
  have HC := hid (order_ok A n c ws w1 HF.out ((H.out.below hb1).mono hb1.size))
  go_wp2_with fail
  refine HC.out.mono ?_
  rintro e w2 ⟨v, rfl, ho, hb2⟩
  obtain ⟨A2, c2, rfl, _, hI⟩ := IsInts.of_own ho
  have hb12 := hb1.trans (hb2.mono hb1.size)
  have HS := hid (H.out.below hb12)
  have HI := hid hI
  have hlen : (orderL ws).length = n := by rw [orderL_len HF.out, HL.out]
  rw [hlen] at HI
  rw [hlen]
  clear hI ho HC H hlen hb1 hb2
  go_wp2_with fail
  go_loopw [6] (fun x wr => ∃ i q : Nat, i ≤ n ∧ x = .int .i64 i ∧ wr = w2.drewN q) (fun x _ => n - (intOf x).toNat)
  case atStart => exact ⟨0, 0, by omega, rfl, rfl⟩
  case round =>
    obtain ⟨i, q, hi, rfl, rfl⟩ := hrel
    by_cases hlt : i < n
    · obtain ⟨g, off, rfl, hg, hcw⟩ := HS.out.2 (by omega)
      obtain ⟨g2, off2, rfl, hg2, hco⟩ := HI.out.2 (by omega)
      have hci := hco i hlt
      rw [od8_get HF.out (by have := HL.out; omega)] at hci
      have hoi := od8_lt HF.out (i := i) (by have := HL.out; omega)
      rw [HL.out] at hoi
      have hwi : w2.cell? ⟨g, off + od8 ws i, none⟩ = some (.string (wat ws (od8 ws i))) := hcw _ hoi
      have hsi := (HF.out.2 (od8 ws i) (by rw [HL.out]; exact hoi)).1
      have HCO := hid hco
      have HCW := hid hcw
      obtain ⟨oi, hoe⟩ : ∃ z, z = od8 ws i := ⟨_, rfl⟩
      have HOE := hid hoe
      rw [← hoe] at hci hwi hsi hoi
      generalize hwe : wat ws oi = s at hwi hsi
      have HWE := hid hwe
      clear hco hcw hoe hwe
      obtain ⟨Q, hQ⟩ : ∃ z, z = q := ⟨_, rfl⟩
      subst hQ
      go_wp2_with (go_at_call 9; refine (in_yes _ _ _ _ (by omega) (by omega)).mono ?_; rintro e w' ⟨rfl, rfl⟩)
      go_wp2_with fail
      go_loopw [7] (fun x wr => ∃ k q : Nat, k ≤ i ∧ x = .int .i64 k ∧ wr = w2.drewN q) (fun x _ => i - (intOf x).toNat)
      case atStart => exact ⟨0, Q, by omega, rfl, rfl⟩
      case round =>
        obtain ⟨k, q, hk, rfl, hwr⟩ := hrel
        have HQ := hid hwr
        clear hwr
        by_cases hlt2 : k < i
        · have hkn : k < n := by omega
          have hck := HCO.out k hkn
          rw [od8_get HF.out (by have := HL.out; omega)] at hck
          have hok := od8_lt HF.out (i := k) (by have := HL.out; omega)
          rw [HL.out] at hok
          have hwk : w2.cell? ⟨g, off + od8 ws k, none⟩ = some (.string (wat ws (od8 ws k))) := HCW.out _ hok
          have hsk := (HF.out.2 (od8 ws k) (by rw [HL.out]; exact hok)).1
          have hrise := od8_rise HF.out hlt2 (by have := HL.out; omega)
          rw [← HOE.out, HWE.out] at hrise
          have HB := fun W => hid (before_any (wat ws (od8 ws k)) s W (by omega) (by omega))
          have HG := fun W => hid (begins_any (wat ws (od8 ws k)) s W (by omega) (by omega))
          rw [befB_yes hrise] at HB
          rw [begB_no (not_pre hrise)] at HG
          clear hrise
          generalize wat ws (od8 ws k) = t at hwk hsk HB HG
          generalize od8 ws k = ok at hck hok hwk
          have hck : wr.cell? ⟨g2, off2 + k, none⟩ = some (.int .i64 (ok : Int)) := by rw [HQ.out]; exact hck
          have hwk : wr.cell? ⟨g, off + ok, none⟩ = some (.string t) := by rw [HQ.out]; exact hwk
          have hci : wr.cell? ⟨g2, off2 + i, none⟩ = some (.int .i64 (oi : Int)) := by rw [HQ.out]; exact hci
          have hwi : wr.cell? ⟨g, off + oi, none⟩ = some (.string s) := by rw [HQ.out]; exact hwi
          go_wp2_with fail
          go_quiet (first | (go_at_call 10; exact Calls.quiet_of (HB _).out) | (go_at_call 13; exact Calls.quiet_of_same (HG _).out))
          go_wp2_with fail
          go_roundw
          case rel => exact ⟨k + 1, _, by omega, by go_num, by rw [HQ.out]; exact World.drewN_drewN _ _ _⟩
          case measure => simp [intOf]; omega
        · go_wp2_with fail
          go_roundw
          case rel => exact ⟨i + 1, _, by omega, by go_num, HQ.out⟩
          case measure => simp [intOf]; omega
    · go_wp2_with fail
      go_ret
      exact ⟨rfl, below_drewN hb12 _⟩
end Go.Proofs.Ytkcocdlfhgincaa
