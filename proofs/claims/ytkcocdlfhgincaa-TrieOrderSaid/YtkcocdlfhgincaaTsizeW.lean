/-
  The walk of TrieSize: it returns true, whatever the words. Conditions: the row's own sizes.
-/
import Derived.Test.YtkcocdlfhgincaaTorderW
namespace Go.Proofs.Ytkcocdlfhgincaa
open Go.RowKit

/-- The first i words in the words' order. -/
def srtd (ws : List ByteArray) (i : Nat) : List Wd := (List.range i).map fun m => (bs (wat ws (od8 ws m)), od8 ws m)
theorem srtd_succ (ws : List ByteArray) (i : Nat) : srtd ws (i + 1) = srtd ws i ++ [(bs (wat ws (od8 ws i)), od8 ws i)] := by
  simp [srtd, List.range_succ]
/-- The word ahead of the i-th; none: the empty one. -/
def lastW (ws : List ByteArray) (i : Nat) : ByteArray := if i = 0 then ⟨#[]⟩ else wat ws (od8 ws (i - 1))
theorem lastW_succ (ws : List ByteArray) (i : Nat) : lastW ws (i + 1) = wat ws (od8 ws i) := by simp [lastW]
theorem lastW_lt {ws : List ByteArray} (hf : Fine ws) {i : Nat} (hi : i < ws.length) : bs (lastW ws i) < bs (wat ws (od8 ws i)) := by
  unfold lastW
  split
  · have := (hf.2 _ (od8_lt hf hi)).2.1
    have e : bs ⟨#[]⟩ = [] := rfl
    rw [e]
    cases h : bs (wat ws (od8 ws i)) with
    | nil => have := bs_len (wat ws (od8 ws i)); rw [h] at this; simp at this; omega
    | cons c r => exact List.nil_lt_cons _ _
  · exact od8_rise hf (by omega) hi
theorem srtd_step {ws : List ByteArray} (hf : Fine ws) {i : Nat} (hi : i < ws.length) :
    sz 8 (srtd ws (i + 1)) = sz 8 (srtd ws i) + ((wat ws (od8 ws i)).size - alikeN (lastW ws i) (wat ws (od8 ws i))) := by
  have hw := hf.2 _ (od8_lt hf hi)
  rw [srtd_succ, sz_snoc 8 _ _ _ (by rw [bs_len]; exact hw.1), fr_sorted (z := bs (lastW ws i)) ?_ ?_ (lastW_lt hf hi), bs_len, alikeN_lc]
  · unfold lastW
    by_cases h0 : i = 0
    · subst h0; exact .inl ⟨rfl, rfl⟩
    · rw [if_neg h0]
      exact .inr ⟨od8 ws (i - 1), List.mem_map.2 ⟨i - 1, List.mem_range.2 (by omega), rfl⟩⟩
  · intro p hp
    obtain ⟨m, hm, rfl⟩ := List.mem_map.1 hp
    have hm := List.mem_range.1 hm
    unfold lastW
    rw [if_neg (by omega)]
    by_cases e : m = i - 1
    · subst e; exact .inr rfl
    · exact .inl (od8_rise hf (by omega) (by omega))
theorem srtd_end {ws : List ByteArray} (hf : Fine ws) : sz 8 (srtd ws ws.length) = sizeN ws := by
  have h := fine_inorder hf
  have hl : (od 8 (wds (wl ws))).length = ws.length := by rw [h.1, wl_len]
  have e : srtd ws ws.length = (od 8 (wds (wl ws))).map fun i => ((wl ws).getD i [], i) := by
    apply List.ext_getElem?
    intro m
    by_cases hm : m < ws.length
    · have e1 : od8 ws m = (od 8 (wds (wl ws)))[m]'(by omega) := by unfold od8; rw [List.getD_eq_getElem?_getD, List.getElem?_eq_getElem (by omega)]; rfl
      rw [srtd, List.getElem?_map, List.getElem?_range hm, List.getElem?_map, List.getElem?_eq_getElem (by omega), ← e1]
      simp only [Option.map_some]
      rw [wl_getD (od8_lt hf hm)]
    · rw [List.getElem?_eq_none (by simp [srtd]; omega), List.getElem?_eq_none (by simp; omega)]
  rw [e]
  exact sz_perm 8 (sorted_perm (inorder_sorted h) (wds_once.2 (fine_wl hf).1))
theorem srtd_le {ws : List ByteArray} (hf : Fine ws) {i : Nat} (hi : i ≤ ws.length) : sz 8 (srtd ws i) ≤ 49 := by
  have := sz_le 8 8 (srtd ws i) (fun q hq => by
    obtain ⟨m, hm, rfl⟩ := List.mem_map.1 hq
    have hm := List.mem_range.1 hm
    have := (hf.2 _ (od8_lt hf (i := m) (by omega))).1
    simp only [bs_len]; omega)
  have hl : (srtd ws i).length = i := by simp [srtd]
  have := hf.1
  omega
theorem lastW_size {ws : List ByteArray} (hf : Fine ws) {i : Nat} (hi : i ≤ ws.length) : (lastW ws i).size ≤ 8 := by
  unfold lastW
  split
  · decide
  · exact (hf.2 _ (od8_lt hf (by omega))).1

theorem tsize_bad (A : Option Addr) (n c : Nat) (ws : List ByteArray) (k : Int) (w : World) (hn : n ≤ maxLen) (hs : ∀ i, i < n → (wat ws i).size ≤ maxLen) (hk : Bad ws k) (h : IsStrs w w.heap.size A n ws) :
    Calls Try.prog 3 #[.slice A n c] w fun e w' => e = .returned (.bool true) ∧ Below w.heap.size w w' := by
  have H := hid h
  have HK := hid hk
  have HS := hid hs
  have HN := hid hn
  clear h hk hs hn
  go_enter Try.func3, Try.ntmps3
  go_wp2_with fail
  refine (tfact_any w).mono ?_
  rintro e w1 ⟨rfl, hb1⟩
  have HC := hid (size_bad A n c ws k w1 HN.out HS.out HK.out ((H.out.below hb1).mono hb1.size))
  clear H HK HS HN
  go_wp2_with fail
  refine HC.out.mono ?_
  rintro e w2 ⟨rfl, hb2⟩
  go_wp2_with fail
  go_ret
  exact ⟨rfl, hb1.trans (hb2.mono hb1.size)⟩

set_option maxHeartbeats 2000000 in
theorem tsize_ok (A : Option Addr) (n c : Nat) (ws : List ByteArray) (w : World) (hf : Fine ws) (h : IsStrs w w.heap.size A n ws) :
    Calls Try.prog 3 #[.slice A n c] w fun e w' => e = .returned (.bool true) ∧ Below w.heap.size w w' := by
  have hl : ws.length = n := h.1
  have hn6 := hf.1
  have H := hid h
  have HF := hid hf
  have HL := hid hl
  have hn : n ≤ 6 := by omega
  clear h hf hl hn6
  go_enter Try.func3, Try.ntmps3
  go_wp2_with fail
  refine (tfact_any w).mono ?_
  rintro e w1 ⟨rfl, hb1⟩
  have HC := hid (size_ok A n c ws w1 HF.out ((H.out.below hb1).mono hb1.size))
  go_wp2_with fail
  refine HC.out.mono ?_
  rintro e w1' ⟨rfl, hb1'⟩
  have hb1 := hb1.trans (hb1'.mono hb1.size)
  have HC := hid (order_ok A n c ws w1' HF.out ((H.out.below hb1).mono hb1.size))
  obtain ⟨sn, hsn⟩ : ∃ z, z = sizeN ws := ⟨_, rfl⟩
  rw [← hsn]
  have HSN := hid hsn
  clear hsn
  go_wp2_with fail
  refine HC.out.mono ?_
  rintro e w2 ⟨v, rfl, ho, hb2⟩
  obtain ⟨A2, c2, rfl, _, hI⟩ := IsInts.of_own ho
  have hb12 := hb1.trans (hb2.mono hb1.size)
  have HS := hid (H.out.below hb12)
  have HI := hid hI
  have hlen : (orderL ws).length = n := by rw [orderL_len HF.out, HL.out]
  rw [hlen] at HI
  rw [hlen]
  clear hI ho HC H hlen hb1 hb2 hb1'
  go_wp2_with fail
  go_loopw [7, 8, 9] (fun v u x wr => ∃ (i q a : Nat) (s : ByteArray), i ≤ n ∧ v = .int .i64 a ∧ u = .string s ∧ x = .int .i64 i ∧ Hid (a = sz 8 (srtd ws i) ∧ s = lastW ws i) ∧ Hid (wr = w2.drewN q)) (fun _ _ x _ => n - (intOf x).toNat)
  case atStart => exact ⟨0, 0, 1, ⟨#[]⟩, by omega, rfl, rfl, rfl, hid ⟨(sz_none 8).symm, rfl⟩, hid rfl⟩
  case round =>
    obtain ⟨i, q, a, last, hi, rfl, rfl, rfl, HA, HQ⟩ := hrel
    by_cases hlt : i < n
    · obtain ⟨g, off, rfl, hg, hcw⟩ := HS.out.2 (by omega)
      obtain ⟨g2, off2, rfl, hg2, hco⟩ := HI.out.2 (by omega)
      have hiw : i < ws.length := by have := HL.out; omega
      have hci : wr.cell? ⟨g2, off2 + i, none⟩ = some (.int .i64 (od8 ws i : Int)) := by rw [HQ.out, ← od8_get HF.out hiw]; exact hco i hlt
      have hoi := od8_lt HF.out hiw
      rw [HL.out] at hoi
      have hwi : wr.cell? ⟨g, off + od8 ws i, none⟩ = some (.string (wat ws (od8 ws i))) := by rw [HQ.out]; exact hcw _ hoi
      have hsi := (HF.out.2 (od8 ws i) (by rw [HL.out]; exact hoi)).1
      have hsl := lastW_size HF.out (i := i) (by omega)
      have hale := srtd_le HF.out (i := i) (by omega)
      have hst := srtd_step HF.out hiw
      have hbf := befB_yes (lastW_lt HF.out hiw)
      have hal := (alikeN_le (lastW ws i) (wat ws (od8 ws i))).2
      have hnx := lastW_succ ws i
      rw [← HA.out.1] at hale hst
      rw [← HA.out.2] at hsl hst hbf hal
      have HB := fun W => hid (before_any last (wat ws (od8 ws i)) W (by omega) (by omega))
      have HLK := fun W => hid (alike_any last (wat ws (od8 ws i)) W (by omega) (by omega))
      rw [hbf] at HB
      obtain ⟨s, hse⟩ : ∃ z, z = wat ws (od8 ws i) := ⟨_, rfl⟩
      rw [← hse] at hwi hsi hst hal hnx HB HLK
      obtain ⟨d, hd⟩ : ∃ z, z = alikeN last s := ⟨_, rfl⟩
      rw [← hd] at hst hal HLK
      have HN := hid (show a + s.size - d = sz 8 (srtd ws (i + 1)) ∧ s = lastW ws (i + 1) from ⟨by omega, hnx.symm⟩)
      generalize od8 ws i = oi at hci hoi hwi
      clear hco hcw hiw hst hbf hnx hd hse HA
      by_cases h0 : i = 0
      · have hd1 : decide (0 < i) = false := by simp; omega
        have H0 := hid h0
        clear h0
        go_wp2_with (first
          | (go_at_call 9; refine (in_yes _ _ _ _ (by omega) (by omega)).mono ?_; rintro e w' ⟨rfl, hw'⟩; subst w')
          | (go_at_call 11; refine (HLK _).out.mono ?_; rintro e w' ⟨rfl, q2, hw'⟩; have HW := hid hw'; clear hw'))
        go_wp2_with fail
        go_roundw
        case rel => exact ⟨i + 1, _, a + s.size - d, s, by omega, by go_num, rfl, by go_num, HN, hid (by rw [HW.out, HQ.out]; exact World.drewN_drewN _ _ _)⟩
        case measure => simp [intOf]; omega
      · have hi0 : 0 < i := by omega
        clear h0
        go_wp2_with (first
          | (go_at_call 9; refine (in_yes _ _ _ _ (by omega) (by omega)).mono ?_; rintro e w' ⟨rfl, hw'⟩; subst w')
          | (go_at_call 10; refine (HB _).out.mono ?_; rintro e w3 ⟨rfl, q3, hw3⟩; have HW3 := hid hw3; clear hw3)
          | (go_at_call 11; refine (HLK _).out.mono ?_; rintro e w' ⟨rfl, q2, hw'⟩; have HW := hid hw'; clear hw'))
        go_wp2_with fail
        go_roundw
        case rel => exact ⟨i + 1, _, a + s.size - d, s, by omega, by go_num, rfl, by go_num, HN, hid (by rw [HW.out, HW3.out, HQ.out, World.drewN_drewN, World.drewN_drewN])⟩
        case measure => simp [intOf]; omega
    · have HE := hid (show a = sn by rw [HSN.out, HA.out.1, ← srtd_end HF.out, show i = ws.length by have := HL.out; omega])
      clear HA
      go_wp2_with fail
      go_ret
      exact ⟨ret_bool (by rw [HE.out]; simp), by rw [HQ.out]; exact below_drewN hb12 _⟩
theorem tsize_any (A : Option Addr) (n c : Nat) (ws : List ByteArray) (w : World) (hn : n ≤ maxLen) (hs : ∀ i, i < n → (wat ws i).size ≤ maxLen) (h : IsStrs w w.heap.size A n ws) :
    Calls Try.prog 3 #[.slice A n c] w fun e w' => e = .returned (.bool true) ∧ Below w.heap.size w w' := by
  rcases words_or ws with hf | ⟨k, hk⟩
  · exact tsize_ok A n c ws w hf h
  · exact tsize_bad A n c ws k w hn hs hk h
theorem torder_any (A : Option Addr) (n c : Nat) (ws : List ByteArray) (w : World) (hn : n ≤ maxLen) (hs : ∀ i, i < n → (wat ws i).size ≤ maxLen) (h : IsStrs w w.heap.size A n ws) :
    Calls Try.prog 5 #[.slice A n c] w fun e w' => e = .returned (.bool true) ∧ Below w.heap.size w w' := by
  rcases words_or ws with hf | ⟨k, hk⟩
  · exact torder_ok A n c ws w hf h
  · exact torder_bad A n c ws k w hn hs hk h
end Go.Proofs.Ytkcocdlfhgincaa
