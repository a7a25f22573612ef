/-
  The walk of TrieLongest: it returns true, whatever the words and the text. Conditions: the row's own sizes.
-/
import Derived.Test.YtkcocdlfhgincaaTfact
import Derived.Test.YtkcocdlfhgincaaBefore
import Derived.Test.YtkcocdlfhgincaaIn
namespace Go.Proofs.Ytkcocdlfhgincaa
open Go.RowKit

theorem tlong_err (A : Option Addr) (n c : Nat) (t : ByteArray) (k : Int) (ws : List ByteArray) (w : World) (h : IsStrs w w.heap.size A n ws)
    (hc : ∀ w1, IsStrs w1 w1.heap.size A n ws → Calls Try.prog 12 #[.slice A n c, .string t] w1 fun e w' => e = .returned (.tuple #[.int .i64 0, .iface 44 (.int .i64 k)]) ∧ Below w1.heap.size w1 w') :
    Calls Try.prog 4 #[.slice A n c, .string t] w fun e w' => e = .returned (.bool true) ∧ Below w.heap.size w w' := by
  have H := hid h
  have HC := hid hc
  clear h hc
  go_enter Try.func4, Try.ntmps4
  go_wp2_with fail
  refine (tfact_any w).mono ?_
  rintro e w1 ⟨rfl, hb1⟩
  have HC := hid (HC.out w1 ((H.out.below hb1).mono hb1.size))
  clear H
  go_wp2_with fail
  refine HC.out.mono ?_
  rintro e w2 ⟨rfl, hb2⟩
  go_wp2_with fail
  go_ret
  exact ⟨rfl, hb1.trans (hb2.mono hb1.size)⟩

set_option maxHeartbeats 2000000 in
theorem tlong_ok (A : Option Addr) (n c : Nat) (ws : List ByteArray) (t : ByteArray) (w : World) (hf : Fine ws) (ht : t.size ≤ 24) (h : IsStrs w w.heap.size A n ws) :
    Calls Try.prog 4 #[.slice A n c, .string t] w fun e w' => e = .returned (.bool true) ∧ Below w.heap.size w w' := by
  have hl : ws.length = n := h.1
  have hn6 := hf.1
  have H := hid h
  have HF := hid hf
  have HL := hid hl
  have hn : n ≤ 6 := by omega
  clear h hf hl hn6
  go_enter Try.func4, Try.ntmps4
  go_wp2_with fail
  refine (tfact_any w).mono ?_
  rintro e w1 ⟨rfl, hb1⟩
  have HC := hid (long_ok A n c ws t w1 HF.out ht ((H.out.below hb1).mono hb1.size))
  go_wp2_with fail
  refine HC.out.mono ?_
  rintro e w2 ⟨k, rfl, hk, hb2⟩
  have hb12 := hb1.trans (hb2.mono hb1.size)
  have HS := hid (H.out.below hb12)
  clear HC H hb1 hb2
  rcases hk with ⟨rfl, hno⟩ | ⟨x, j, hj, rfl, hx, hmax⟩
  · have HNO := hid hno
    clear hno
    go_wp2_with fail
    go_loopw [8] (fun x wr => ∃ i q : Nat, i ≤ n ∧ x = .int .i64 i ∧ Hid (wr = w2.drewN q)) (fun x _ => n - (intOf x).toNat)
    case atStart => exact ⟨0, 0, by omega, rfl, hid rfl⟩
    case round =>
      obtain ⟨i, q, hi, rfl, HQ⟩ := hrel
      by_cases hlt : i < n
      · obtain ⟨g, off, rfl, hg, hcw⟩ := HS.out.2 (by omega)
        have hwi : wr.cell? ⟨g, off + i, none⟩ = some (.string (wat ws i)) := by rw [HQ.out]; exact hcw i hlt
        have hsi := (HF.out.2 i (by rw [HL.out]; exact hlt)).1
        have hnb : ¬ bs (wat ws i) <+: bs t := HNO.out (bs (wat ws i), i) (wds_mem.2 (wl_get (by rw [HL.out]; exact hlt)))
        have HG := fun W => hid (begins_any t (wat ws i) W (by omega) (by omega))
        rw [begB_no hnb] at HG
        clear hcw hnb
        generalize wat ws i = s at hwi hsi HG
        go_wp2_with fail
        go_quiet ((go_at_call 13; exact Calls.quiet_of_same (HG _).out))
        go_wp2_with fail
        go_roundw
        case rel => exact ⟨i + 1, _, by omega, by go_num, hid (by rw [HQ.out]; exact World.drewN_drewN _ _ _)⟩
        case measure => simp [intOf]; omega
      · go_wp2_with fail
        go_ret
        exact ⟨rfl, by rw [HQ.out]; exact below_drewN hb12 _⟩
  · have hjn : j < n := by
      have := (List.getElem?_eq_some_iff.1 (wds_mem.1 hj)).1
      rw [wl_len, HL.out] at this; exact this
    have hxj : x = bs (wat ws j) := by
      have := wds_mem.1 hj
      rw [wl_get (by rw [HL.out]; exact hjn)] at this
      simpa using this.symm
    subst hxj
    obtain ⟨g, off, rfl, hg, hcw⟩ := HS.out.2 (by omega)
    have hwj : w2.cell? ⟨g, off + j, none⟩ = some (.string (wat ws j)) := hcw j hjn
    have hsj := (HF.out.2 j (by rw [HL.out]; exact hjn)).1
    have HG := fun W => hid (begins_any t (wat ws j) W (by omega) (by omega))
    rw [begB_iff.2 hx] at HG
    have HM := hid (show ∀ i, i < n → bs (wat ws i) <+: bs t → (wat ws i).size ≤ (wat ws j).size from fun i hi hp => by
      have := hmax (bs (wat ws i), i) (wds_mem.2 (wl_get (by rw [HL.out]; exact hi))) hp
      simpa [bs_len] using this)
    have HCW := hid hcw
    clear hcw hj hx hmax
    generalize wat ws j = sj at hwj hsj HG HM
    have hq : ((j : Int) != -1) = true := by simp
    go_wp2_with (first
      | (go_at_call 9; refine (in_yes _ _ _ _ (by omega) (by omega)).mono ?_; rintro e w' ⟨rfl, hw'⟩; subst w')
      | (go_at_call 13; refine (HG _).out.mono ?_; rintro e w' ⟨rfl, hw'⟩; subst w'))
    clear HG
    go_loopw [8] (fun x wr => ∃ i q : Nat, i ≤ n ∧ x = .int .i64 i ∧ Hid (wr = w2.drewN q)) (fun x _ => n - (intOf x).toNat)
    case atStart => exact ⟨0, 0, by omega, rfl, hid rfl⟩
    case round =>
      obtain ⟨i, q, hi, rfl, HQ⟩ := hrel
      by_cases hlt : i < n
      · have hwi : wr.cell? ⟨g, off + i, none⟩ = some (.string (wat ws i)) := by rw [HQ.out]; exact HCW.out i hlt
        have hwj : wr.cell? ⟨g, off + j, none⟩ = some (.string sj) := by rw [HQ.out]; exact hwj
        have hsi := (HF.out.2 i (by rw [HL.out]; exact hlt)).1
        by_cases hp : bs (wat ws i) <+: bs t
        · have HG := fun W => hid (begins_any t (wat ws i) W (by omega) (by omega))
          rw [begB_iff.2 hp] at HG
          have hle := HM.out i hlt hp
          have hnl : ¬ ((j : Int) < 0) := by omega
          clear hp
          generalize wat ws i = s at hwi hsi HG hle
          go_wp2_with fail
          go_quiet ((go_at_call 13; exact Calls.quiet_of_same (HG _).out))
          go_wp2_with fail
          go_roundw
          case rel => exact ⟨i + 1, _, by omega, by go_num, hid (by rw [HQ.out]; exact World.drewN_drewN _ _ _)⟩
          case measure => simp [intOf]; omega
        · have HG := fun W => hid (begins_any t (wat ws i) W (by omega) (by omega))
          rw [begB_no hp] at HG
          clear hp
          generalize wat ws i = s at hwi hsi HG
          go_wp2_with fail
          go_quiet ((go_at_call 13; exact Calls.quiet_of_same (HG _).out))
          go_wp2_with fail
          go_roundw
          case rel => exact ⟨i + 1, _, by omega, by go_num, hid (by rw [HQ.out]; exact World.drewN_drewN _ _ _)⟩
          case measure => simp [intOf]; omega
      · go_wp2_with fail
        go_ret
        exact ⟨rfl, by rw [HQ.out]; exact below_drewN hb12 _⟩
theorem tlong_any (A : Option Addr) (n c : Nat) (ws : List ByteArray) (t : ByteArray) (w : World) (hn : n ≤ maxLen) (hs : ∀ i, i < n → (wat ws i).size ≤ maxLen) (ht : t.size ≤ maxLen) (h : IsStrs w w.heap.size A n ws) :
    Calls Try.prog 4 #[.slice A n c, .string t] w fun e w' => e = .returned (.bool true) ∧ Below w.heap.size w w' := by
  rcases words_or ws with hf | ⟨k, hk⟩
  · by_cases h24 : t.size ≤ 24
    · exact tlong_ok A n c ws t w hf h24 h
    · exact tlong_err A n c t 4 ws w h fun w1 h1 => long_full A n c ws t w1 hf (by omega) ht h1
  · exact tlong_err A n c t k ws w h fun w1 h1 => long_bad A n c ws t k w1 hn hs hk h1
end Go.Proofs.Ytkcocdlfhgincaa
