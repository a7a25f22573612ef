/-
  The walk of PeriodEdges: it returns true for every text, and leaves the old memory alone. No condition but the row's own size.
-/
import Derived.Test.YtlklhgapnenekaaPrfact
import Derived.Test.YtlklhgapnenekaaVoid
import Derived.Deep.QuietTactic
import Derived.BigQuiet
namespace Go.Proofs.Ytlklhgapnenekaa
open Go.RowKit

set_option maxHeartbeats 800000 in
theorem predge_long (s : ByteArray) (w : World) (h : 24 < s.size) (hs : s.size ≤ maxLen) :
    Calls Try.prog 5 #[.string s] w fun e w' => e = .returned (.bool true) ∧ Below w.heap.size w w' := by
  have H1 := fun W => hid (pall_long s W h hs)
  have H2 := fun W => hid (all_long s W h hs)
  unfold maxLen at hs
  go_enter Try.func5, Try.ntmps5
  go_wp2_with fail
  refine (prfact_any _).mono ?_
  rintro e w1 ⟨rfl, hb1⟩
  go_wp2_with fail
  refine (H1 _).out.mono ?_
  rintro e w2 ⟨rfl, hw2⟩
  subst w2
  go_wp2_with fail
  refine (H2 _).out.mono ?_
  rintro e w2 ⟨rfl, hw2⟩
  subst w2
  clear H1 H2
  go_wp2
  go_ret
  exact ⟨rfl, hb1⟩

set_option maxHeartbeats 800000 in
theorem predge_short (s : ByteArray) (w : World) (h : s.size ≤ 24) :
    Calls Try.prog 5 #[.string s] w fun e w' => e = .returned (.bool true) ∧ Below w.heap.size w w' := by
  have H1 := fun W => hid (pall_any s W h)
  have H2 := fun W => hid (all_any s W h)
  go_enter Try.func5, Try.ntmps5
  go_wp2_with fail
  refine (prfact_any _).mono ?_
  rintro e w1 ⟨rfl, hb1⟩
  go_wp2_with fail
  refine (H1 _).out.mono ?_
  rintro e w2 ⟨v2, rfl, ho2, hc2⟩
  have hb2 := Below.on hb1 hc2 (Nat.le_refl _)
  clear H1 hc2 hb1
  go_wp2_with fail
  refine (H2 _).out.mono ?_
  rintro e w3 ⟨v3, rfl, ho3, hc3⟩
  have hb3 := Below.on hb2 hc3 (Nat.le_refl _)
  clear H2 hb2
  have hlen := all_len s
  by_cases h0 : s.size = 0
  · have v0 := blank_yes h0
    obtain ⟨A2, c2, rfl, hI2⟩ := own_n (n := 0) ho2 (by rw [perL_none h0]; rfl)
    obtain ⟨A3, c3, rfl, hI3⟩ := own_n (n := 0) ho3 (by omega)
    clear hI2 hI3 ho2 ho3 h0 hlen hc3
    go_wp2
    go_ret
    exact ⟨rfl, hb3⟩
  · have v0 := blank_no (show 0 < s.size by omega)
    obtain ⟨n, hn⟩ : ∃ n, (allL s).length = n := ⟨_, rfl⟩
    obtain ⟨A2, c2, rfl, hI2⟩ := own_n (n := n + 1) ho2 (by rw [perL_len h0, hn])
    obtain ⟨A3, c3, rfl, hI3⟩ := own_n (n := n) ho3 hn
    have hJ2 := hI2.up hc3
    obtain ⟨g2, o2, rfl, _, hd2⟩ := hJ2.2 (by omega)
    have HD2 := hid hd2
    have HI3 := hid hI3
    have HX : Hid (∀ i, i < n → (perL s).getD i 0 = (s.size : Int) - (allL s).getD (n - 1 - i) 0) := hid fun i hi => by
      rw [← hn] at hi ⊢; exact perL_at h0 i hi
    have HB : Hid (∀ i, i < n → 0 ≤ (allL s).getD i 0 ∧ (allL s).getD i 0 ≤ (s.size : Int)) := hid fun i hi => allL_in (by rw [hn]; exact hi)
    have HL : Hid ((perL s).getD n 0 = (s.size : Int)) := hid (by rw [← hn]; exact perL_last h0)
    have hn24 : n ≤ 24 := by omega
    have hne : (((n + 1 : Nat) : Int) != (n : Int) + 1) = false := by simp
    clear hI2 hJ2 hd2 hI3 ho2 ho3 hn hlen hc3 h0
    go_wp2
    go_loopw [8] (fun i wr => ∃ k q : Nat, k ≤ n ∧ i = .int .i64 k ∧ wr = w3.drewN q) (fun i _ => n - (intOf i).toNat)
    case atStart => exact ⟨0, 0, Nat.zero_le _, rfl, rfl⟩
    case round =>
      obtain ⟨k, q, hk, rfl, hwr⟩ := hrel
      subst wr
      by_cases hlt : k < n
      · obtain ⟨g3, o3, rfl, _, hd3⟩ := HI3.out.2 (by omega)
        have hx := hd3 (n - 1 - k) (by omega)
        have hy := HD2.out k (by omega)
        rw [HX.out k hlt] at hy
        have hxb := HB.out (n - 1 - k) (by omega)
        generalize (allL s).getD (n - 1 - k) 0 = X at hx hy hxb
        obtain ⟨Y, hY⟩ : ∃ Y : Int, (s.size : Int) - X = Y := ⟨_, rfl⟩
        rw [hY] at hy
        have hyb : 0 ≤ Y ∧ Y ≤ 24 := by omega
        have hs1 : (Y + X != (s.size : Int)) = false := by simp; omega
        have g1 : ((n : Int) - 1 - (k : Int)).toNat = n - 1 - k := by omega
        have g2' : 0 ≤ (n : Int) - 1 - (k : Int) := by omega
        have g3' : (n : Int) - 1 - (k : Int) < n := by omega
        have hk2 : k < n + 1 := by omega
        clear hd3 hY
        go_wp2
        go_quiet (fail)
        go_wp2
        go_roundw
        case rel => exact ⟨k + 1, _, by omega, by go_num, by first | rfl | rw [World.drewN_drewN]⟩
        case measure => simp [intOf]; omega
      · obtain rfl : k = n := by omega
        have hy := HD2.out k (by omega)
        rw [HL.out] at hy
        clear HD2 HL HX HB HI3 hlt
        go_wp2
        go_ret
        exact ⟨ret_bool (by simp), below_drewN hb3 _⟩
theorem predge_any (s : ByteArray) (w : World) (hs : s.size ≤ maxLen) :
    Calls Try.prog 5 #[.string s] w fun e w' => e = .returned (.bool true) ∧ Below w.heap.size w w' := by
  by_cases h : 24 < s.size
  · exact predge_long s w h hs
  · exact predge_short s w (by omega)
end Go.Proofs.Ytlklhgapnenekaa
