/-
  Contract of turn.Least: it answers the place of the first least rotation, and changes nothing. Conditions: none but the sizes that a row itself sets.
-/
import Derived.Test.YtldhcmoecmfigaaTurnB
namespace Go.Proofs.Ytldhcmoecmfigaa
open Go.RowKit

theorem least_long (s : ByteArray) (w : World) (h : 24 < s.size) (hs : s.size ≤ maxLen) :
    Calls Try.prog 14 #[.string s] w fun e w' => e = .returned (.tuple #[.int .i64 0, .iface 41 (.int .i64 4)]) ∧ w' = w := by
  unfold maxLen at hs
  go_enter Try.func14, Try.ntmps14
  go_wp2
  go_ret2
  exact ⟨rfl, rfl⟩

theorem sign_lt {x y : UInt8} (h : x < y) : x.toNat < y.toNat := UInt8.lt_iff_toNat_lt.1 h
theorem sign_ge {x y : UInt8} (h : ¬ x < y) : ¬ x.toNat < y.toNat := fun h' => h (UInt8.lt_iff_toNat_lt.2 h')
theorem sign_gt {x y : UInt8} (h : ¬ x < y) (hne : x ≠ y) : y < x := by
  rcases UInt8.lt_or_lt_of_ne hne with h' | h'
  · exact absurd h' h
  · exact h'

set_option maxHeartbeats 1600000 in
theorem least_any (s : ByteArray) (w : World) (h : s.size ≤ 24) :
    Calls Try.prog 14 #[.string s] w fun e w' => ∃ b : Nat, e = .returned (.tuple #[.int .i64 b, .nilIface]) ∧ Lst (cy s) s.size b ∧ w' = w := by
  have HP := hid (cy_pr s)
  have HS : Hid (0 < s.size → Sr (cy s) s.size 0 1) := hid fun h0 => sr_start (cy s) s.size h0
  have HN : Hid (s.size = 0 → Lst (cy s) s.size 0) := hid fun h0 => by rw [h0]; exact lst_none _
  go_enter Try.func14, Try.ntmps14
  go_wp2
  go_loopw [4, 5] (fun u v wr => ∃ b r : Nat, u = .int .i64 b ∧ v = .int .i64 r ∧ b < r ∧ r ≤ 100 ∧ Hid (0 < s.size → Sr (cy s) s.size b r) ∧ Hid (s.size = 0 → Lst (cy s) s.size b) ∧ wr = w) (fun _ v _ => s.size - (intOf v).toNat)
  case atStart => exact ⟨0, 1, rfl, rfl, by omega, by omega, HS, HN, rfl⟩
  case round =>
    clear HS HN
    obtain ⟨b, r, rfl, rfl, hbr, hr, HS, HN, rfl⟩ := hrel
    by_cases hlt : r < s.size
    · have hst := HS.out (by omega)
      have HT := hid hst
      have hbn := hst.2.1
      have HC := fun W => hid (common_any s b r W (by omega) (by omega) (by omega) (by omega))
      clear HS HN hst
      go_wp2_with fail
      refine (HC _).out.mono ?_
      rintro e w1 ⟨k, rfl, hk, hal, hw1⟩
      subst w1
      have HA := hid hal
      clear HC hal
      by_cases hks : k = s.size
      · have HL := hid (sr_all HP.out HT.out (fun l hl => HA.out.1 l (by omega)))
        have hq : ((k : Int) == (s.size : Int)) = true := by simp; omega
        clear HA HT hks
        go_wp2
        go_ret2
        exact ⟨b, rfl, HL.out, rfl⟩
      · have hkl : k < s.size := by omega
        have hq : ((k : Int) == (s.size : Int)) = false := by simp; omega
        have H1 := fun W => hid (byteAt_sum s b k W (by omega) (by omega) (by omega))
        have H2 := fun W => hid (byteAt_sum s r k W (by omega) (by omega) (by omega))
        clear hks
        by_cases hl : cy s (b + k) < cy s (r + k)
        · have hx := sign_lt hl
          have HR := hid (sr_left HP.out HT.out hkl HA.out.1 hl)
          clear hl HA HT
          generalize cy s (b + k) = x at H1 hx
          generalize cy s (r + k) = y at H2 hx
          go_wp2_with fail
          refine (H1 _).out.mono ?_
          rintro e w1 ⟨rfl, hw1⟩
          subst w1
          go_wp2_with fail
          refine (H2 _).out.mono ?_
          rintro e w1 ⟨rfl, hw1⟩
          subst w1
          clear H1 H2
          go_wp2
          go_roundw
          case rel => exact ⟨b, r + k + 1, rfl, by go_num, by omega, by omega, hid (fun _ => HR.out), hid (fun h0 => absurd h0 (by omega)), by first | rfl | trivial⟩
          case measure => simp [intOf]; omega
        · have hx := sign_ge hl
          have hg := sign_gt hl (HA.out.2 hkl)
          clear hl
          by_cases hm : r < b + k + 1
          · have HR := hid (sr_right (c := b + k + 1) HP.out HT.out hkl HA.out.1 hg (by omega))
            have hm2 : (r : Int) < (b : Int) + (k : Int) + 1 := by omega
            clear hg HA HT
            generalize cy s (b + k) = x at H1 hx
            generalize cy s (r + k) = y at H2 hx
            go_wp2_with fail
            refine (H1 _).out.mono ?_
            rintro e w1 ⟨rfl, hw1⟩
            subst w1
            go_wp2_with fail
            refine (H2 _).out.mono ?_
            rintro e w1 ⟨rfl, hw1⟩
            subst w1
            clear H1 H2
            go_wp2
            go_roundw
            case rel => exact ⟨b + k + 1, b + k + 1 + 1, by go_num, by go_num, by omega, by omega, hid (fun _ => HR.out), hid (fun h0 => absurd h0 (by omega)), by first | rfl | trivial⟩
            case measure => simp [intOf]; omega
          · have HR := hid (sr_right (c := r) HP.out HT.out hkl HA.out.1 hg (by omega))
            have hm2 : ¬ (r : Int) < (b : Int) + (k : Int) + 1 := by omega
            clear hg HA HT
            generalize cy s (b + k) = x at H1 hx
            generalize cy s (r + k) = y at H2 hx
            go_wp2_with fail
            refine (H1 _).out.mono ?_
            rintro e w1 ⟨rfl, hw1⟩
            subst w1
            go_wp2_with fail
            refine (H2 _).out.mono ?_
            rintro e w1 ⟨rfl, hw1⟩
            subst w1
            clear H1 H2
            go_wp2
            go_roundw
            case rel => exact ⟨r, r + 1, by go_num, by go_num, by omega, by omega, hid (fun _ => HR.out), hid (fun h0 => absurd h0 (by omega)), by first | rfl | trivial⟩
            case measure => simp [intOf]; omega
    · have HL : Hid (Lst (cy s) s.size b) := hid (by
        by_cases h0 : s.size = 0
        · exact HN.out h0
        · exact sr_end (HS.out (by omega)) hlt)
      clear HS HN
      go_wp2
      go_ret2
      exact ⟨b, rfl, HL.out, rfl⟩
end Go.Proofs.Ytldhcmoecmfigaa
