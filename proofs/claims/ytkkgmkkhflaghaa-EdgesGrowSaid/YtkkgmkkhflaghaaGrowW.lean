/-
  The walk of EdgesGrow: it returns true for every text, and leaves the old memory alone. No condition but the row's own size.
-/
import Derived.Test.YtkkgmkkhflaghaaFact
namespace Go.Proofs.Ytkkgmkkhflaghaa
open Go.RowKit

theorem grow_long (s : ByteArray) (w : World) (h : 24 < s.size) (hs : s.size ≤ maxLen) :
    Calls Try.prog 5 #[.string s] w fun e w' => e = .returned (.bool true) ∧ Below w.heap.size w w' := by
  have HL := fun w => hid (of_long s w h hs)
  unfold maxLen at hs
  go_enter Try.func5, Try.ntmps5
  go_wp2_with fail
  refine (fact_any _).mono ?_
  rintro e w1 ⟨rfl, hb1⟩
  go_wp2_with fail
  refine (HL _).out.mono ?_
  rintro e w2 ⟨rfl, rfl⟩
  go_wp2
  go_ret
  exact ⟨rfl, hb1⟩

theorem in_yes (n lo hi : Int) (w : World) (h1 : lo ≤ n) (h2 : n ≤ hi) : Calls Try.prog 10 #[.int .i64 n, .int .i64 lo, .int .i64 hi] w fun e w' => e = .returned (.bool true) ∧ w' = w :=
  (in_any n lo hi w).mono fun _ _ ⟨he, hw⟩ => ⟨by rw [he]; simp [inB, h1, h2], hw⟩

set_option maxHeartbeats 800000 in
theorem grow_any (s : ByteArray) (w : World) (h : s.size ≤ 24) :
    Calls Try.prog 5 #[.string s] w fun e w' => e = .returned (.bool true) ∧ Below w.heap.size w w' := by
  go_enter Try.func5, Try.ntmps5
  go_wp2_with fail
  refine (fact_any _).mono ?_
  rintro e w1 ⟨rfl, hb1⟩
  have hs1 := hb1.size
  go_wp2_with fail
  refine (of_any s _ h).mono ?_
  rintro e w2 ⟨rfl, ho2, hb2⟩
  have hb12 : Below w.heap.size w w2 := hb1.trans (hb2.mono hs1)
  have HC : Hid (∀ j, j < s.size → w2.cell? ⟨w1.heap.size, j, none⟩ = some (.int .i64 (lon (sg s) (j + 1) : Nat))) := hid (by
    intro j hj
    unfold OwnI at ho2
    rw [ofL_len] at ho2
    rw [ho2.cellAt j (by omega)]; simp [ofL, hj])
  clear ho2 hb2 hb1 hs1
  go_wp2
  go_loopw [6] (fun i wr => ∃ k : Nat, k ≤ s.size ∧ i = .int .i64 k ∧ Below w.heap.size w wr ∧ Hid (∀ j, j < s.size → wr.cell? ⟨w1.heap.size, j, none⟩ = some (.int .i64 (lon (sg s) (j + 1) : Nat)))) (fun i _ => s.size - (intOf i).toNat)
  case atStart => exact ⟨0, Nat.zero_le _, rfl, hb12, HC⟩
  case round =>
    obtain ⟨k, hk, rfl, hb, HC⟩ := hrel
    by_cases hlt : k < s.size
    · have hc := HC.out k hlt
      have hl := lon_lt (f := sg s) (m := k + 1) (by omega)
      have hg := lon_grow (sg s) k
      have HS := hid (fun h => lon_sign (f := sg s) (m := k) h)
      by_cases hk0 : k = 0
      · subst hk0
        have hz := lon_one (sg s)
        rw [hz] at hc
        clear hz hl hg HS
        go_wp2
        go_quiet ((go_at_call 10; exact Calls.quiet_of_same (in_yes _ _ _ _ (by omega) (by omega))))
        go_wp2
        go_quiet (fail)
        go_wp2
        go_roundw
        case rel => exact ⟨1, by omega, by go_num, by first | exact below_drewN hb _ | exact below_drewN (below_drewN hb _) _, HC⟩
        case measure => simp [intOf]; omega
      · have hp := HC.out (k - 1) (by omega)
        rw [show k - 1 + 1 = k by omega] at hp
        have hkp : 0 < k := by omega
        generalize lon (sg s) (k + 1) = l at hc hl hg HS
        have hl'k := lon_lt (f := sg s) (m := k) (by omega)
        generalize lon (sg s) k = l' at hp hg hl'k
        clear hk0
        have hgt : decide ((l' : Int) + 1 < (l : Int)) = false := by simp; omega
        by_cases hl0 : l = 0
        · have hd : decide ((0 : Int) < (l : Int)) = false := by simp; omega
          have hlz : decide (0 < l) = false := by simp; omega
          clear hl0 HS
          go_wp2
          go_quiet ((go_at_call 10; exact Calls.quiet_of_same (in_yes _ _ _ _ (by omega) (by omega))))
          go_wp2
          go_quiet (fail)
          go_wp2
          go_roundw
          case rel => exact ⟨k + 1, by omega, by go_num, by first | exact below_drewN hb _ | exact below_drewN (below_drewN hb _) _, HC⟩
          case measure => simp [intOf]; omega
        · have hlp : 0 < l := by omega
          have hi1 : l - 1 < s.size := by omega
          have hbt := byte_ne_false s (l - 1) k hi1 hlt (HS.out hlp)
          clear hl0 HS
          have g1 : (1 : Int) ≤ (l : Int) := by omega
          have g2 : ((l : Int) - 1).toNat = l - 1 := by omega
          have g3 : (l : Int) - 1 < (s.size : Int) := by omega
          have g4 : (0 : Int) ≤ (l : Int) - 1 := by omega
          go_wp2
          go_quiet ((go_at_call 10; exact Calls.quiet_of_same (in_yes _ _ _ _ (by omega) (by omega))))
          go_wp2
          go_quiet (fail)
          go_wp2
          go_roundw
          case rel => exact ⟨k + 1, by omega, by go_num, by first | exact below_drewN hb _ | exact below_drewN (below_drewN hb _) _, HC⟩
          case measure => simp [intOf]; omega
    · go_wp2
      go_ret
      exact ⟨rfl, hb⟩
end Go.Proofs.Ytkkgmkkhflaghaa
