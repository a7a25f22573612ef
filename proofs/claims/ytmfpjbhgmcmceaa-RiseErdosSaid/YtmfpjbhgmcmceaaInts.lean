/-
  Contract of letterbecksame.Ints: it answers whether two lists are the same, and changes nothing. Conditions: slices of at most 2^40 elements.
-/
import Derived.Test.YtmfpjbhgmcmceaaProg
import Derived.Test.YtmfpjbhgmcmceaaMem
namespace Go.Proofs.Ytmfpjbhgmcmceaa
open Go.RowKit

set_option maxHeartbeats 400000 in
theorem ints_any (A B : Option Addr) (n m c d : Nat) (xs ys : List Int) (w : World) (K L : Nat) (hn : n ≤ 1099511627776) (hm : m ≤ 1099511627776) (ha : IsInts w K A n xs) (hb : IsInts w L B m ys) :
    Calls Try.prog 14 #[.slice A n c, .slice B m d] w fun e w' => e = .returned (.bool (sameInts xs ys)) ∧ ∃ q, w' = w.drewN q := by
  by_cases hnm : n = m
  · subst hnm
    have HA := hid ha
    have HB := hid hb
    clear ha hb
    go_enter Try.func14, Try.ntmps14
    go_wp2
    go_loopw [5] (fun i wr => ∃ k q : Nat, k ≤ n ∧ i = .int .i64 k ∧ Hid (xs.take k = ys.take k) ∧ wr = w.drewN q) (fun i _ => n - (intOf i).toNat)
    case atStart => exact ⟨0, 0, Nat.zero_le _, rfl, hid (by simp), rfl⟩
    case round =>
      obtain ⟨k, q, hk, rfl, HT, rfl⟩ := hrel
      by_cases hlt : k < n
      · obtain ⟨g, off, rfl, _, hca⟩ := HA.out.2 (by omega)
        obtain ⟨g', off', rfl, _, hcb⟩ := HB.out.2 (by omega)
        have hx := hca k hlt
        have hy := hcb k hlt
        clear hca hcb
        have hlx : k < xs.length := by have := HA.out.1; omega
        have hly : k < ys.length := by have := HB.out.1; omega
        generalize hex : xs.getD k 0 = X at hx
        generalize hey : ys.getD k 0 = Y at hy
        by_cases he : X = Y
        · have HS := hid (take_eq_succ hlx hly HT.out (by rw [hex, hey, he]))
          subst he
          clear hex hey HT hlx hly
          go_wp2
          go_quiet (fail)
          go_wp2
          go_roundw
          case rel => exact ⟨k + 1, _, by omega, by go_num, HS, rfl⟩
          case measure => simp [intOf]; omega
        · have HS := hid (ne_of_getD (xs := xs) (ys := ys) (k := k) (by rw [hex, hey]; exact he))
          have hne : (X != Y) = true := by simpa using he
          clear hex hey HT hlx hly he
          go_wp2
          go_quiet (fail)
          go_wp2
          go_ret
          exact ⟨ret_bool HS.out.symm, by first | exact ⟨_, rfl⟩ | exact ⟨_, World.drewN_drewN _ _ _⟩⟩
      · have HS := hid (same_of_take (k := k) (by have := HA.out.1; omega) (by have := HB.out.1; omega) HT.out)
        clear HT
        go_wp2
        go_ret
        exact ⟨ret_bool HS.out.symm, _, rfl⟩
  · have HS := hid (ne_of_len (xs := xs) (ys := ys) (by rw [ha.1, hb.1]; exact hnm))
    have hne : ((n : Int) != (m : Int)) = true := by simp; omega
    clear ha hb
    go_enter Try.func14, Try.ntmps14
    go_wp2
    go_ret
    exact ⟨ret_bool HS.out.symm, 0, rfl⟩

theorem ints_yes (A B : Option Addr) (n m c d : Nat) (xs : List Int) (w : World) (K L : Nat) (hn : n ≤ 1099511627776) (hm : m ≤ 1099511627776) (ha : IsInts w K A n xs) (hb : IsInts w L B m xs) :
    Calls Try.prog 14 #[.slice A n c, .slice B m d] w fun e w' => e = .returned (.bool true) ∧ ∃ q, w' = w.drewN q :=
  (ints_any A B n m c d xs xs w K L hn hm ha hb).mono fun _ _ ⟨he, hw⟩ => ⟨by rw [he, sameInts_true rfl], hw⟩
/-- The same, of the world behind it only that nothing has turned. -/
theorem ints_ok (A B : Option Addr) (n m c d : Nat) (xs : List Int) (w : World) (K L : Nat) (hn : n ≤ 1099511627776) (hm : m ≤ 1099511627776) (ha : IsInts w K A n xs) (hb : IsInts w L B m xs) :
    Calls Try.prog 14 #[.slice A n c, .slice B m d] w fun e w' => e = .returned (.bool true) ∧ Below w.heap.size w w' :=
  (ints_yes A B n m c d xs w K L hn hm ha hb).mono fun _ _ ⟨he, q, hw⟩ => ⟨he, by rw [hw]; exact below_drewN (Below.refl _ _) q⟩
end Go.Proofs.Ytmfpjbhgmcmceaa
