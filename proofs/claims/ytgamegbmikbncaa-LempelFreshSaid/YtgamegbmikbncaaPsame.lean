/-
  Contract of letterbecksame.Pieces: two slices that hold the same pieces are the same; it changes nothing. Conditions: slices of at most 2^40 elements.
-/
import Derived.Test.YtgamegbmikbncaaBase
import Derived.Test.YtgamegbmikbncaaPmem
namespace Go.Proofs.Ytgamegbmikbncaa
open Go.RowKit

set_option maxHeartbeats 1000000 in
theorem pieces_yes (A B : Option Addr) (n c d : Nat) (xs : List (Int × UInt8)) (w : World) (K L : Nat) (hn : n ≤ 1099511627776) (ha : IsPcs w K A n xs) (hb : IsPcs w L B n xs) :
    Calls Try.prog 10 #[.slice A n c, .slice B n d] w fun e w' => e = .returned (.bool true) ∧ ∃ q, w' = w.drewN q := by
  have HA := hid ha
  have HB := hid hb
  clear ha hb
  go_enter Try.func10, Try.ntmps10
  go_wp2
  go_loopw [5] (fun i wr => ∃ k q : Nat, k ≤ n ∧ i = .int .i64 k ∧ wr = w.drewN q) (fun i _ => n - (intOf i).toNat)
  case atStart => exact ⟨0, 0, Nat.zero_le _, rfl, rfl⟩
  case round =>
    obtain ⟨k, q, hk, rfl, rfl⟩ := hrel
    by_cases hlt : k < n
    · obtain ⟨g, off, rfl, _, hca⟩ := HA.out.2 (by omega)
      obtain ⟨g', off', rfl, _, hcb⟩ := HB.out.2 (by omega)
      obtain ⟨hx1, hx2⟩ := hca k hlt
      obtain ⟨hy1, hy2⟩ := hcb k hlt
      clear hca hcb
      generalize xs.getD k (0, 0) = X at hx1 hx2 hy1 hy2
      go_wp2
      go_quiet (fail)
      go_wp2
      go_roundw
      case rel => exact ⟨k + 1, _, by omega, by go_num, rfl⟩
      case measure => simp [intOf]; omega
    · go_wp2
      go_ret
      exact ⟨rfl, _, rfl⟩
theorem pieces_ok (A B : Option Addr) (n c d : Nat) (xs : List (Int × UInt8)) (w : World) (K L : Nat) (hn : n ≤ 1099511627776) (ha : IsPcs w K A n xs) (hb : IsPcs w L B n xs) :
    Calls Try.prog 10 #[.slice A n c, .slice B n d] w fun e w' => e = .returned (.bool true) ∧ Below w.heap.size w w' :=
  (pieces_yes A B n c d xs w K L hn ha hb).mono fun _ _ ⟨he, q, hw⟩ => ⟨he, by rw [hw]; exact below_drewN (Below.refl _ _) q⟩
end Go.Proofs.Ytgamegbmikbncaa
