/-
  Contract of letterbecksame.Turned: it answers a list from its end, in new memory, and leaves the old one alone. Conditions: a slice of at most 2^40 elements.
-/
import Derived.Test.YtjllgehhdhcobaaBase
namespace Go.Proofs.Ytjllgehhdhcobaa
open Go.RowKit

theorem drop_turn (xs : List Int) (k : Nat) (h : k < xs.length) : (xs.drop k).reverse = (xs.drop (k + 1)).reverse ++ [xs.getD k 0] := by
  rw [List.drop_eq_getElem_cons h, List.reverse_cons]
  simp [List.getD_eq_getElem?_getD, h]
set_option maxHeartbeats 400000 in
theorem turned_ints (A : Option Addr) (n c : Nat) (xs : List Int) (w : World) (hn : n ≤ 1099511627776) (hI : IsInts w w.heap.size A n xs) :
    Calls Try.prog 12 #[.slice A n c] w fun e w' => ∃ v, e = .returned v ∧ OwnI w' w.heap.size 3 v xs.reverse ∧ Below w.heap.size w w' := by
  obtain ⟨i0, hi, hz0, hz1, hz2⟩ := info_parts int_info
  have HI := hid hI
  have hlx : xs.length = n := hI.1
  have HX := hid hlx
  clear hI hlx
  go_enter Try.func12, Try.ntmps12
  go_wp2
  go_loopw [3, 4] (fun v t wr => ∃ k : Nat, k ≤ n ∧ t = .int .i64 ((k : Int) - 1) ∧ OwnI wr w.heap.size 3 v (xs.drop k).reverse ∧ Below w.heap.size w wr) (fun _ t _ => (intOf t + 1).toNat)
  case atStart => exact ⟨n, Nat.le_refl _, by first | rfl | go_num, by rw [List.drop_of_length_le (by rw [HX.out]; exact Nat.le_refl _)]; exact OwnI.nil _ _ _, Below.refl _ _⟩
  case round =>
    obtain ⟨k, hk, rfl, hown, hb⟩ := hrel
    have hsz := hb.size
    by_cases h0 : 0 < k
    · obtain ⟨g, off, rfl, _, hca⟩ := (HI.out.below hb).2 (by omega)
      have hx := hca (k - 1) (by omega)
      have hlen : (xs.drop k).reverse.length ≤ 1099511627776 := by rw [List.length_reverse, List.length_drop, HX.out]; omega
      have HE : Hid ((xs.drop (k - 1)).reverse = (xs.drop k).reverse ++ [xs.getD (k - 1) 0]) := hid (by
        have := drop_turn xs (k - 1) (by rw [HX.out]; omega)
        rwa [show k - 1 + 1 = k by omega] at this)
      have g1 : ((k : Int) - 1).toNat = k - 1 := by omega
      have g2 : (0 : Int) ≤ (k : Int) - 1 := by omega
      have g3 : (k : Int) - 1 < (n : Int) := by omega
      have g4 : ((k : Int) - 1) - 1 = ((k - 1 : Nat) : Int) - 1 := by omega
      generalize (xs.drop k).reverse = cs at hown hlen HE
      generalize xs.getD (k - 1) 0 = X at hx HE
      clear hca
      go_wp2_with (at_builtin; refine wpList_append_int _ rfl (.tmp 12) (.tmp 17) 22 rfl w.heap.size 3 i0 Try.underlying22 hi hz0 hz1 hz2 _ cs rfl hown X rfl (by omega) (by omega) ?_)
      intro v' w2 hown2 hb2
      clear hx hown
      go_wp2
      go_roundw
      case rel => exact ⟨k - 1, by omega, by first | (rw [← g4]; go_num) | go_num, by rw [HE.out]; exact hown2, hb.trans hb2⟩
      case measure => simp [intOf]; omega
    · have he : k = 0 := by omega
      rw [he, List.drop_zero] at hown
      have h1 : ((k : Int) - 1) < 0 := by omega
      clear he
      go_wp2
      go_ret
      exact ⟨_, rfl, hown, hb⟩
end Go.Proofs.Ytjllgehhdhcobaa
