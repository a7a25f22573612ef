/-
  Contract of suffix.Count: how many different texts but the empty one stand in a text; the old memory stays as it was. Conditions: none but the sizes that a row itself sets.
-/
import Derived.Test.YtdkbgikniacekaaDoorSufA
namespace Go.Proofs.YtdkbgikniacekaaDoor
open Go.RowKit

theorem scount_long (s : ByteArray) (w : World) (h : 24 < s.size) (hs : s.size ≤ maxLen) :
    Calls Tryd.prog 13 #[.string s] w fun e w' => e = .returned (.tuple #[.int .i64 0, .iface 41 (.int .i64 4)]) ∧ Below w.heap.size w w' := by
  have H1 := fun W => hid (salike_long s W h hs)
  unfold maxLen at hs
  go_enter Tryd.func13, Tryd.ntmps13
  go_wp2_with fail
  refine (H1 _).out.mono ?_
  rintro e w1 ⟨rfl, hb1⟩
  clear H1
  go_wp2
  go_ret2
  exact ⟨rfl, hb1⟩

theorem count_end {s : ByteArray} {o : List Nat} (h : Ord (bs s) o) (p : Nat) (hp : p = s.size * (s.size + 1)) : ((p / 2 : Nat) : Int) - (lcsum (bs s) o (s.size - 1) : Int) = (cN (bs s) : Int) := by
  have := cN_order h
  rw [bs_len] at this
  subst hp
  omega
set_option maxHeartbeats 800000 in
theorem scount_any (s : ByteArray) (w : World) (h : s.size ≤ 24) :
    Calls Tryd.prog 13 #[.string s] w fun e w' => e = .returned (.tuple #[.int .i64 (cN (bs s) : Nat), .nilIface]) ∧ Below w.heap.size w w' := by
  have H1 := fun W => hid (salike_any s W h)
  obtain ⟨p, hp⟩ : ∃ p, p = s.size * (s.size + 1) := ⟨_, rfl⟩
  have hmul : (s.size : Int) * ((s.size : Int) + 1) = (p : Int) := by rw [hp]; push_cast; rfl
  have hpl : p ≤ 600 := by
    rw [hp]
    exact Nat.le_trans (Nat.mul_le_mul h (Nat.succ_le_succ h)) (by decide)
  have hdiv : (p : Int) / 2 = ((p / 2 : Nat) : Int) := by omega
  have HP := hid hp
  clear hp
  go_enter Tryd.func13, Tryd.ntmps13
  go_wp2_with fail
  refine (H1 _).out.mono ?_
  rintro e w1 ⟨v, o, rfl, hO, hown, hb1⟩
  have HE := hid (count_end hO p HP.out)
  have hln := nbTo_len (bs s) o (s.size - 1)
  obtain ⟨A, c, rfl, hI⟩ := own_n hown hln
  have hm : s.size - 1 ≤ 24 := by omega
  have HA := hid (fun k (hk : k < s.size - 1) => nbTo_at (bs s) o hk)
  have HL : Hid (∀ k, lcsum (bs s) o k ≤ k * 24) := hid fun k => Nat.le_trans lcsum_le (Nat.mul_le_mul_left _ (by rw [bs_len]; exact h))
  have HC : Hid (∀ k, lcp (bs s) o k ≤ 24) := hid fun k => by have := lcp_le (bs s) o k; rw [bs_len] at this; omega
  have HI := hid hI
  clear H1 hown hln hI hO HP
  generalize s.size - 1 = m at HE HA HI hm
  have hT : p / 2 ≤ 300 := by omega
  generalize p / 2 = T at HE hdiv hT
  go_wp2_with fail
  go_loopw [6, 26] (fun a i wr => ∃ j : Nat, j ≤ m ∧ i = .int .i64 j ∧ a = .int .i64 ((T : Int) - (lcsum (bs s) o j : Int)) ∧ wr = w1) (fun _ i _ => m - (intOf i).toNat)
  case atStart => exact ⟨0, by omega, rfl, by simp [lcsum], rfl⟩
  case round =>
    obtain ⟨j, hj, rfl, rfl, hwr⟩ := hrel
    subst wr
    have hlj := HL.out j
    by_cases hlt : j < m
    · obtain ⟨g, off, rfl, hg, hcell⟩ := HI.out.2 (by omega)
      have hx := hcell j hlt
      rw [HA.out j hlt] at hx
      have hcl := HC.out j
      have hls : (lcsum (bs s) o (j + 1) : Int) = (lcsum (bs s) o j : Int) + (lcp (bs s) o j : Int) := by rw [lcsum]; push_cast; rfl
      have HS := hid hls
      have hjm : lcsum (bs s) o j ≤ 600 := by omega
      generalize lcsum (bs s) o j = a at hjm HS
      generalize lcp (bs s) o j = b at hx hcl HS
      clear hcell hls hlj HE HA HL HC
      go_wp2
      go_roundw
      case rel => exact ⟨j + 1, by omega, by go_num, by rw [HS.out]; go_num, by first | rfl | trivial⟩
      case measure => simp [intOf]; omega
    · obtain rfl : j = m := by omega
      rw [HE.out]
      clear HE HA HI HL HC hlj
      go_wp2
      go_ret2
      exact ⟨rfl, hb1⟩
end Go.Proofs.YtdkbgikniacekaaDoor
