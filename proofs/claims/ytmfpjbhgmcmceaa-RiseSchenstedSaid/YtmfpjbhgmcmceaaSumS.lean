/-
  Contract of letterbecksame.Sum: the sum of small numbers. Conditions: at most a thousand numbers, each from 0 to a thousand.
-/
import Derived.Test.YtmfpjbhgmcmceaaBase
namespace Go.Proofs.Ytmfpjbhgmcmceaa
open Go.RowKit

theorem sum_take {xs : List Int} {i : Nat} (h : i < xs.length) : (xs.take (i + 1)).sum = (xs.take i).sum + xs.getD i 0 := by
  rw [List.take_succ_eq_append_getElem h, List.sum_append]
  simp [h]
theorem sum_small : ∀ (xs : List Int), (∀ x ∈ xs, 0 ≤ x ∧ x ≤ 1000) → 0 ≤ xs.sum ∧ xs.sum ≤ 1000 * (xs.length : Int)
  | [], _ => by simp
  | x :: xs, h => by
    obtain ⟨h1, h2⟩ := sum_small xs fun y hy => h y (List.mem_cons_of_mem _ hy)
    obtain ⟨h3, h4⟩ := h x (List.mem_cons_self ..)
    rw [List.sum_cons, List.length_cons]
    push_cast
    omega
set_option maxHeartbeats 1000000 in
theorem sumS_any (A : Option Addr) (n c B : Nat) (xs : List Int) (w : World) (hn : n ≤ 1000) (hl : IsInts w B A n xs) (hs : ∀ x ∈ xs, 0 ≤ x ∧ x ≤ 1000) :
    Calls Try.prog 13 #[.slice A n c] w fun e w' => e = .returned (.int .i64 xs.sum) ∧ w' = w := by
  have HI := hid hl
  have hls := hid hl.1
  have HB : Hid (∀ i, i ≤ n → 0 ≤ (xs.take i).sum ∧ (xs.take i).sum ≤ 1000 * (i : Int)) := hid (fun i hi => by
    have := sum_small (xs.take i) fun x hx => hs x (List.mem_of_mem_take hx)
    rw [List.length_take, Nat.min_eq_left (by rw [hls.out]; exact hi)] at this
    exact this)
  have HX : Hid (∀ i, i < n → 0 ≤ xs.getD i 0 ∧ xs.getD i 0 ≤ 1000) := hid (fun i hi => by
    rw [List.getD_eq_getElem?_getD, List.getElem?_eq_getElem (by rw [hls.out]; exact hi)]
    exact hs _ (List.getElem_mem _))
  clear hl hs
  go_enter Try.func13, Try.ntmps13
  go_wp2_with fail
  go_loopw [3, 4] (fun v x wr => ∃ i : Nat, i ≤ n ∧ x = .int .i64 i ∧ v = .int .i64 (xs.take i).sum ∧ wr = w) (fun _ x _ => n - (intOf x).toNat)
  case atStart => exact ⟨0, by omega, rfl, rfl, rfl⟩
  case round =>
    obtain ⟨i, hin, rfl, rfl, hwr⟩ := hrel
    subst hwr
    by_cases hlt : i < n
    · obtain ⟨g, off, rfl, hg, hc⟩ := HI.out.2 (by omega)
      have c1 := hc i hlt
      have hS := hid (sum_take (xs := xs) (i := i) (by rw [hls.out]; exact hlt))
      have b1 := HB.out i hin
      have b2 := HX.out i hlt
      generalize (xs.take i).sum = Y at hS b1 ⊢
      generalize xs.getD i 0 = X at c1 hS b2
      have s2 : IntKind.i64.wrap (Y + X) = Y + X := IntWalk.i64_in _ (by omega)
      clear hc
      go_wp2_with fail
      go_roundw
      case rel => exact ⟨i + 1, by omega, by go_num, by rw [hS.out], by first | rfl | trivial⟩
      case measure => simp [intOf]; omega
    · obtain rfl : i = n := by omega
      rw [List.take_of_length_le (by rw [hls.out]; exact Nat.le_refl _)]
      go_wp2_with fail
      go_ret
      exact ⟨rfl, rfl⟩
end Go.Proofs.Ytmfpjbhgmcmceaa
