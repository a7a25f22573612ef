/-
  Contracts of letterbeckref2.Lengths, Power and Room. Conditions: a power of two up to twelve; lengths up to twelve, at most ten of them.
-/
import Derived.Test.YtjllgehhdhcobaaAllr
namespace Go.Proofs.Ytjllgehhdhcobaa
open Go.RowKit

/-- What is wrong with lengths, 0 if nothing is. -/
def LenC (l : List Int) (k : Int) : Prop := (10 < l.length ∧ k = 4) ∨ (l.length ≤ 10 ∧ ¬ InL 1 12 l ∧ k = 1) ∨ (l.length ≤ 10 ∧ InL 1 12 l ∧ k = 0)
theorem rlengths_any (A : Option Addr) (n c : Nat) (l : List Int) (w : World) (hl : IsInts w w.heap.size A n l) :
    Calls Try.prog 8 #[.slice A n c] w fun e w' => (∃ k, LenC l k ∧ e = .returned (.int .i64 k)) ∧ w' = w := by
  have hls := hl.1
  by_cases h10 : n ≤ 10
  · have HA := fun lo hi => hid (rallin_any A n c l lo hi w (by omega) hl)
    have n2 : ¬ (10 < (n : Int)) := by omega
    have HL := hid hls
    clear hl hls
    go_enter Try.func8, Try.ntmps8
    go_wp2_with fail
    refine (HA _ _).out.mono ?_
    rintro e w5 ⟨h, hw5⟩
    subst w5
    rcases h with ⟨h, rfl⟩ | ⟨h, rfl⟩
    · have HK : Hid (LenC l 0) := hid (.inr (.inr ⟨by rw [HL.out]; exact h10, h, rfl⟩))
      clear h
      go_wp2_with fail
      go_ret
      exact ⟨⟨0, HK.out, rfl⟩, rfl⟩
    · have HK : Hid (LenC l 1) := hid (.inr (.inl ⟨by rw [HL.out]; exact h10, h, rfl⟩))
      clear h
      go_wp2_with fail
      go_ret
      exact ⟨⟨1, HK.out, rfl⟩, rfl⟩
  · have HK : Hid (LenC l 4) := hid (.inl ⟨by omega, rfl⟩)
    have n2 : 10 < (n : Int) := by omega
    clear hl hls
    go_enter Try.func8, Try.ntmps8
    go_wp2_with fail
    go_ret
    exact ⟨⟨4, HK.out, rfl⟩, rfl⟩

theorem pow_le {i n : Nat} (h : i ≤ n) : 2 ^ i ≤ 2 ^ n := Nat.pow_le_pow_right (by decide) h
theorem rpower_any (n : Nat) (w : World) (h : n ≤ 12) :
    Calls Try.prog 14 #[.int .i64 (n : Int)] w fun e w' => e = .returned (.int .i64 ((2 ^ n : Nat) : Int)) ∧ w' = w := by
  obtain ⟨F, hF⟩ : ∃ F : Nat → Nat, F = fun i => 2 ^ i := ⟨_, rfl⟩
  have e : 2 ^ n = F n := by rw [hF]
  rw [e]
  have HB : Hid (∀ i, i ≤ n → F i ≤ 4096) := hid (fun i hi => by rw [hF]; exact pow_le (n := 12) (by omega))
  have HS : Hid (∀ i, F (i + 1) = 2 * F i) := hid (fun i => by rw [hF]; show 2 ^ (i + 1) = 2 * 2 ^ i; rw [Nat.pow_succ, Nat.mul_comm])
  have H0 : Hid (F 0 = 1) := hid (by rw [hF])
  clear hF e
  go_enter Try.func14, Try.ntmps14
  go_wp2_with fail
  go_loopw [3, 4] (fun v x wr => ∃ i : Nat, i ≤ n ∧ x = .int .i64 i ∧ v = .int .i64 (F i : Nat) ∧ wr = w) (fun _ x _ => n - (intOf x).toNat)
  case atStart => exact ⟨0, by omega, rfl, by rw [H0.out]; rfl, rfl⟩
  case round =>
    obtain ⟨i, hin, rfl, rfl, hwr⟩ := hrel
    subst wr
    by_cases hlt : i < n
    · have b1 := HB.out i hin
      have HE := hid (HS.out i)
      generalize F i = P at b1 HE
      go_wp2_with fail
      go_roundw
      case rel => exact ⟨i + 1, by omega, by go_num, by rw [HE.out]; push_cast; rfl, by first | rfl | trivial⟩
      case measure => simp [intOf]; omega
    · obtain rfl : i = n := by omega
      go_wp2_with fail
      go_ret
      exact ⟨rfl, by first | rfl | trivial⟩

theorem rm_succ (E : List Nat) {i : Nat} (hi : i < E.length) : rm 12 (E.take (i + 1)) = rm 12 (E.take i) + 2 ^ (12 - E.getD i 0) := by
  rw [List.take_succ_eq_append_getElem hi, rm_app]
  simp [rm, hi]
theorem rm_le (E : List Nat) : rm 12 E ≤ 4096 * E.length := by
  induction E with
  | nil => simp [rm]
  | cons d E ih =>
    have : 2 ^ (12 - d) ≤ 4096 := pow_le (n := 12) (by omega)
    simp only [rm, List.length_cons]
    omega
set_option maxHeartbeats 1000000 in
theorem rroom_any (A : Option Addr) (n c : Nat) (E : List Nat) (w : World) (h : n ≤ 10) (hE : ∀ i, i < n → E.getD i 0 ≤ 12) (hl : IsInts w w.heap.size A n (nums E)) :
    Calls Try.prog 9 #[.slice A n c] w fun e w' => e = .returned (.int .i64 ((rm 12 E : Nat) : Int)) ∧ w' = w := by
  have hls : E.length = n := by rw [← nums_len]; exact hl.1
  have HI := hid hl
  have HL := hid hls
  have HE := hid hE
  clear hl hls hE
  go_enter Try.func9, Try.ntmps9
  go_wp2_with fail
  go_loopw [3, 4] (fun v x wr => ∃ i : Nat, i ≤ n ∧ x = .int .i64 i ∧ v = .int .i64 (rm 12 (E.take i) : Nat) ∧ wr = w) (fun _ x _ => n - (intOf x).toNat)
  case atStart => exact ⟨0, by omega, rfl, rfl, rfl⟩
  case round =>
    obtain ⟨i, hin, rfl, rfl, hwr⟩ := hrel
    subst wr
    by_cases hlt : i < n
    · obtain ⟨g, off, rfl, hg, hc⟩ := HI.out.2 (by omega)
      have c1 := hc i hlt
      rw [nums_at] at c1
      have hS := hid (rm_succ E (i := i) (by rw [HL.out]; exact hlt))
      have b1 : rm 12 (E.take i) ≤ 40960 := Nat.le_trans (rm_le _) (by rw [List.length_take]; omega)
      have h12 := HE.out i hlt
      have HP := fun W => hid (rpower_any (12 - E.getD i 0) W (by omega))
      have b2 : 2 ^ (12 - E.getD i 0) ≤ 4096 := pow_le (n := 12) (by omega)
      generalize rm 12 (E.take i) = R at hS b1
      generalize E.getD i 0 = K at c1 hS h12 HP b2
      have e1 : (12 : Int) - (K : Int) = ((12 - K : Nat) : Int) := by omega
      generalize 2 ^ (12 - K) = Y at hS HP b2
      clear hc
      go_wp2_with fail
      refine (HP _).out.mono ?_
      rintro e w5 ⟨rfl, hw5⟩
      subst w5
      go_wp2_with fail
      go_roundw
      case rel => exact ⟨i + 1, by omega, by go_num, by rw [hS.out]; push_cast; rfl, by first | rfl | trivial⟩
      case measure => simp [intOf]; omega
    · obtain rfl : i = n := by omega
      have HR : Hid (E.take i = E) := hid (List.take_of_length_le (by rw [HL.out]; exact Nat.le_refl _))
      rw [HR.out]
      go_wp2_with fail
      go_ret
      exact ⟨rfl, by first | rfl | trivial⟩
end Go.Proofs.Ytjllgehhdhcobaa
