/-
  Contract of slices.BinarySearch at texts: of a row that does not fall, how many are less than the one that is sought; the world is as it was but for draws. No condition but that the row is there.
-/
import Derived.Test.YtceipfmdgpnagaaWsp
import Derived.Test.YtceipfmdgpnagaaMem
import Derived.Test.YtceipfmdgpnagaaProg
import Derived.Sort.EncStr
import Derived.Deep.LoopGhost
import Derived.Deep.Draws
import Derived.Sort.Walk0
namespace Go.Proofs.Ytceipfmdgpnagaa
open Go.RowKit Go.Proofs Go.Sort

theorem cnan_any (s : ByteArray) (w : World) : Calls Try.prog 40 #[.string s] w fun e w' => e = .returned (.bool false) ∧ w' = w := by
  go_enter Try.func40, Try.ntmps40
  go_wp2
  go_ret
  exact ⟨by simp, rfl⟩
theorem snan_any (s : ByteArray) (w : World) : Calls Try.prog 31 #[.string s] w fun e w' => e = .returned (.bool false) ∧ w' = w := by
  go_enter Try.func31, Try.ntmps31
  go_wp2
  go_ret
  exact ⟨by simp, rfl⟩
theorem cless_any (a b : ByteArray) (w : World) : Calls Try.prog 30 #[.string a, .string b] w fun e w' => e = .returned (.bool (decide (bs a < bs b))) ∧ w' = w := by
  have H := fun s w => hid (cnan_any s w)
  have HL : Hid (Op.bytesLess a.toList b.toList = decide (bs a < bs b)) := hid (by rw [bytesLess_eq, Lib.toList_data, Lib.toList_data]; rfl)
  go_enter Try.func30, Try.ntmps30
  go_wp2_with fail
  refine (H _ _).out.mono ?_
  rintro e w' ⟨rfl, hw'⟩
  subst w'
  go_wp2_with fail
  go_ret
  exact ⟨by rw [HL.out]; rfl, rfl⟩

/-- Where the halving ends: what is less is counted. -/
theorem count_end {x : List UInt8} {L : List (List UInt8)} (hA : Asc L) {k : Nat} (hk : k ≤ L.length) (h1 : ∀ t, t < k → L.getD t [] < x) (h2 : ∀ t, k ≤ t → t < L.length → ¬ L.getD t [] < x) : L.countP (fun r => decide (r < x)) = k := by
  obtain ⟨c1, c2⟩ := count_first (x := x) hA
  have hc : L.countP (fun r => decide (r < x)) ≤ L.length := List.countP_le_length
  rcases Nat.lt_trichotomy (L.countP fun r => decide (r < x)) k with h | h | h
  · exact absurd (h1 _ h) (c2 _ (Nat.le_refl _) (by omega))
  · exact h
  · exact absurd (c1 k h) (h2 k (Nat.le_refl _) (by omega))
theorem asc_less {x : List UInt8} {L : List (List UInt8)} (hA : Asc L) {t h : Nat} (ht : t ≤ h) (hh : h < L.length) (hl : L.getD h [] < x) : L.getD t [] < x := by
  rcases List.le_iff_lt_or_eq.1 (asc_at hA ht hh) with h1 | h1
  · exact List.lt_trans h1 hl
  · rw [h1]; exact hl

set_option maxHeartbeats 4000000 in
set_option maxRecDepth 100000 in
theorem wbin_any (L : List (List UInt8)) (hA : Asc L) (A : Option Addr) (n c : Nat) (hn : n ≤ 1000) (hl : L.length = n) (x : ByteArray) (w : World) (hc : 0 < n → ∃ b off, A = some ⟨b, off, none⟩ ∧ ∀ j, j < n → w.cell? ⟨b, off + j, none⟩ = some (encStr (L.getD j []))) :
    Calls Try.prog 20 #[.slice A n c, .string x] w fun e w' => (∃ v, e = .returned (.tuple #[.int .i64 (L.countP (fun r => decide (r < bs x)) : Nat), v])) ∧ w' = w := by
  have HA := hid hA
  have HL := hid hl
  have HC := hid hc
  clear hA hl hc
  have H1 := fun a w => hid (cless_any a x w)
  have H2 := fun a w => hid (snan_any a w)
  go_enter Try.func20, Try.ntmps20
  go_wp2_with fail
  go_loopw [7, 8] (fun s7 s8 wr => ∃ lo hi : Nat, s7 = .int .i64 lo ∧ s8 = .int .i64 hi ∧ lo ≤ hi ∧ hi ≤ n ∧ wr = w ∧ Hid ((∀ t, t < lo → L.getD t [] < bs x) ∧ (∀ t, hi ≤ t → t < n → ¬ L.getD t [] < bs x))) (fun s7 s8 _ => (intOf s8).toNat - (intOf s7).toNat)
  case atStart => exact ⟨0, n, rfl, rfl, Nat.zero_le _, Nat.le_refl _, rfl, hid ⟨fun t ht => absurd ht (Nat.not_lt_zero _), fun t h1 h2 => by omega⟩⟩
  case round =>
    obtain ⟨lo, hi, rfl, rfl, hlh, hin, rfl, I⟩ := hrel
    by_cases hlt : lo < hi
    · obtain ⟨b, off, rfl, hcell⟩ := HC.out (by omega)
      have cm := hcell ((lo + hi) / 2) (by omega)
      have HY : Hid (∃ y, y = L.getD ((lo + hi) / 2) []) := hid ⟨_, rfl⟩
      obtain ⟨y, hy⟩ := HY.out
      rw [← hy] at cm
      have HE : Hid (y = L.getD ((lo + hi) / 2) []) := hid hy
      have HX := fun w => H1 (txt y) w
      rw [bs_txt] at HX
      change wr.cell? _ = some (.string (txt y)) at cm
      have hsm : (txt y).size = (txt y).size := rfl
      generalize txt y = Y at cm HX
      clear hcell hy HY H1
      by_cases hyx : y < bs x
      · rw [decide_eq_true hyx] at HX
        have I2 : Hid ((∀ t, t < (lo + hi) / 2 + 1 → L.getD t [] < bs x) ∧ (∀ t, hi ≤ t → t < n → ¬ L.getD t [] < bs x)) := hid ⟨fun t ht => asc_less HA.out (h := (lo + hi) / 2) (by omega) (by rw [HL.out]; omega) (by rw [← HE.out]; exact hyx), I.out.2⟩
        clear I hyx
        go_wp2_with fail
        refine (HX _).out.mono ?_
        rintro e w' ⟨rfl, hw'⟩
        subst w'
        go_wp2_with fail
        go_roundw
        case rel => exact ⟨(lo + hi) / 2 + 1, hi, by rw [show ((lo : Int) + (hi : Int)) / 2 + 1 = (((lo + hi) / 2 + 1 : Nat) : Int) by omega], rfl, by omega, hin, by first | rfl | trivial, I2⟩
        case measure => simp [intOf]; omega
      · rw [decide_eq_false hyx] at HX
        have I2 : Hid ((∀ t, t < lo → L.getD t [] < bs x) ∧ (∀ t, (lo + hi) / 2 ≤ t → t < n → ¬ L.getD t [] < bs x)) := hid ⟨I.out.1, fun t ht htn h => hyx (by rw [HE.out]; exact asc_less HA.out ht (by rw [HL.out]; exact htn) h)⟩
        clear I hyx
        go_wp2_with fail
        refine (HX _).out.mono ?_
        rintro e w' ⟨rfl, hw'⟩
        subst w'
        go_wp2_with fail
        go_roundw
        case rel => exact ⟨lo, (lo + hi) / 2, rfl, by rw [show ((lo : Int) + (hi : Int)) / 2 = (((lo + hi) / 2 : Nat) : Int) by omega], by omega, by omega, by first | rfl | trivial, I2⟩
        case measure => simp [intOf]; omega
    · obtain rfl : hi = lo := by omega
      have HF : Hid (L.countP (fun r => decide (r < bs x)) = hi) := hid (count_end HA.out (by rw [HL.out]; exact hin) I.out.1 (by rw [HL.out]; exact I.out.2))
      clear I
      by_cases hnn : hi < n
      · obtain ⟨b, off, rfl, hcell⟩ := HC.out (by omega)
        have cm := hcell hi (by omega)
        change wr.cell? _ = some (.string (txt (L.getD hi []))) at cm
        generalize txt (L.getD hi []) = Y at cm
        clear hcell H1
        by_cases hyx : Y = x
        · have hq := same_yes hyx
          clear hyx
          go_wp2_with fail
          go_ret2
          exact ⟨⟨_, by rw [HF.out]; rfl⟩, rfl⟩
        · have hq := same_no hyx
          clear hyx
          go_wp2_with fail
          refine (H2 _ _).out.mono ?_
          rintro e w' ⟨rfl, hw'⟩
          subst w'
          go_wp2_with fail
          go_ret2
          exact ⟨⟨_, by rw [HF.out]; rfl⟩, rfl⟩
      · have hnn' : ¬ (hi : Int) < (n : Int) := by omega
        clear H1
        go_wp2_with fail
        go_ret2
        exact ⟨⟨_, by rw [HF.out]; rfl⟩, rfl⟩
end Go.Proofs.Ytceipfmdgpnagaa
