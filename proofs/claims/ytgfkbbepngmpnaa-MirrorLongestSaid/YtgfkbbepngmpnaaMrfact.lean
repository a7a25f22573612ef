/-
  The closed fact of the palindromes' laws: mirrorFact returns true. No condition.
-/
import Derived.Test.YtgfkbbepngmpnaaMirO
import Derived.Test.YtgfkbbepngmpnaaInts
namespace Go.Proofs.Ytgfkbbepngmpnaa
open Go.RowKit

theorem odd_fact (w : World) : Calls Try.prog 8 #[.string ⟨#[97, 98, 97]⟩] w fun e w' => ∃ v, e = .returned (.tuple #[v, .nilIface]) ∧ OwnI w' w.heap.size 3 v [1, 2, 1] ∧ Below w.heap.size w w' := by
  have h := odd_any ⟨#[97, 98, 97]⟩ w (by decide)
  have e : oddL (sg ⟨#[97, 98, 97]⟩) (ByteArray.size ⟨#[97, 98, 97]⟩) (ByteArray.size ⟨#[97, 98, 97]⟩) = [1, 2, 1] := by decide +kernel
  rw [e] at h
  exact h
theorem even_fact (w : World) : Calls Try.prog 10 #[.string ⟨#[97, 98, 98, 97]⟩] w fun e w' => ∃ v, e = .returned (.tuple #[v, .nilIface]) ∧ OwnI w' w.heap.size 3 v [0, 0, 2, 0] ∧ Below w.heap.size w w' := by
  have h := even_any ⟨#[97, 98, 98, 97]⟩ w (by decide)
  have e : evenL (sg ⟨#[97, 98, 98, 97]⟩) (ByteArray.size ⟨#[97, 98, 98, 97]⟩) (ByteArray.size ⟨#[97, 98, 98, 97]⟩) = [0, 0, 2, 0] := by decide +kernel
  rw [e] at h
  exact h
theorem mid_fact : ∀ d, d < 13 → widT (sg ⟨#[120, 97, 98, 98, 97, 121]⟩) 6 d ≤ 4 ∧ (0 < 4 → widT (sg ⟨#[120, 97, 98, 98, 97, 121]⟩) 6 d = 4 → 2 * 1 + 4 ≤ d) := by decide +kernel
theorem lgst_fact : Lgst (sg ⟨#[120, 97, 98, 98, 97, 121]⟩) 6 1 4 := by
  have hw : wid (sg ⟨#[120, 97, 98, 98, 97, 121]⟩) 6 6 = 4 := by decide +kernel
  have hp := (wid_pal (sg ⟨#[120, 97, 98, 98, 97, 121]⟩) (n := 6) (c := 6) (by omega)).2.2.2
  rw [hw] at hp
  exact mid_end (c := 13) ⟨by omega, hp, by omega, by omega, mid_fact⟩ (by omega)
theorem longest_fact (w : World) : Calls Try.prog 13 #[.string ⟨#[120, 97, 98, 98, 97, 121]⟩] w fun e w' => e = .returned (.tuple #[.int .i64 1, .int .i64 4, .nilIface]) ∧ Below w.heap.size w w' :=
  (longest_any ⟨#[120, 97, 98, 98, 97, 121]⟩ w (by decide)).mono fun e w' ⟨a, m, he, hl, hb⟩ => by
    obtain ⟨rfl, rfl⟩ := lgst_one hl lgst_fact
    exact ⟨he, hb⟩

set_option maxHeartbeats 1000000 in
theorem mrfact_any (w : World) : Calls Try.prog 7 #[] w fun e w' => e = .returned (.bool true) ∧ Below w.heap.size w w' := by
  go_enter Try.func7, Try.ntmps7
  go_wp2_with fail
  refine (odd_fact w).mono ?_
  rintro e w1 ⟨v1, rfl, ho1, hb1⟩
  obtain ⟨A1, c1, rfl, _, hI1⟩ := IsInts.of_own ho1
  clear ho1
  have HI1 := hid hI1
  clear hI1
  go_wp2_with fail
  refine (even_fact w1).mono ?_
  rintro e w2 ⟨v2, rfl, ho2, hb2⟩
  obtain ⟨A2, c2, rfl, _, hI2⟩ := IsInts.of_own ho2
  clear ho2
  have HI2 := hid hI2
  have HJ1 := hid ((HI1.out.below hb2).keep hb2.size fun _ _ _ => rfl)
  have hb12 := hb1.trans (hb2.mono hb1.size)
  clear hI2 HI1 hb1 hb2
  go_wp2_with fail
  refine (longest_fact w2).mono ?_
  rintro e w3 ⟨rfl, hb3⟩
  have HK1 := hid ((HJ1.out.below hb3).keep hb3.size fun _ _ _ => rfl)
  have HK2 := hid ((HI2.out.below hb3).keep hb3.size fun _ _ _ => rfl)
  have hb13 := hb12.trans (hb3.mono hb12.size)
  clear HJ1 HI2 hb3 hb12
  have HC := hid (ints_ok A1 (some ⟨w3.heap.size, 0, none⟩) 3 3 c1 3 [1, 2, 1] _ _ _ (by omega) (by omega) (HK1.out.alloc (Nat.le_refl _) (.cells #[.int .i64 1, .int .i64 2, .int .i64 1] 3)) (IsInts.lit w3 [1, 2, 1] _ 3 rfl))
  have HB : Hid (∀ o, Below w3.heap.size w3 (w3.alloc o)) := hid fun o => (Below.refl _ _).alloc (Nat.le_refl _) _
  clear HK1
  go_wp2_with fail
  refine HC.out.mono ?_
  rintro e w4 ⟨rfl, hb4⟩
  have hb34 : Below w3.heap.size w3 w4 := (HB.out _).trans (hb4.mono (HB.out _).size)
  have HL2 := hid ((HK2.out.below hb34).keep hb34.size fun _ _ _ => rfl)
  have hb14 := hb13.trans (hb34.mono hb13.size)
  clear HC HB HK2 hb4 hb34 hb13
  have HD := hid (ints_ok A2 (some ⟨w4.heap.size, 0, none⟩) 4 4 c2 4 [0, 0, 2, 0] _ _ _ (by omega) (by omega) (HL2.out.alloc (Nat.le_refl _) (.cells #[.int .i64 0, .int .i64 0, .int .i64 2, .int .i64 0] 3)) (IsInts.lit w4 [0, 0, 2, 0] _ 3 rfl))
  have HB : Hid (∀ o, Below w4.heap.size w4 (w4.alloc o)) := hid fun o => (Below.refl _ _).alloc (Nat.le_refl _) _
  clear HL2
  go_wp2_with fail
  refine HD.out.mono ?_
  rintro e w5 ⟨rfl, hb5⟩
  have hb45 : Below w4.heap.size w4 w5 := (HB.out _).trans (hb5.mono (HB.out _).size)
  clear HD HB hb5
  go_wp2_with fail
  go_ret
  exact ⟨rfl, hb14.trans (hb45.mono hb14.size)⟩
end Go.Proofs.Ytgfkbbepngmpnaa
