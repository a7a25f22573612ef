/-
  The closed fact of the ends' laws: suffixFact returns true; how a list of places reads. No condition.
-/
import Derived.Test.YtdkbgikniacekaaSufT
import Derived.Test.YtdkbgikniacekaaInts
namespace Go.Proofs.Ytdkbgikniacekaa
open Go.RowKit

/-- A slice that holds places reads as numbers. -/
theorem nats_at {w : World} {B n : Nat} {A : Option Addr} {o : List Nat} (h : IsInts w B A n (o.map fun i : Nat => (i : Int))) (hn : 0 < n) :
    ∃ g off, A = some ⟨g, off, none⟩ ∧ g < B ∧ ∀ j, j < n → w.cell? ⟨g, off + j, none⟩ = some (.int .i64 ((o.getD j 0 : Nat) : Int)) := by
  obtain ⟨g, off, e, hg, hc⟩ := h.2 hn
  refine ⟨g, off, e, hg, fun j hj => ?_⟩
  have hl : j < o.length := by have := h.1; rw [List.length_map] at this; omega
  rw [hc j hj]
  simp [List.getD_eq_getElem?_getD, hl]

def banana : ByteArray := ⟨#[98, 97, 110, 97, 110, 97]⟩
theorem banana_ord : Ord (bs banana) [5, 3, 1, 0, 4, 2] := ⟨List.isPerm_iff.1 (by decide +kernel), by decide +kernel⟩
theorem order_banana (w : World) : Calls Try.prog 11 #[.string ⟨#[98, 97, 110, 97, 110, 97]⟩] w fun e w' => ∃ A c, e = .returned (.tuple #[.slice A 6 c, .nilIface]) ∧ IsInts w' w'.heap.size A 6 [5, 3, 1, 0, 4, 2] ∧ Below w.heap.size w w' :=
  (order_any banana w (by decide)).mono fun e w' ⟨A, c, o, h1, h2, h3, h4⟩ => by
    obtain rfl := ord_one h2 banana_ord
    exact ⟨A, c, h1, h3, h4⟩
theorem alike_banana (w : World) : Calls Try.prog 14 #[.string ⟨#[98, 97, 110, 97, 110, 97]⟩] w fun e w' => ∃ A c, e = .returned (.tuple #[.slice A 5 c, .nilIface]) ∧ IsInts w' w'.heap.size A 5 [1, 3, 0, 0, 2] ∧ Below w.heap.size w w' :=
  (salike_any banana w (by decide)).mono fun e w' ⟨v, o, h1, h2, h3, h4⟩ => by
    obtain rfl := ord_one h2 banana_ord
    have he : nbTo (bs banana) [5, 3, 1, 0, 4, 2] (banana.size - 1) = [1, 3, 0, 0, 2] := by decide +kernel
    rw [he] at h3
    obtain ⟨A, c, rfl, hI⟩ := own_n (n := 5) h3 rfl
    exact ⟨A, c, h1, hI, h4⟩
theorem aab_count : cN (bs ⟨#[97, 97, 98]⟩) = 5 := by decide +kernel

set_option maxHeartbeats 800000 in
theorem sffact_any (w : World) : Calls Try.prog 10 #[] w fun e w' => e = .returned (.bool true) ∧ Below w.heap.size w w' := by
  have H3 := fun W => hid (scount_any ⟨#[97, 97, 98]⟩ W (by decide))
  rw [aab_count] at H3
  go_enter Try.func10, Try.ntmps10
  go_wp2_with fail
  refine (order_banana _).mono ?_
  rintro e w1 ⟨A1, c1, rfl, hI1, hb1⟩
  go_wp2_with fail
  refine (alike_banana _).mono ?_
  rintro e w2 ⟨A2, c2, rfl, hI2, hb2⟩
  have hI12 := hI1.up hb2
  have hbB := Below.on hb1 hb2 (Nat.le_refl _)
  clear hI1 hb1 hb2
  go_wp2_with fail
  refine (H3 _).out.mono ?_
  rintro e w3 ⟨rfl, hb3⟩
  have hI13 := hI12.up hb3
  have hI23 := hI2.up hb3
  have hbC := Below.on hbB hb3 (Nat.le_refl _)
  have hs3 := hbC.size
  have HI1 := hid (hI13.alloc (Nat.le_refl _) (.cells #[.int .i64 5, .int .i64 3, .int .i64 1, .int .i64 0, .int .i64 4, .int .i64 2] 3))
  have hI24 := hI23.up ((Below.refl _ w3).alloc (Nat.le_refl _) (.cells #[.int .i64 5, .int .i64 3, .int .i64 1, .int .i64 0, .int .i64 4, .int .i64 2] 3))
  have HL := hid (IsInts.lit w3 [5, 3, 1, 0, 4, 2] _ 3 rfl)
  have hbD := hbC.alloc hs3 (.cells #[.int .i64 5, .int .i64 3, .int .i64 1, .int .i64 0, .int .i64 4, .int .i64 2] 3)
  have HI2 := hid hI24
  clear hI12 hI13 hI23 hI2 hI24 hbB hb3 H3 hbC
  go_wp2_with fail
  refine (ints_ok _ _ 6 6 _ _ [5, 3, 1, 0, 4, 2] _ _ _ (by omega) (by omega) HI1.out HL.out).mono ?_
  rintro e w4 ⟨rfl, hb4⟩
  have hI4 := HI2.out.up hb4
  have hbE := Below.on hbD hb4 (Nat.le_refl _)
  have hs4 := hbE.size
  have HI4 := hid (hI4.alloc (Nat.le_refl _) (.cells #[.int .i64 1, .int .i64 3, .int .i64 0, .int .i64 0, .int .i64 2] 3))
  have HM := hid (IsInts.lit w4 [1, 3, 0, 0, 2] _ 3 rfl)
  have hbF := hbE.alloc hs4 (.cells #[.int .i64 1, .int .i64 3, .int .i64 0, .int .i64 0, .int .i64 2] 3)
  clear hI4 hb4 hbD HI1 HI2 HL hbE
  go_wp2_with fail
  refine (ints_ok _ _ 5 5 _ _ [1, 3, 0, 0, 2] _ _ _ (by omega) (by omega) HI4.out HM.out).mono ?_
  rintro e w5 ⟨rfl, hb5⟩
  have hbG := hbF.trans (hb5.mono hbF.size)
  clear hb5 hbF HI4 HM
  go_wp2
  go_ret
  exact ⟨rfl, hbG⟩
end Go.Proofs.Ytdkbgikniacekaa
