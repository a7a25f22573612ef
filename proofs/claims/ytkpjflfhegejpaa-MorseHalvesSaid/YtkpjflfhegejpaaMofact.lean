/-
  The closed fact of the laws on the Thue-Morse word: morseFact returns true; no part of the word has an overlap. No condition.
-/
import Derived.Test.YtkpjflfhegejpaaMors
namespace Go.Proofs.Ytkpjflfhegejpaa
open Go.RowKit

set_option maxHeartbeats 1000000 in
theorem mofact_any (w : World) : Calls Try.prog 7 #[] w fun e w' => e = .returned (.bool true) ∧ Below w.heap.size w w' := by
  have H1 := hid (wword_any 8 w (by omega))
  have H2 := fun W => hid (wtwice_any ⟨#[97, 98, 99, 98, 99]⟩ W (by decide))
  have H3 := fun W => hid (wover_any ⟨#[97, 98, 97, 98, 97]⟩ W (by decide))
  have hq : ((txt (mw 8)).toList == [48, 49, 49, 48, 49, 48, 48, 49]) = true := by rw [mw_eight, ByteArray.toList_eq]; rfl
  generalize txt (mw 8) = t at H1 hq
  go_enter Try.func7, Try.ntmps7
  go_wp2_with fail
  refine H1.out.mono ?_
  rintro e w1 ⟨rfl, hb1⟩
  clear H1
  go_wp2_with fail
  refine (H2 _).out.mono ?_
  rintro e w2 ⟨a, b, rfl, hF, hb2⟩
  obtain ⟨rfl, rfl⟩ := fsq_one hF fsq_abcbc
  have hbA := hb1.trans (hb2.mono hb1.size)
  clear H2 hF hb1 hb2
  go_wp2_with fail
  refine (H3 _).out.mono ?_
  rintro e w3 ⟨a, b, rfl, hF, hb3⟩
  obtain ⟨rfl, rfl⟩ := fsq_one hF fsq_ababa
  have hbB := hbA.trans (hb3.mono hbA.size)
  clear H3 hF hbA hb3
  go_wp2_with fail
  go_ret
  exact ⟨by first | rfl | simp, hbB⟩
/-- No part of the word begins once more what stands twice. -/
theorem over_none (n i j : Nat) (w : World) (hn : n ≤ 200) (_hij : i ≤ j) (hj : j ≤ n) :
    Calls Try.prog 10 #[.string ((txt (mw n)).extract i j)] w fun e w' => e = .returned (.tuple #[.int .i64 (-1), .int .i64 0, .nilIface]) ∧ Below w.heap.size w w' := by
  refine (wover_any _ w (by rw [ByteArray.size_extract, txt_mw_size]; omega)).mono ?_
  rintro e w' ⟨a, b, rfl, hF, hb⟩
  refine ⟨?_, hb⟩
  have hbs : bs ((txt (mw n)).extract i j) = ((mw n).take j).drop i := by rw [wb_ext, bs_txt]
  rw [hbs] at hF
  obtain ⟨rfl, rfl⟩ := fsq_one hF (.none fun i' k' => mw_over n i j i' k')
  rfl
end Go.Proofs.Ytkpjflfhegejpaa
