/-
  The closed fact of the laws on codes: kraftFact returns true. No condition.
-/
import Derived.Test.YtlfncplldppncaaDoorKcod
import Derived.Test.YtlfncplldppncaaDoorKap
import Derived.Test.YtlfncplldppncaaDoorTexts
import Derived.Test.YtlfncplldppncaaDoorStrl
namespace Go.Proofs.YtlfncplldppncaaDoor
open Go.RowKit

/-- Does a list have all that the search begins with, and what comes of each? -/
def shutB (W A : List (List UInt8)) : Bool :=
  ((List.range W.length).all fun i => (List.range W.length).all fun k => i == k || !((W.getD k []).isPrefixOf (W.getD i [])) || A.contains ((W.getD i []).drop (W.getD k []).length)) &&
  (A.all fun a => (List.range W.length).all fun i => (!(a.isPrefixOf (W.getD i [])) || A.contains ((W.getD i []).drop a.length)) && (!((W.getD i []).isPrefixOf a) || A.contains (a.drop (W.getD i []).length)))
theorem ud_check {W A : List (List UInt8)} (hw : Okw W) (h : shutB W A = true) (h0 : [] ∉ A) : UD W := by
  refine (ud_iff hw).2 fun hd => h0 (dang_in (A := A) ?_ ?_ hd)
  · intro i k s hi hk hne e
    have h1 := (Bool.and_eq_true_iff.1 h).1
    have h2 := List.all_eq_true.1 (List.all_eq_true.1 h1 i (List.mem_range.2 hi)) k (List.mem_range.2 hk)
    rw [e, List.drop_left, List.isPrefixOf_iff_prefix.2 (List.prefix_append _ _)] at h2
    have : (i == k) = false := by simpa using hne
    rw [this] at h2
    simpa using h2
  · intro a ha i r hi hr
    have h1 := (Bool.and_eq_true_iff.1 h).2
    have h2 := List.all_eq_true.1 (List.all_eq_true.1 h1 a ha) i (List.mem_range.2 hi)
    obtain ⟨h3, h4⟩ := Bool.and_eq_true_iff.1 h2
    rcases hr with e | e
    · rw [e, List.drop_left, List.isPrefixOf_iff_prefix.2 (List.prefix_append _ _)] at h3
      simpa using h3
    · rw [e, List.drop_left, List.isPrefixOf_iff_prefix.2 (List.prefix_append _ _)] at h4
      simpa using h4
theorem lenOk_lit : LenOk [2, 1, 2] := by
  intro j hj
  have : j = 0 ∨ j = 1 ∨ j = 2 := by simp at hj; omega
  rcases this with rfl | rfl | rfl <;> decide
theorem codes_lit : codeT [2, 1, 2] = [⟨#[49, 48]⟩, ⟨#[48]⟩, ⟨#[49, 49]⟩] := by
  have : codesL [2, 1, 2] = [[49, 48], [48], [49, 49]] := by decide +kernel
  unfold codeT
  rw [this]
  rfl
theorem ok_of_fine {ws : List ByteArray} (h : Fine ws) : Okw (wl ws) := by
  have h1 := fine_wl h
  exact ⟨h1.1, fun x hx e => by have := (h1.2 x hx).2; rw [e] at this; simp at this⟩
theorem fine_lit1 : Fine [⟨#[48]⟩, ⟨#[48, 49]⟩, ⟨#[49, 49]⟩] := fine3 _ _ _ (by decide) (by decide) (by decide) (by decide) (by decide) (by decide)
theorem fine_lit2 : Fine [⟨#[48]⟩, ⟨#[48, 49]⟩, ⟨#[49, 48]⟩] := fine3 _ _ _ (by decide) (by decide) (by decide) (by decide) (by decide) (by decide)
theorem ud_lit1 : UD (wl [⟨#[48]⟩, ⟨#[48, 49]⟩, ⟨#[49, 49]⟩]) := ud_check (A := [[49]]) (ok_of_fine fine_lit1) (by decide +kernel) (by decide)
theorem ud_lit2 : ¬ UD (wl [⟨#[48]⟩, ⟨#[48, 49]⟩, ⟨#[49, 48]⟩]) := fun h => by
  have := h [0, 2] [1, 0] (fun i hi => by simp at hi; rcases hi with rfl | rfl <;> decide) (fun i hi => by simp at hi; rcases hi with rfl | rfl <;> decide) (by decide +kernel)
  exact absurd this (by decide)
theorem num_lit (w : World) : IsInts (w.alloc (.cells #[.int .i64 2, .int .i64 1, .int .i64 2] 3)) (w.alloc (.cells #[.int .i64 2, .int .i64 1, .int .i64 2] 3)).heap.size (some ⟨w.heap.size, 0, none⟩) 3 (nums [2, 1, 2]) :=
  (IsInts.lit w [2, 1, 2] #[.int .i64 2, .int .i64 1, .int .i64 2] 3 rfl).keep (by simp) fun _ _ _ => rfl

set_option maxRecDepth 100000 in
set_option maxHeartbeats 2000000 in
theorem kfact_any (w : World) : Calls Tryd.prog 18 #[] w fun e w' => e = .returned (.bool true) ∧ Below w.heap.size w w' := by
  have H1 := hid (kcodes_ok _ 3 3 [2, 1, 2] _ (num_lit w) (by omega) lenOk_lit (by decide))
  have hb0 : Below w.heap.size w (w.alloc (.cells #[.int .i64 2, .int .i64 1, .int .i64 2] 3)) := (Below.refl _ _).alloc (Nat.le_refl _) _
  rw [codes_lit] at H1
  go_enter Tryd.func18, Tryd.ntmps18
  go_wp2_with fail
  refine H1.out.mono ?_
  rintro e w1 ⟨A1, c1, rfl, hI1, hb1⟩
  have hbA := hb0.trans (hb1.mono hb0.size)
  have HI1 := hid hI1
  have H2 := hid (kapart_ok _ 3 3 _ _ fine_lit1 (strs_lit w1 [⟨#[48]⟩, ⟨#[48, 49]⟩, ⟨#[49, 49]⟩] 3 #[.string ⟨#[48]⟩, .string ⟨#[48, 49]⟩, .string ⟨#[49, 49]⟩] 9 rfl rfl))
  have hb2 : Below w1.heap.size w1 (w1.alloc (.cells #[.string ⟨#[48]⟩, .string ⟨#[48, 49]⟩, .string ⟨#[49, 49]⟩] 9)) := (Below.refl _ _).alloc (Nat.le_refl _) _
  clear hI1 H1 hb1 hb0
  go_wp2_with fail
  refine H2.out.mono ?_
  rintro e w2 ⟨b, hb, rfl, hb3⟩
  obtain rfl : b = true := hb.2 ud_lit1
  have hbB := hb2.trans (hb3.mono hb2.size)
  have hbC := hbA.trans (hbB.mono hbA.size)
  have HI2 := hid (HI1.out.below hbB |>.mono hbB.size)
  have H3 := hid (kapart_ok _ 3 3 _ _ fine_lit2 (strs_lit w2 [⟨#[48]⟩, ⟨#[48, 49]⟩, ⟨#[49, 48]⟩] 3 #[.string ⟨#[48]⟩, .string ⟨#[48, 49]⟩, .string ⟨#[49, 48]⟩] 9 rfl rfl))
  have hb4 : Below w2.heap.size w2 (w2.alloc (.cells #[.string ⟨#[48]⟩, .string ⟨#[48, 49]⟩, .string ⟨#[49, 48]⟩] 9)) := (Below.refl _ _).alloc (Nat.le_refl _) _
  clear HI1 H2 hb2 hb3 hbA hbB hb
  go_wp2_with fail
  refine H3.out.mono ?_
  rintro e w3 ⟨b, hb, rfl, hb5⟩
  obtain rfl : b = false := by
    cases b with
    | false => rfl
    | true => exact absurd (hb.1 rfl) ud_lit2
  have hbD := hb4.trans (hb5.mono hb4.size)
  have hbE := hbC.trans (hbD.mono hbC.size)
  have hI3 := HI2.out.below hbD |>.mono hbD.size
  have hb6 : Below w3.heap.size w3 (w3.alloc (.cells #[.string ⟨#[49, 48]⟩, .string ⟨#[48]⟩, .string ⟨#[49, 49]⟩] 9)) := (Below.refl _ _).alloc (Nat.le_refl _) _
  have H4 := hid (texts_yes A1 _ 3 c1 3 _ _ (by omega) ((hI3.below hb6).mono hb6.size) (strs_lit w3 [⟨#[49, 48]⟩, ⟨#[48]⟩, ⟨#[49, 49]⟩] 3 #[.string ⟨#[49, 48]⟩, .string ⟨#[48]⟩, .string ⟨#[49, 49]⟩] 9 rfl rfl))
  have hbF := hbE.trans (hb6.mono hbE.size)
  clear HI2 H3 hb4 hb5 hbC hbD hb hI3 hb6 hbE
  go_wp2_with fail
  refine H4.out.mono ?_
  rintro e w4 ⟨rfl, q, hw4⟩
  have hbG : Below w.heap.size w w4 := by rw [hw4]; exact below_drewN hbF q
  clear hw4 H4 hbF
  go_wp2_with fail
  go_ret
  exact ⟨rfl, hbG⟩
end Go.Proofs.YtlfncplldppncaaDoor
