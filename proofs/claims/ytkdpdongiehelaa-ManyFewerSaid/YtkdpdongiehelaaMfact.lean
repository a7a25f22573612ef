/-
  The closed fact of the laws on many words: manyFact returns true. No condition.
-/
import Derived.Test.YtkdpdongiehelaaMcut
import Derived.Test.YtkdpdongiehelaaMsame
import Derived.Test.YtkdpdongiehelaaStrl
import Derived.Test.YtkdpdongiehelaaInts
namespace Go.Proofs.Ytkdpdongiehelaa
open Go.RowKit

theorem IsHits.lit (w : World) (xs : List (Nat × Nat)) (n : Nat) (cs : Array Value) (e : TypeId) (h : cs = (xs.flatMap encH).toArray) (hn : xs.length = n) :
    IsHits (w.alloc (.cells cs e)) (w.heap.size + 1) (some ⟨w.heap.size, 0, none⟩) n xs := by
  subst h hn
  refine ⟨rfl, fun _ => ⟨w.heap.size, 0, rfl, by omega, fun j hj => ?_⟩⟩
  have hf := flat_get xs j hj
  rw [Nat.zero_add, cell_of_row _ _ (j * 2) _ e (0, 0) (heap_alloc_new w _), cell_of_row _ _ (j * 2 + 1) _ e (0, 0) (heap_alloc_new w _)]
  simpa using hf
theorem all_fact (w : World) : Calls Try.prog 7 #[.slice (some ⟨w.heap.size, 0, none⟩) 2 2, .string ⟨#[115, 104, 101]⟩] (w.alloc (.cells #[.string ⟨#[104, 101]⟩, .string ⟨#[115, 104, 101]⟩] 9)) fun e w' =>
    ∃ A c, e = .returned (.tuple #[.slice A 2 c, .nilIface]) ∧ IsHits w' w'.heap.size A 2 [(0, 1), (1, 0)] ∧ Below w.heap.size w w' := by
  have hb : Below w.heap.size w (w.alloc (.cells #[.string ⟨#[104, 101]⟩, .string ⟨#[115, 104, 101]⟩] 9)) := (Below.refl _ _).alloc (Nat.le_refl _) _
  have e : hitsL [⟨#[104, 101]⟩, ⟨#[115, 104, 101]⟩] ⟨#[115, 104, 101]⟩ = [(0, 1), (1, 0)] := by decide +kernel
  have := all_ok _ 2 2 [⟨#[104, 101]⟩, ⟨#[115, 104, 101]⟩] ⟨#[115, 104, 101]⟩ _ (fine2 _ _ (by decide) (by decide) (by decide)) (by decide) (strs_lit w _ 2 _ 9 rfl rfl)
  rw [e] at this
  exact this.mono fun e' w' ⟨A, c, he, hI, hb'⟩ => ⟨A, c, he, hI, hb.trans (hb'.mono hb.size)⟩
theorem cutr_fact : CutR (wds (wl [⟨#[97]⟩, ⟨#[97, 98]⟩])) (bs ⟨#[97, 98, 97]⟩) (some [1, 0]) :=
  CutR.step (x := [97, 98]) (j := 1) (r := some [0]) (by decide) (.inr ⟨[97, 98], 1, by decide, rfl, by decide, by decide⟩) (by decide)
    (CutR.step (x := [97]) (j := 0) (r := some []) (by decide) (.inr ⟨[97], 0, by decide, rfl, by decide, by decide⟩) (by decide) CutR.fin)
theorem cut_fact (w : World) : Calls Try.prog 11 #[.slice (some ⟨w.heap.size, 0, none⟩) 2 2, .string ⟨#[97, 98, 97]⟩] (w.alloc (.cells #[.string ⟨#[97]⟩, .string ⟨#[97, 98]⟩] 9)) fun e w' =>
    ∃ v, e = .returned (.tuple #[v, .nilIface]) ∧ OwnI w' w.heap.size 3 v [1, 0] ∧ Below w.heap.size w w' := by
  have hb : Below w.heap.size w (w.alloc (.cells #[.string ⟨#[97]⟩, .string ⟨#[97, 98]⟩] 9)) := (Below.refl _ _).alloc (Nat.le_refl _) _
  have hf : Fine [⟨#[97]⟩, ⟨#[97, 98]⟩] := fine2 _ _ (by decide) (by decide) (by decide)
  refine (cut_ok _ 2 2 [⟨#[97]⟩, ⟨#[97, 98]⟩] ⟨#[97, 98, 97]⟩ _ hf (by decide) (strs_lit w _ 2 _ 9 rfl rfl)).mono fun e' w' ⟨r, hr, hb', hc⟩ => ?_
  obtain rfl := cut_one (wds_once.2 (fine_wl hf).1) wds_place cutr_fact hr
  rcases hc with ⟨h, _⟩ | ⟨out, v, h, he, ho, _⟩
  · cases h
  · cases h
    exact ⟨v, he, ho.base hb.size, hb.trans (hb'.mono hb.size)⟩

set_option maxHeartbeats 1000000 in
theorem mfact_any (w : World) : Calls Try.prog 6 #[] w fun e w' => e = .returned (.bool true) ∧ Below w.heap.size w w' := by
  go_enter Try.func6, Try.ntmps6
  go_wp2_with fail
  refine (all_fact w).mono ?_
  rintro e w1 ⟨A1, c1, rfl, hI1, hb1⟩
  have HI1 := hid hI1
  clear hI1
  go_wp2_with fail
  refine (cut_fact w1).mono ?_
  rintro e w2 ⟨v, rfl, ho, hb2⟩
  obtain ⟨A2, c2, rfl, _, hI2⟩ := IsInts.of_own ho
  clear ho
  have HI2 := hid hI2
  have HI3 := hid (HI1.out.on hb2)
  have hb12 := hb1.trans (hb2.mono hb1.size)
  clear hI2 HI1
  have HB : Hid (∀ o, Below w2.heap.size w2 (w2.alloc o)) := hid fun o => (Below.refl _ _).alloc (Nat.le_refl _) _
  have HC := hid (hits_yes A1 (some ⟨w2.heap.size, 0, none⟩) 2 c1 2 [(0, 1), (1, 0)] _ _ _ (by omega) (HI3.out.below (HB.out _)) (IsHits.lit w2 [(0, 1), (1, 0)] 2 #[.int .i64 0, .int .i64 1, .int .i64 1, .int .i64 0] 32 rfl rfl))
  go_wp2_with fail
  refine HC.out.mono ?_
  rintro e w3 ⟨rfl, q, hw3⟩
  have hb3 : Below w2.heap.size w2 w3 := by rw [hw3]; exact below_drewN (HB.out _) q
  have HI4 := hid ((HI2.out.below hb3).keep hb3.size fun _ _ _ => rfl)
  have hb13 := hb12.trans (hb3.mono hb12.size)
  clear hw3 HC HB hb3 HI2 HI3 hb12 hb2
  have HD := hid (ints_any A2 (some ⟨w3.heap.size, 0, none⟩) 2 2 c2 2 [1, 0] [1, 0] _ _ _ (by omega) (by omega) (HI4.out.alloc (Nat.le_refl _) (.cells #[.int .i64 1, .int .i64 0] 3)) (IsInts.lit w3 [1, 0] _ 3 rfl))
  rw [sameInts_true rfl] at HD
  go_wp2_with fail
  refine HD.out.mono ?_
  rintro e w4 ⟨rfl, q, rfl⟩
  go_wp2_with fail
  go_ret
  exact ⟨rfl, below_drewN (hb13.alloc hb13.size _) q⟩
end Go.Proofs.Ytkdpdongiehelaa
