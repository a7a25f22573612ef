/-
  The walk of ZetaBoth: it returns true for every text, and leaves the old memory alone. No condition but the row's own size.
-/
import Derived.Test.YtgpailgadpndjaaZfact
import Derived.Test.YtgpailgadpndjaaEdges
namespace Go.Proofs.Ytgpailgadpndjaa
open Go.RowKit

theorem zboth_long (s : ByteArray) (w : World) (h : 24 < s.size) (hs : s.size ≤ maxLen) :
    Calls Try.prog 4 #[.string s] w fun e w' => e = .returned (.bool true) ∧ Below w.heap.size w w' := by
  have HL := fun w => hid (zof_long s w h hs)
  have HM := fun w => hid (of_long s w h hs)
  unfold maxLen at hs
  go_enter Try.func4, Try.ntmps4
  go_wp2_with fail
  refine (zfact_any _).mono ?_
  rintro e w1 ⟨rfl, hb1⟩
  go_wp2_with fail
  refine (HL _).out.mono ?_
  rintro e w2 ⟨rfl, rfl⟩
  go_wp2_with fail
  refine (HM _).out.mono ?_
  rintro e w2 ⟨rfl, rfl⟩
  go_wp2
  go_ret
  exact ⟨rfl, hb1⟩

set_option maxHeartbeats 800000 in
theorem zboth_any (s : ByteArray) (w : World) (h : s.size ≤ 24) :
    Calls Try.prog 4 #[.string s] w fun e w' => e = .returned (.bool true) ∧ Below w.heap.size w w' := by
  go_enter Try.func4, Try.ntmps4
  go_wp2_with fail
  refine (zfact_any _).mono ?_
  rintro e w1 ⟨rfl, hb1⟩
  have hs1 := hb1.size
  go_wp2_with fail
  refine (zof_any s _ h).mono ?_
  rintro e w2 ⟨rfl, ho2, hb2⟩
  have hs2 := hb2.size
  have hsz : w1.heap.size < w2.heap.size := (World.ownsRow.lt ho2 w1.heap.size rfl).2
  go_wp2_with fail
  refine (of_any s _ h).mono ?_
  rintro e w3 ⟨rfl, ho3, hb3⟩
  have hb13 : Below w.heap.size w w3 := (hb1.trans (hb2.mono hs1)).trans (hb3.mono (by omega))
  have HZ : Hid (∀ j, j < s.size → w3.cell? ⟨w1.heap.size, j, none⟩ = some (.int .i64 (zl (sg s) s.size j : Nat))) := hid (by
    intro j hj
    unfold OwnI at ho2
    rw [zL_len] at ho2
    rw [hb3.cell (by simpa using hsz), ho2.cellAt j (by omega)]; simp [zL, hj])
  have HC : Hid (∀ j, j < s.size → w3.cell? ⟨w2.heap.size, j, none⟩ = some (.int .i64 (lon (sg s) (j + 1) : Nat))) := hid (by
    intro j hj
    unfold OwnI at ho3
    rw [ofL_len] at ho3
    rw [ho3.cellAt j (by omega)]; simp [ofL, hj])
  have hq : ((s.size : Int) != (s.size : Int)) = false := by simp
  clear ho2 hb2 hb1 hs1 ho3 hb3 hs2 hsz
  generalize w1.heap.size = B1 at HZ ⊢
  generalize w2.heap.size = B2 at HC ⊢
  go_wp2
  go_loopw [8] (fun i wr => ∃ k : Nat, k ≤ s.size ∧ i = .int .i64 k ∧ wr = w3) (fun i _ => s.size - (intOf i).toNat)
  case atStart => exact ⟨0, Nat.zero_le _, rfl, rfl⟩
  case round =>
    obtain ⟨k, hk, rfl, rfl⟩ := hrel
    by_cases hlt : k < s.size
    · go_wp2
      go_loopw [9, 10] (fun b t wr' => ∃ i : Nat, 1 ≤ i ∧ i ≤ k + 1 ∧ t = .int .i64 i ∧ b = .int .i64 (bst (sg s) (k + 1) i : Nat) ∧ wr' = wr) (fun _ t _ => k + 1 - (intOf t).toNat)
      case atStart => exact ⟨1, by omega, by omega, rfl, by rw [bst_one]; rfl, rfl⟩
      case round =>
        obtain ⟨i, hi1, hi2, rfl, rfl, rfl⟩ := hrel
        by_cases hik : i ≤ k
        · have hz := HZ.out i (by omega)
          have HP := hid (zl_part (f := sg s) (n := s.size) (m := k + 1) (i := i) (by omega) (by omega) (by omega))
          by_cases hge : k + 1 - i ≤ zl (sg s) s.size i
          · have hbd := HP.out.1 hge
            have g1 : (k : Int) - (i : Int) + 1 ≤ (zl (sg s) s.size i : Int) := by omega
            by_cases hb0 : bst (sg s) (k + 1) i = 0
            · have HE := hid (bst_yes hb0 (by omega) hbd)
              rw [hb0]
              generalize zl (sg s) s.size i = z at hz g1
              clear HP hge hbd hb0
              go_wp2
              go_roundw
              case rel => exact ⟨i + 1, by omega, by omega, by go_num, by rw [HE.out]; go_num, by first | rfl | trivial⟩
              case measure => simp [intOf]; omega
            · have HE := hid (bst_had hb0)
              have hle := bst_lt (sg s) (k + 1) i
              generalize bst (sg s) (k + 1) i = b at hb0 HE hle
              generalize zl (sg s) s.size i = z at hz g1
              have g2 : ((b : Int) == 0) = false := beq_eq_false_iff_ne.2 (by omega)
              clear HP hge hbd hb0
              go_wp2
              go_roundw
              case rel => exact ⟨i + 1, by omega, by omega, by go_num, by rw [HE.out], by first | rfl | trivial⟩
              case measure => simp [intOf]; omega
          · have HE := hid (bst_no fun hbd => hge (HP.out.2 hbd))
            have g1 : ¬ ((k : Int) - (i : Int) + 1 ≤ (zl (sg s) s.size i : Int)) := by omega
            generalize bst (sg s) (k + 1) i = b at HE
            generalize zl (sg s) s.size i = z at hz g1
            clear HP hge
            go_wp2
            go_roundw
            case rel => exact ⟨i + 1, by omega, by omega, by go_num, by rw [HE.out], by first | rfl | trivial⟩
            case measure => simp [intOf]; omega
        · have he : i = k + 1 := by omega
          have hc := HC.out k hlt
          have hl := lon_lt (f := sg s) (m := k + 1) (by omega)
          rw [he, bst_end (f := sg s) (m := k + 1) (by omega)]
          have hq2 : ((lon (sg s) (k + 1) : Int) != (lon (sg s) (k + 1) : Int)) = false := by simp
          generalize lon (sg s) (k + 1) = l at hc hl hq2 ⊢
          clear he hik hi1 hi2
          go_wp2
          go_roundw
          case rel => exact ⟨k + 1, by omega, by go_num, by first | rfl | trivial⟩
          case measure => simp [intOf]; omega
    · go_wp2
      go_ret
      exact ⟨rfl, hb13⟩
end Go.Proofs.Ytgpailgadpndjaa
