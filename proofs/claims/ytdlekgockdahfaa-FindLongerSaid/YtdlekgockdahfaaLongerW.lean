/-
  The walk of FindLonger: it returns true for every text and two words, and leaves the old memory alone. Conditions: the row's own sizes, and that the two words' lengths have a sum that is an int (the row's own reach).
-/
import Derived.Test.YtdlekgockdahfaaFfact
import Derived.Test.YtdlekgockdahfaaOcc2
import Derived.Laws.Concat
namespace Go.Proofs.Ytdlekgockdahfaa
open Go.RowKit

theorem longer_bad (t a b : ByteArray) (k : Int) (w : World) (h : BadW t (a ++ b) k) (hab : a.size + b.size ≤ 9223372036854775807) (ht : t.size ≤ maxLen) :
    Calls Try.prog 6 #[.string t, .string a, .string b] w fun e w' => e = .returned (.bool true) ∧ Below w.heap.size w w' := by
  have HL := fun w => hid (fall_bad t (a ++ b) k w h ht (by rw [size_join]; unfold maxLen; omega))
  have hadd := fun w => run_string_add_sum (P := Try.prog) w a b hab
  generalize a ++ b = ab at HL hadd
  unfold maxLen at ht
  clear h
  go_enter Try.func6, Try.ntmps6
  go_wp2_with fail
  refine (ffact_any _).mono ?_
  rintro e w1 ⟨rfl, hb1⟩
  go_wp2_with fail
  refine (HL _).out.mono ?_
  rintro e w2 ⟨rfl, rfl⟩
  go_wp2
  go_ret
  exact ⟨rfl, hb1⟩

theorem empty_yes {u : ByteArray} (h : u.size = 0) : u.toList.isEmpty = true := by
  have : u.toList.length = u.size := by rw [ByteArray.toList_eq, Array.length_toList]; rfl
  cases e : u.toList with
  | nil => rfl
  | cons => rw [e] at this; simp at this; omega

set_option maxHeartbeats 400000 in
theorem longer_none (t a b : ByteArray) (w : World) (h1 : t.size ≤ 24) (h2 : a.size + b.size ≤ 24) (h0 : 0 < a.size + b.size) (he : a.size = 0 ∨ b.size = 0) :
    Calls Try.prog 6 #[.string t, .string a, .string b] w fun e w' => e = .returned (.bool true) ∧ Below w.heap.size w w' := by
  have HL := fun w => hid (fall_any t (a ++ b) w h1 (by rw [size_join]; omega) (by rw [size_join]; omega))
  have hadd := fun w => run_string_add_sum (P := Try.prog) w a b (by omega)
  have hl1 : (occL t (a ++ b)).length ≤ 24 := Nat.le_trans (occL_len _ _) h1
  generalize occL t (a ++ b) = ls at HL hl1
  generalize a ++ b = ab at HL hadd
  by_cases ha : a.size = 0
  · have hq1 := empty_yes ha
    clear he
    go_enter Try.func6, Try.ntmps6
    go_wp2_with fail
    refine (ffact_any _).mono ?_
    rintro e w1 ⟨rfl, hb1⟩
    go_wp2_with fail
    refine (HL _).out.mono ?_
    rintro e w2 ⟨v2, rfl, ho2, hb2⟩
    have hb2 := hb1.trans (hb2.mono hb1.size)
    clear ho2
    go_wp2
    go_ret
    exact ⟨rfl, hb2⟩
  · have hq1 := empty_no (u := a) (by omega)
    have hq2 := empty_yes (u := b) (by omega)
    clear he
    go_enter Try.func6, Try.ntmps6
    go_wp2_with fail
    refine (ffact_any _).mono ?_
    rintro e w1 ⟨rfl, hb1⟩
    go_wp2_with fail
    refine (HL _).out.mono ?_
    rintro e w2 ⟨v2, rfl, ho2, hb2⟩
    have hb2 := hb1.trans (hb2.mono hb1.size)
    clear ho2
    go_wp2
    go_ret
    exact ⟨rfl, hb2⟩

set_option maxHeartbeats 1600000 in
theorem longer_any (t a b : ByteArray) (w : World) (h1 : t.size ≤ 24) (h2 : a.size + b.size ≤ 24) (ha : 0 < a.size) (hb : 0 < b.size) :
    Calls Try.prog 6 #[.string t, .string a, .string b] w fun e w' => e = .returned (.bool true) ∧ Below w.heap.size w w' := by
  have HL := fun w => hid (fall_any t (a ++ b) w h1 (by rw [size_join]; omega) (by rw [size_join]; omega))
  have HX := fun w => hid (fall_any t a w h1 (by omega) ha)
  have HY := fun w => hid (fall_any t b w h1 (by omega) hb)
  have hadd := fun w => run_string_add_sum (P := Try.prog) w a b (by omega)
  have hq1 := empty_no ha
  have hq2 := empty_no hb
  have hl2 : (occL t a).length ≤ 24 := Nat.le_trans (occL_len _ _) h1
  have hl3 : (occL t b).length ≤ 24 := Nat.le_trans (occL_len _ _) h1
  have hl4 := len_first t a b hb
  have hl5 := len_second t a b hb
  have HP := hid (prs_all t a b hb)
  have HB : Hid (∀ i, i < (occL t a).length → 0 ≤ (occL t a).getD i 0 ∧ (occL t a).getD i 0 ≤ 24) := hid fun i hi => by
    obtain ⟨p, e, hp, _⟩ := occ_at hi
    omega
  generalize (occL t (a ++ b)) = ls at HL HP hl4 hl5
  generalize occL t a = xs at HX HP HB hl2 hl4
  generalize occL t b = ys at HY HP hl3 hl5
  generalize a ++ b = ab at HL hadd
  go_enter Try.func6, Try.ntmps6
  go_wp2_with fail
  refine (ffact_any _).mono ?_
  rintro e w1 ⟨rfl, hb1⟩
  have hs1 := hb1.size
  go_wp2_with fail
  refine (HL _).out.mono ?_
  rintro e w2 ⟨v2, rfl, ho2, hb2⟩
  obtain ⟨A, ca, rfl, _, hIL⟩ := IsInts.of_own ho2
  have hb2 := hb1.trans (hb2.mono hs1)
  have hs2 := hb2.size
  clear ho2 hb1 HL hs1 hadd hIL
  go_wp2_with fail
  refine (HX _).out.mono ?_
  rintro e w3 ⟨v3, rfl, ho3, hb3⟩
  obtain ⟨A3, c3, rfl, _, hIX⟩ := IsInts.of_own ho3
  have hb3 := hb2.trans (hb3.mono hs2)
  have hs3 := hb3.size
  clear hb2 HX ho3 hs2
  go_wp2_with fail
  refine (HY _).out.mono ?_
  rintro e w4 ⟨v4, rfl, ho4, hb4⟩
  obtain ⟨A4, c4, rfl, _, hIY⟩ := IsInts.of_own ho4
  have HIX := hid (hIX.below hb4)
  have HIY := hid hIY
  have hb4 := hb3.trans (hb4.mono hs3)
  have d1 : decide (xs.length < ls.length) = false := by simp; omega
  have d2 : decide (ys.length < ls.length) = false := by simp; omega
  clear hb3 HY ho4 hIX hIY hs3
  go_wp2
  go_loopw [14, 15] (fun v x wr => ∃ i q : Nat, i ≤ xs.length ∧ v = .int .i64 (prs a.size (xs.take i) ys : Nat) ∧ x = .int .i64 i ∧ wr = w4.drewN q) (fun _ x _ => xs.length - (intOf x).toNat)
  case atStart => exact ⟨0, 0, by omega, rfl, rfl, rfl⟩
  case round =>
    obtain ⟨i, q, hi, rfl, rfl, rfl⟩ := hrel
    by_cases hlt : i < xs.length
    · obtain ⟨g, off, rfl, _, hca⟩ := HIX.out.2 (by omega)
      have hx := hca i hlt
      obtain ⟨hx0, hx1⟩ := HB.out i hlt
      have HN : Hid (prs a.size (xs.take (i + 1)) ys = prs a.size (xs.take i) ys + cnt ys (xs.getD i 0 + a.size)) := hid (by rw [take_next hlt, prs_succ])
      have hp : prs a.size (xs.take i) ys ≤ 576 := Nat.le_trans (prs_le _ _ _) (Nat.le_trans (Nat.mul_le_mul (by rw [List.length_take]; omega) hl3) (by omega : 24 * 24 ≤ 576))
      generalize xs.getD i 0 = X at hx hx0 hx1 HN
      generalize prs a.size (xs.take i) ys = p at hp HN
      have g1 : decide (0 ≤ X) = true := by simpa using hx0
      have g2 : decide (X ≤ 24) = true := by simpa using hx1
      clear hca
      go_wp2
      go_loopw [14, 16] (fun v x wr => ∃ k q : Nat, k ≤ ys.length ∧ v = .int .i64 ((p + cnt (ys.take k) (X + a.size) : Nat) : Int) ∧ x = .int .i64 k ∧ wr = w4.drewN q) (fun _ x _ => ys.length - (intOf x).toNat)
      case atStart => exact ⟨0, q, by omega, rfl, rfl, rfl⟩
      case round =>
        obtain ⟨k, q, hk, rfl, rfl, rfl⟩ := hrel
        by_cases hlt2 : k < ys.length
        · obtain ⟨g', off', rfl, _, hcb⟩ := HIY.out.2 (by omega)
          have hy := hcb k hlt2
          have HT := hid (take_next hlt2)
          have hc := cnt_le (ys.take k) (X + a.size)
          rw [List.length_take] at hc
          generalize ys.getD k 0 = Y at hy HT
          clear hcb
          by_cases hxy : Y = X + (a.size : Int)
          · have HR : Hid (cnt (ys.take (k + 1)) (X + a.size) = cnt (ys.take k) (X + a.size) + 1) := hid (by rw [HT.out, cnt_yes hxy])
            have hq : (Y == X + (a.size : Int)) = true := by simp [hxy]
            generalize cnt (ys.take k) (X + a.size) = cc at hc HR
            clear hxy HT
            go_wp2
            go_quiet (fail)
            go_wp2
            go_roundw
            case rel => exact ⟨k + 1, _, by omega, by rw [HR.out]; go_num, by go_num, by first | rfl | (simp only [World.drewN_drewN]; rfl)⟩
            case measure => simp [intOf]; omega
          · have HR : Hid (cnt (ys.take (k + 1)) (X + a.size) = cnt (ys.take k) (X + a.size)) := hid (by rw [HT.out, cnt_no hxy])
            have hq : (Y == X + (a.size : Int)) = false := by simpa using hxy
            generalize cnt (ys.take k) (X + a.size) = cc at hc HR
            clear hxy HT
            go_wp2
            go_quiet (fail)
            go_wp2
            go_roundw
            case rel => exact ⟨k + 1, _, by omega, by rw [HR.out], by go_num, by first | rfl | (simp only [World.drewN_drewN]; rfl)⟩
            case measure => simp [intOf]; omega
        · have he : cnt (ys.take k) (X + a.size) = cnt ys (X + a.size) := by rw [List.take_of_length_le (by omega)]
          rw [he]
          clear he
          go_wp2
          go_roundw
          case rel => exact ⟨i + 1, _, by omega, by rw [HN.out], by go_num, rfl⟩
          case measure => simp [intOf]; omega
    · have he : prs a.size (xs.take i) ys = ls.length := by rw [List.take_of_length_le (by omega)]; exact HP.out
      rw [he]
      clear he
      go_wp2
      go_ret
      exact ⟨rfl, below_drewN hb4 _⟩
end Go.Proofs.Ytdlekgockdahfaa
