/-
  The walk of FindParts: it returns true for every two texts and word, and leaves the old memory alone. Conditions: the row's own sizes, and that the two texts' lengths have a sum that is an int (the row's own reach).
-/
import Derived.Test.YtdlekgockdahfaaFfact
import Derived.Test.YtdlekgockdahfaaOcc2
import Derived.Test.YtdlekgockdahfaaApart
import Derived.Laws.Concat
namespace Go.Proofs.Ytdlekgockdahfaa
open Go.RowKit

theorem parts_bad (a b u : ByteArray) (k : Int) (w : World) (h : BadW (a ++ b) u k) (hab : a.size + b.size ≤ 9223372036854775807) (hu : u.size ≤ maxLen) :
    Calls Try.prog 4 #[.string a, .string b, .string u] w fun e w' => e = .returned (.bool true) ∧ Below w.heap.size w w' := by
  have HL := fun w => hid (fall_bad (a ++ b) u k w h (by rw [size_join]; unfold maxLen; omega) hu)
  have hadd := fun w => run_string_add_sum (P := Try.prog) w a b hab
  generalize a ++ b = ab at HL hadd
  unfold maxLen at hu
  clear h
  go_enter Try.func4, Try.ntmps4
  go_wp2_with fail
  refine (ffact_any _).mono ?_
  rintro e w1 ⟨rfl, hb1⟩
  go_wp2_with fail
  refine (HL _).out.mono ?_
  rintro e w2 ⟨rfl, rfl⟩
  go_wp2
  go_ret
  exact ⟨rfl, hb1⟩

theorem keep_yes {na m x : Int} {xs : List Int} (h : x + m ≤ na ∨ na ≤ x) : (xs ++ [x]).filter (keepB na m) = xs.filter (keepB na m) ++ [x] := by
  have : keepB na m x = true := by simp only [keepB, Bool.or_eq_true, decide_eq_true_eq]; exact h
  simp [this]
theorem keep_no {na m x : Int} {xs : List Int} (h : ¬ (x + m ≤ na ∨ na ≤ x)) : (xs ++ [x]).filter (keepB na m) = xs.filter (keepB na m) := by
  have : keepB na m x = false := by
    rw [← Bool.not_eq_true]; simp only [keepB, Bool.or_eq_true, decide_eq_true_eq]; exact h
  simp [this]

set_option maxHeartbeats 1600000 in
theorem parts_any (a b u : ByteArray) (w : World) (h1 : a.size + b.size ≤ 24) (h2 : u.size ≤ 24) (h0 : 0 < u.size) :
    Calls Try.prog 4 #[.string a, .string b, .string u] w fun e w' => e = .returned (.bool true) ∧ Below w.heap.size w w' := by
  obtain ⟨i0, hi, hz0, hz1, hz2⟩ := info_parts int_info
  have HL := fun w => hid (fall_any (a ++ b) u w (by rw [size_join]; omega) h2 h0)
  have HX := fun w => hid (fall_any a u w (by omega) h2 h0)
  have HY := fun w => hid (fall_any b u w (by omega) h2 h0)
  have hadd := fun w => run_string_add_sum (P := Try.prog) w a b (by omega)
  have HC := hid (occ_cut a b u)
  have hl1 : (occL (a ++ b) u).length ≤ 24 := Nat.le_trans (occL_len _ _) (by rw [size_join]; omega)
  have hl2 : (occL a u).length ≤ 24 := Nat.le_trans (occL_len _ _) (by omega)
  have hl3 : (occL b u).length ≤ 24 := Nat.le_trans (occL_len _ _) (by omega)
  have HB1 : Hid (∀ i, i < (occL (a ++ b) u).length → 0 ≤ (occL (a ++ b) u).getD i 0 ∧ (occL (a ++ b) u).getD i 0 ≤ 24) := hid fun i hi => by
    obtain ⟨p, e, hp, _⟩ := occ_at hi
    rw [size_join] at hp
    omega
  have HB2 : Hid (∀ i, i < (occL b u).length → 0 ≤ (occL b u).getD i 0 ∧ (occL b u).getD i 0 ≤ 24) := hid fun i hi => by
    obtain ⟨p, e, hp, _⟩ := occ_at hi
    omega
  generalize occL (a ++ b) u = ls at HL HC hl1 HB1
  generalize occL a u = xs at HX HC hl2
  generalize occL b u = ys at HY HC hl3 HB2
  generalize a ++ b = ab at HL hadd
  go_enter Try.func4, Try.ntmps4
  go_wp2_with fail
  refine (ffact_any _).mono ?_
  rintro e w1 ⟨rfl, hb1⟩
  have hs1 := hb1.size
  go_wp2_with fail
  refine (HL _).out.mono ?_
  rintro e w2 ⟨v2, rfl, ho2, hb2⟩
  obtain ⟨A, ca, rfl, _, hIL⟩ := IsInts.of_own ho2
  have hb2 := hb1.trans (hb2.mono hs1)
  have hs2 := hb2.size
  clear ho2 hb1 HL hs1 hadd
  go_wp2_with fail
  refine (HX _).out.mono ?_
  rintro e w3 ⟨v3, rfl, ho3, hb3⟩
  have hs3 := hb3.size
  have hIL := hIL.below hb3
  have hb3 := hb2.trans (hb3.mono hs2)
  clear hb2 HX
  go_wp2_with fail
  refine (HY _).out.mono ?_
  rintro e w4 ⟨v4, rfl, ho4, hb4⟩
  obtain ⟨A4, c4, rfl, _, hIY⟩ := IsInts.of_own ho4
  have hs4 := hb4.size
  have HIL := hid (hIL.below (hb4.mono hs3))
  have HOUT : ∀ hi, Out v3 w3.heap.size hi := fun hi => ho3.out (Nat.le_refl _)
  have ho3 := ho3.below hb4 (Nat.le_refl _)
  have hb4 := hb3.trans (hb4.mono (Nat.le_trans hs2 hs3))
  have HO4 := hid ho4
  have HO3 := hid ho3
  clear hb3 HY hIL hIY ho4 ho3
  go_wp2
  go_loopw [14, 15] (fun v x wr => ∃ k : Nat, k ≤ ls.length ∧ x = .int .i64 k ∧ OwnI wr w4.heap.size 3 v ((ls.take k).filter (keepB a.size u.size)) ∧ Below w4.heap.size w4 wr) (fun _ x _ => ls.length - (intOf x).toNat)
  case atStart => exact ⟨0, by omega, rfl, OwnI.nil _ _ _, Below.refl _ _⟩
  case round =>
    obtain ⟨k, hk, rfl, hown, hb⟩ := hrel
    have hsz := hb.size
    by_cases hlt : k < ls.length
    · obtain ⟨g, off, rfl, hg, hca⟩ := HIL.out.2 (by omega)
      have hx := hca k hlt
      rw [← hb.cell (by show g < _; omega)] at hx
      obtain ⟨hx0, hx1⟩ := HB1.out k hlt
      have HN := hid (take_next hlt)
      have hlen : ((ls.take k).filter (keepB a.size u.size)).length ≤ 24 := Nat.le_trans (List.length_filter_le _ _) (by rw [List.length_take]; omega)
      generalize ls.getD k 0 = X at hx hx0 hx1 HN
      clear hca
      by_cases hc1 : X + (u.size : Int) ≤ a.size
      · have HR : Hid ((ls.take (k + 1)).filter (keepB a.size u.size) = (ls.take k).filter (keepB a.size u.size) ++ [X]) := hid (by rw [HN.out, keep_yes (.inl hc1)])
        generalize (ls.take k).filter (keepB a.size u.size) = cs at hown HR hlen
        clear HN
        go_wp2_with (at_builtin; refine wpList_append_int _ rfl (.tmp 76) (.tmp 81) 23 rfl w4.heap.size 3 i0 Try.underlying23 hi hz0 hz1 hz2 _ cs rfl hown X rfl (by omega) (by omega) ?_)
        intro v' w5 hown5 hb5
        go_wp2
        go_roundw
        case rel => exact ⟨k + 1, by omega, by go_num, by rw [HR.out]; exact hown5, hb.trans hb5⟩
        case measure => simp [intOf]; omega
      · by_cases hc2 : (a.size : Int) ≤ X
        · have HR : Hid ((ls.take (k + 1)).filter (keepB a.size u.size) = (ls.take k).filter (keepB a.size u.size) ++ [X]) := hid (by rw [HN.out, keep_yes (.inr hc2)])
          generalize (ls.take k).filter (keepB a.size u.size) = cs at hown HR hlen
          clear HN
          go_wp2_with (at_builtin; refine wpList_append_int _ rfl (.tmp 76) (.tmp 81) 23 rfl w4.heap.size 3 i0 Try.underlying23 hi hz0 hz1 hz2 _ cs rfl hown X rfl (by omega) (by omega) ?_)
          intro v' w5 hown5 hb5
          go_wp2
          go_roundw
          case rel => exact ⟨k + 1, by omega, by go_num, by rw [HR.out]; exact hown5, hb.trans hb5⟩
          case measure => simp [intOf]; omega
        · have HR : Hid ((ls.take (k + 1)).filter (keepB a.size u.size) = (ls.take k).filter (keepB a.size u.size)) := hid (by rw [HN.out, keep_no (by omega)])
          generalize (ls.take k).filter (keepB a.size u.size) = cs at hown HR hlen
          clear HN
          go_wp2
          go_roundw
          case rel => exact ⟨k + 1, by omega, by go_num, by rw [HR.out]; exact hown, hb⟩
          case measure => simp [intOf]; omega
    · have he : (ls.take k).filter (keepB a.size u.size) = xs ++ ys.map (· + (a.size : Int)) := by rw [List.take_of_length_le (by omega)]; exact HC.out
      rw [he] at hown
      have hO3 := HO3.out.below hb (Nat.le_refl _)
      have hO4 := HO4.out.below hb (Nat.le_refl _)
      obtain ⟨A6, c6, rfl, _, hI6⟩ := IsInts.of_own hown
      have hO4 : OwnI wr w3.heap.size 3 (.slice A4 ys.length c4) ys := hO4
      have hO6 : OwnI wr w3.heap.size 3 (.slice A6 (xs ++ ys.map (· + (a.size : Int))).length c6) (xs ++ ys.map (· + (a.size : Int))) := hown.base hs4
      generalize hn6 : (xs ++ ys.map (· + (a.size : Int))).length = n6 at hO6 ⊢
      have hm6 : n6 ≤ 48 := by rw [← hn6, List.length_append, List.length_map]; omega
      have hb6 := hb4.trans (hb.mono (by omega))
      have hs6 := hb6.size
      have HQ4 := hid hO4
      have HQ6 := hid hO6
      have hout6 := HOUT wr.heap.size
      obtain ⟨wz, hwz⟩ : ∃ z, z = wr := ⟨_, rfl⟩
      subst hwz
      clear HIL HO4 HO3 HB1 hO4 hO6 hI6 hown hb he HC HOUT hn6
      go_wp2
      go_loopw [10, 16] (fun v x wr => ∃ k : Nat, k ≤ ys.length ∧ x = .int .i64 k ∧ OwnI wr w2.heap.size 3 v (xs ++ (ys.take k).map (· + (a.size : Int))) ∧ Out v w3.heap.size wz.heap.size ∧ Kept w3.heap.size wz.heap.size wz wr ∧ Below w2.heap.size wz wr) (fun _ x _ => ys.length - (intOf x).toNat)
      case atStart => exact ⟨0, by omega, rfl, by simpa using hO3, hout6, Kept.refl _ _ _, Below.refl _ _⟩
      case round =>
        obtain ⟨k, hk, rfl, hown, hout, hkept, hb⟩ := hrel
        have hsz7 := hb.size
        by_cases hlt : k < ys.length
        · obtain ⟨g, off, rfl, hg, hca⟩ := (HQ4.out.kept hkept (Nat.le_refl _)).ints.2.2 (by omega)
          have hx := hca k hlt
          obtain ⟨hx0, hx1⟩ := HB2.out k hlt
          have HN := hid (take_next hlt)
          have hlen : (xs ++ (ys.take k).map (· + (a.size : Int))).length ≤ 48 := by rw [List.length_append, List.length_map, List.length_take]; omega
          generalize ys.getD k 0 = X at hx hx0 hx1 HN
          have HR : Hid (xs ++ (ys.take (k + 1)).map (· + (a.size : Int)) = xs ++ (ys.take k).map (· + (a.size : Int)) ++ [X + (a.size : Int)]) := hid (by rw [HN.out]; simp)
          generalize xs ++ (ys.take k).map (· + (a.size : Int)) = cs at hown HR hlen
          clear hca HN
          go_wp2_with (at_builtin; refine wpList_append_apart _ rfl (.tmp 89) (.tmp 97) 23 rfl w2.heap.size 3 i0 Try.underlying23 hi hz0 hz1 hz2 _ cs rfl hown (X + (a.size : Int)) rfl (by omega) (by omega) w3.heap.size wz.heap.size hout (by omega) ?_)
          intro v' w8 hown8 hb8 hout8 hkept8
          go_wp2
          go_roundw
          case rel => exact ⟨k + 1, by omega, by go_num, by rw [HR.out]; exact hown8, hout8, hkept.trans hkept8, hb.trans hb8⟩
          case measure => simp [intOf]; omega
        · rw [List.take_of_length_le (by omega)] at hown
          have hlen : (xs ++ ys.map (· + (a.size : Int))).length ≤ 48 := by rw [List.length_append, List.length_map]; omega
          have hI6 := (HQ6.out.kept hkept (Nat.le_refl _)).ints.2
          generalize xs ++ ys.map (· + (a.size : Int)) = cs at hown hlen hI6
          obtain ⟨A7, c7, rfl, _, hI7⟩ := IsInts.of_own hown
          have HI := hid (ints_ok A6 A7 n6 cs.length c6 c7 cs wr _ _ (by omega) (by omega) hI6 hI7)
          have hb9 := hb6.trans (hb.mono hs2)
          generalize cs.length = n7 at HI hlen ⊢
          clear hown hI6 hI7 HQ4 HQ6 hkept hout
          go_wp2_with fail
          refine HI.out.mono ?_
          rintro e w9 ⟨rfl, hb10⟩
          go_wp2
          go_ret
          exact ⟨rfl, hb9.trans (hb10.mono hb9.size)⟩
end Go.Proofs.Ytdlekgockdahfaa
