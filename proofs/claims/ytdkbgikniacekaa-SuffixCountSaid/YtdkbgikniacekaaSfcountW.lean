/-
  The walk of SuffixCount: it returns true for every text and byte, and leaves the old memory alone. No condition but the row's own size.
-/
import Derived.Test.YtdkbgikniacekaaSffact
import Derived.Test.YtdkbgikniacekaaSufB
import Derived.Test.YtdkbgikniacekaaStands
import Derived.Test.YtdkbgikniacekaaBack
import Derived.Test.YtdkbgikniacekaaOneT
import Derived.Test.YtdkbgikniacekaaIn2
import Derived.Laws.Concat
namespace Go.Proofs.Ytdkbgikniacekaa
open Go.RowKit

theorem bs_back (s : ByteArray) : bs (backS s s.size) = (bs s).reverse := by
  unfold bs backS
  rw [List.take_of_length_le (by rw [Array.length_toList]; exact Nat.le_refl _)]
theorem bs_add (s : ByteArray) (c : UInt8) : bs (s ++ oneT c) = bs s ++ [c] := by
  unfold bs oneT
  rw [ByteArray.data_append, Array.toList_append]
theorem cnB_zero {B : Nat → Bool} {n : Nat} : cnB B n = 0 ↔ ∀ i, i < n → B i = false := by
  unfold cnB
  rw [List.length_eq_zero_iff, List.filter_eq_nil_iff]
  exact ⟨fun h i hi => by simpa using h i (List.mem_range.2 hi), fun h i hi => by simp [h i (List.mem_range.1 hi)]⟩
theorem stands_none {t u : ByteArray} (h0 : 0 < u.size) : (occL t u).length = 0 ↔ ¬ bs u <:+: bs t := by
  rw [occ_cnB, cnB_zero, infix_drop]
  constructor
  · rintro h ⟨i, hi, hp⟩
    have hl := hp.length_le
    rw [List.length_drop, bs_len, bs_len] at hl
    have hit : i < t.size := by rw [bs_len] at hi; omega
    have := h i hit
    rw [(obB_iff (by omega)).2 hp] at this; cases this
  · intro h i hi
    rw [← Bool.not_eq_true, obB_iff (by omega)]
    exact fun hp => h ⟨i, by rw [bs_len]; omega, hp⟩
/-- Is the end of t from place i on new, no text of s? -/
def newB (s t : ByteArray) (i : Nat) : Bool := decide ((occL s (t.extract i t.size)).length = 0)
theorem newB_iff {s t : ByteArray} {i : Nat} (hi : i < t.size) : newB s t i = true ↔ ¬ (bs t).drop i <:+: bs s := by
  unfold newB
  rw [decide_eq_true_eq, stands_none (by rw [ByteArray.size_extract]; omega), bs_drop]
theorem count_more (s : ByteArray) (c : UInt8) : cN (bs (s ++ oneT c)) = cN (bs s) + cnB (newB s (s ++ oneT c)) (s ++ oneT c).size ∧ 1 ≤ cnB (newB s (s ++ oneT c)) (s ++ oneT c).size := by
  have hz : (s ++ oneT c).size = s.size + 1 := by rw [ByteArray.size_append]; rfl
  have hn : ∀ i, i < (bs s).length + 1 → (newB s (s ++ oneT c) i = true ↔ ¬ (bs s ++ [c]).drop i <:+: bs s) := fun i hi => by
    rw [newB_iff (by rw [hz]; rw [bs_len] at hi; exact hi), bs_add]
  constructor
  · rw [bs_add, cN_more (bs s) c _ hn, hz, bs_len]; rfl
  · rcases Nat.eq_zero_or_pos (cnB (newB s (s ++ oneT c)) (s ++ oneT c).size) with h | h
    · have := cnB_zero.1 h 0 (by rw [hz]; omega)
      rw [(hn 0 (by omega)).2 (long_new _ _)] at this; cases this
    · exact h

set_option maxHeartbeats 400000 in
theorem sfcount_long (s : ByteArray) (c : UInt8) (w : World) (h : 24 < s.size) (hs : s.size ≤ maxLen) :
    Calls Try.prog 6 #[.string s, .int .u8 (c.toNat : Int)] w fun e w' => e = .returned (.bool true) ∧ Below w.heap.size w w' := by
  have H1 := fun W => hid (scount_long s W h hs)
  unfold maxLen at hs
  go_enter Try.func6, Try.ntmps6
  go_wp2_with fail
  refine (sffact_any _).mono ?_
  rintro e w1 ⟨rfl, hb1⟩
  go_wp2_with fail
  refine (H1 _).out.mono ?_
  rintro e w2 ⟨rfl, hb2⟩
  have hbw := Below.on hb1 hb2 (Nat.le_refl _)
  clear H1 hb1 hb2
  go_wp2
  go_ret
  exact ⟨rfl, hbw⟩
set_option maxRecDepth 100000 in
set_option maxHeartbeats 1600000 in
theorem sfcount_short (s : ByteArray) (c : UInt8) (w : World) (h : s.size ≤ 24) :
    Calls Try.prog 6 #[.string s, .int .u8 (c.toNat : Int)] w fun e w' => e = .returned (.bool true) ∧ Below w.heap.size w w' := by
  have hbz : (backS s s.size).size = s.size := backS_size s s.size (Nat.le_refl _)
  have H1 := fun W => hid (scount_any s W h)
  have H2 := fun W => hid (back_any s W (by unfold maxLen; omega))
  have H3 := fun W => hid (scount_any (backS s s.size) W (by omega))
  rw [bs_back, cN_back] at H3
  have hge := cN_ge (bs s)
  have hle := cN_le (bs s)
  rw [bs_len] at hge hle
  have hmul : s.size * (s.size + 1) ≤ 24 * 25 := Nat.mul_le_mul h (Nat.succ_le_succ h)
  have hcv := fun W : World => run_one (P := Try.prog) W c 35 9 5 Try.underlying35 Try.underlying5 Try.underlying9
  have hz : (s ++ oneT c).size = s.size + 1 := by rw [ByteArray.size_append]; rfl
  have hadd := fun W => run_string_add_sum (P := Try.prog) W s (oneT c) (by rw [show (oneT c).size = 1 from rfl]; omega)
  obtain ⟨hm1, hm2⟩ := count_more s c
  have HM1 := hid hm1
  have HM2 := hid hm2
  have hK : cN (bs s) ≤ 300 := by omega
  clear hmul hle hm1 hm2 hbz
  generalize s ++ oneT c = t at hz hadd HM1 HM2
  generalize oneT c = u at hcv hadd
  generalize backS s s.size = b at H2 H3
  generalize cN (bs s) = K at H1 H3 hge hK HM1
  go_enter Try.func6, Try.ntmps6
  go_wp2_with fail
  refine (sffact_any _).mono ?_
  rintro e w1 ⟨rfl, hb1⟩
  go_wp2_with fail
  refine (H1 _).out.mono ?_
  rintro e w2 ⟨rfl, hb2⟩
  have hbw := Below.on hb1 hb2 (Nat.le_refl _)
  clear H1 hb1 hb2
  go_wp2_with fail
  refine (H2 _).out.mono ?_
  rintro e w3 ⟨rfl, hw3⟩
  subst w3
  clear H2
  go_wp2_with fail
  refine (H3 _).out.mono ?_
  rintro e w3 ⟨rfl, hb3⟩
  have hbx := Below.on hbw hb3 (Nat.le_refl _)
  clear H3 hb3 hbw
  have H4 := fun W => hid (in_yes (K : Int) (s.size : Int) 300 W (by omega) (by omega))
  go_wp2_with fail
  refine (H4 _).out.mono ?_
  rintro e w4 ⟨rfl, hw4⟩
  subst w4
  clear H4
  have hby := hbx.alloc hbx.size (.cells #[.int .u8 (c.toNat : Int)] 5)
  by_cases h24 : s.size = 24
  · have H5 := fun W => hid (scount_long t W (by omega) (by unfold maxLen; omega))
    have hd : ((s.size : Int) == 24) = true := by simp [h24]
    clear h24 hz HM1 HM2
    go_wp2_with fail
    refine (H5 _).out.mono ?_
    rintro e w5 ⟨rfl, hb5⟩
    have hbz := hby.trans (hb5.mono hby.size)
    clear H5 hb5 hby hbx
    go_wp2_with fail
    go_ret
    exact ⟨rfl, hbz⟩
  · have H5 := fun W => hid (scount_any t W (by omega))
    rw [HM1.out] at H5
    have ht24 : t.size ≤ 24 := by omega
    have ht0 : 0 < t.size := by omega
    have hfl := cnB_le (newB s t) t.size
    have HM3 := HM2
    go_wp2_with fail
    refine (H5 _).out.mono ?_
    rintro e w5 ⟨rfl, hb5⟩
    have hbz := hby.trans (hb5.mono hby.size)
    clear H5 hb5 hby hbx hz HM1 hcv hadd
    go_wp2_with fail
    go_loopw [11, 12] (fun f x wr => ∃ i N : Nat, i ≤ t.size ∧ N ≤ i ∧ f = .int .i64 N ∧ x = .int .i64 i ∧ Hid (N = cnB (newB s t) i) ∧ Below w.heap.size w wr) (fun _ x _ => t.size - (intOf x).toNat)
    case atStart => exact ⟨0, 0, by omega, by omega, rfl, rfl, hid rfl, hbz⟩
    case round =>
      obtain ⟨i, N, hi, hN, rfl, rfl, HC, hbr⟩ := hrel
      by_cases hlt : i < t.size
      · have hcut : ∀ W : World, Sem.run Try.prog (Instr.slice 9 (.string t) (some (.int .i64 (i : Int))) none none) W = .ok (.string (t.extract i t.size)) W := fun W =>
          run_slice_string_l W 9 t Try.underlying9 .i64 (i : Int) (by omega) (by omega)
        have H6 := fun W => hid (stands_any s (t.extract i t.size) W (by omega) (by rw [ByteArray.size_extract]; omega))
        obtain ⟨n, hn⟩ : ∃ n, (occL s (t.extract i t.size)).length = n := ⟨_, rfl⟩
        have hnb : newB s t i = decide (n = 0) := by unfold newB; rw [hn]
        have hn24 : n ≤ 24 := by have := occL_len s (t.extract i t.size); omega
        have HN := hid hn
        generalize t.extract i t.size = t1 at hcut H6 HN
        clear hn
        go_wp2_with fail
        refine (H6 _).out.mono ?_
        rintro e w6 ⟨v, rfl, ho, hb6⟩
        obtain ⟨A, cc, rfl, _⟩ := own_n ho HN.out
        have hbq := Below.on hbr hb6 (Nat.le_refl _)
        clear H6 ho hb6 hbr hcut HN hbz
        by_cases hn0 : n = 0
        · have HC2 : Hid (N + 1 = cnB (newB s t) (i + 1)) := hid (by rw [cnB_yes (by rw [hnb]; simpa using hn0), HC.out])
          have hd : ((n : Int) == 0) = true := by simp [hn0]
          clear hnb hn0 HC
          go_wp2_with fail
          go_roundw
          case rel => exact ⟨i + 1, N + 1, by omega, by omega, by go_num, by go_num, HC2, hbq⟩
          case measure => simp [intOf]; omega
        · have HC2 : Hid (N = cnB (newB s t) (i + 1)) := hid (by rw [cnB_no (by rw [hnb]; simpa using hn0), HC.out])
          have hd : ((n : Int) == 0) = false := by simpa using hn0
          clear hnb hn0 HC
          go_wp2_with fail
          go_roundw
          case rel => exact ⟨i + 1, N, by omega, by omega, rfl, by go_num, HC2, hbq⟩
          case measure => simp [intOf]; omega
      · obtain rfl : i = t.size := by omega
        have hN1 : 1 ≤ N := by rw [HC.out]; exact HM3.out
        rw [← HC.out]
        clear HC HM2 HM3 hfl hbz
        have hd : decide (1 ≤ N) = true := by simpa using hN1
        have hq : (((K + N : Nat) : Int) == (K : Int) + (N : Int)) = true := by simp
        go_wp2_with fail
        go_ret
        exact ⟨by first | rfl | exact ret_bool (by simp), hbr⟩
theorem sfcount_any (s : ByteArray) (a : Int) (w : World) (hs : s.size ≤ maxLen) (ha : (Lit.int .u8 a).wf = true) :
    Calls Try.prog 6 #[.string s, .int .u8 a] w fun e w' => e = .returned (.bool true) ∧ Below w.heap.size w w' := by
  obtain ⟨c, rfl⟩ := byte_of ha
  by_cases h : s.size ≤ 24
  · exact sfcount_short s c w h
  · exact sfcount_long s c w (by omega) hs
end Go.Proofs.Ytdkbgikniacekaa
