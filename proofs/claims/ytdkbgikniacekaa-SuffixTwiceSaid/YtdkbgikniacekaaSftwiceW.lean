/-
  The walk of SuffixTwice: it returns true for every text and every two numbers, and leaves the old memory alone. No condition but the row's own size.
-/
import Derived.Test.YtdkbgikniacekaaSffact
import Derived.Test.YtdkbgikniacekaaSufB
import Derived.Test.YtdkbgikniacekaaStands
import Derived.Test.YtdkbgikniacekaaIn2
namespace Go.Proofs.Ytdkbgikniacekaa
open Go.RowKit

theorem bs_mid (s : ByteArray) (a n : Nat) : bs (s.extract a (a + n)) = ((bs s).drop a).take n := by
  unfold bs
  rw [ByteArray.data_extract, Array.toList_extract, List.extract_eq_take_drop, Nat.add_sub_cancel_left]
theorem twice_iff {s u : ByteArray} : 2 ≤ (occL s u).length ↔ ∃ p q, p < q ∧ q < s.size ∧ bs u <+: (bs s).drop p ∧ bs u <+: (bs s).drop q := by
  rw [occ_cnB, two_le]
  constructor
  · rintro ⟨p, q, h1, h2, h3, h4⟩
    exact ⟨p, q, h1, h2, (obB_iff (by omega)).1 h3, (obB_iff (by omega)).1 h4⟩
  · rintro ⟨p, q, h1, h2, h3, h4⟩
    exact ⟨p, q, h1, h2, (obB_iff (by omega)).2 h3, (obB_iff (by omega)).2 h4⟩
theorem twice_some {s : ByteArray} {o : List Nat} {h : Nat} (hO : Ord (bs s) o) (hm : Most (bs s) o (s.size - 1) h) (h0 : 0 < h) : ∃ p, p + h ≤ s.size ∧ 2 ≤ (occL s (s.extract p (p + h))).length := by
  rw [← bs_len] at hm
  obtain ⟨p, q, hne, hp, hq, hph, hpre⟩ := twice_ex hO hm h0
  rw [bs_len] at hp hq hph
  refine ⟨p, hph, twice_iff.2 ?_⟩
  rw [bs_mid]
  rcases Nat.lt_or_ge p q with h1 | h1
  · exact ⟨p, q, h1, hq, List.take_prefix _ _, hpre⟩
  · exact ⟨q, p, by omega, hp, hpre, List.take_prefix _ _⟩
theorem twice_most {s : ByteArray} {o : List Nat} {h i k : Nat} (hO : Ord (bs s) o) (hm : Most (bs s) o (s.size - 1) h) (hik : i + k ≤ s.size) (h2 : 2 ≤ (occL s (s.extract i (i + k))).length) : k ≤ h := by
  rw [← bs_len] at hm
  obtain ⟨p, q, h3, h4, h5, h6⟩ := twice_iff.1 h2
  have := twice_le hO hm h3 (by rw [bs_len]; exact h4) h5 h6
  rw [bs_len, ByteArray.size_extract] at this
  omega
theorem most_le {s : ByteArray} {o : List Nat} {m h : Nat} (hm : Most (bs s) o m h) : h ≤ s.size := by
  rcases hm.2 with e | ⟨k, _, e⟩
  · omega
  · have := lcp_le (bs s) o k
    rw [bs_len] at this
    omega

set_option maxHeartbeats 400000 in
theorem sftwice_long (s : ByteArray) (i k : Int) (w : World) (h : 24 < s.size) (hs : s.size ≤ maxLen) :
    Calls Try.prog 7 #[.string s, .int .i64 i, .int .i64 k] w fun e w' => e = .returned (.bool true) ∧ Below w.heap.size w w' := by
  have H1 := fun W => hid (salike_long s W h hs)
  unfold maxLen at hs
  go_enter Try.func7, Try.ntmps7
  go_wp2_with fail
  refine (sffact_any _).mono ?_
  rintro e w1 ⟨rfl, hb1⟩
  go_wp2_with fail
  refine (H1 _).out.mono ?_
  rintro e w2 ⟨rfl, hb2⟩
  have hbw := Below.on hb1 hb2 (Nat.le_refl _)
  clear H1 hb1 hb2
  go_wp2
  go_ret
  exact ⟨rfl, hbw⟩
set_option maxRecDepth 100000 in
set_option maxHeartbeats 4000000 in
theorem sftwice_short (s : ByteArray) (i k : Int) (w : World) (hs : s.size ≤ 24) :
    Calls Try.prog 7 #[.string s, .int .i64 i, .int .i64 k] w fun e w' => e = .returned (.bool true) ∧ Below w.heap.size w w' := by
  have H1 := fun W => hid (salike_any s W hs)
  go_enter Try.func7, Try.ntmps7
  go_wp2_with fail
  refine (sffact_any _).mono ?_
  rintro e w1 ⟨rfl, hb1⟩
  go_wp2_with fail
  refine (H1 _).out.mono ?_
  rintro e w2 ⟨v, o, rfl, hO, hown, hb2⟩
  have hbw := Below.on hb1 hb2 (Nat.le_refl _)
  obtain ⟨A, c, rfl, hI⟩ := own_n hown (nbTo_len (bs s) o (s.size - 1))
  have HO := hid hO
  have HI := hid hI
  have HE : Hid (∀ h, Most (bs s) o (s.size - 1) h → 0 < h → ∃ p, p + h ≤ s.size ∧ 2 ≤ (occL s (s.extract p (p + h))).length) := hid fun h hm h0 => twice_some hO hm h0
  have HL : Hid (∀ h, Most (bs s) o (s.size - 1) h → ∀ i k, i + k ≤ s.size → 2 ≤ (occL s (s.extract i (i + k))).length → k ≤ h) := hid fun h hm i k h1 h2 => twice_most hO hm h1 h2
  have hM : s.size - 1 ≤ 24 := by omega
  clear H1 hb1 hb2 hown hI hO
  generalize s.size - 1 = M at HI HE HL hM ⊢
  go_wp2_with fail
  go_loopw [10, 11] (fun a x wr => ∃ j h : Nat, j ≤ M ∧ h ≤ s.size ∧ a = .int .i64 h ∧ x = .int .i64 j ∧ Hid (Most (bs s) o j h) ∧ wr = w2) (fun _ x _ => M - (intOf x).toNat)
  case atStart => exact ⟨0, 0, by omega, by omega, rfl, rfl, hid (most_start _ _), rfl⟩
  case round =>
    obtain ⟨j, h, hj, hh, rfl, rfl, HMo, hwr⟩ := hrel
    subst wr
    by_cases hlt : j < M
    · obtain ⟨g, off, rfl, _, hcell⟩ := HI.out.2 (by omega)
      have hx := hcell j hlt
      rw [nbTo_at _ _ hlt] at hx
      by_cases hgt : h < lcp (bs s) o j
      · have HM2 := hid (most_new HMo.out hgt)
        have hl2 := most_le HM2.out
        generalize lcp (bs s) o j = y at hx hgt HM2 hl2
        clear hcell HMo
        go_wp2_with fail
        go_roundw
        case rel => exact ⟨j + 1, y, by omega, hl2, rfl, by go_num, HM2, by first | rfl | trivial⟩
        case measure => simp [intOf]; omega
      · have HM2 := hid (most_keep HMo.out (by omega))
        generalize lcp (bs s) o j = y at hx hgt
        clear hcell HMo
        go_wp2_with fail
        go_roundw
        case rel => exact ⟨j + 1, h, by omega, hh, rfl, by go_num, HM2, by first | rfl | trivial⟩
        case measure => simp [intOf]; omega
    · obtain rfl : j = M := by omega
      have HEX := hid (HE.out h HMo.out)
      have HLE := hid (HL.out h HMo.out)
      clear HE HL HMo HI HO
      obtain ⟨d0, hd0, hd1⟩ : ∃ d : Bool, ((h : Int) == 0) = d ∧ decide (h = 0) = d := ⟨decide (h = 0), by by_cases e : h = 0 <;> simp [e], rfl⟩
      have hsl : decide (s.size < h) = false := by simp; omega
      go_wp2_with fail
      go_loopw [12, 13] (fun a x wr => ∃ (p : Nat) (d : Bool), p ≤ s.size + 1 ∧ a = .bool d ∧ x = .int .i64 p ∧ Hid (d = true ↔ h = 0 ∨ ∃ p', p' < p ∧ 2 ≤ (occL s (s.extract p' (p' + h))).length) ∧ Below w.heap.size w wr) (fun _ x _ => s.size + 1 - (intOf x).toNat)
      case atStart => exact ⟨0, d0, by omega, by first | rfl | (rw [hd0]), rfl, hid (by rw [← hd1]; simp), hbw⟩
      case round =>
        obtain ⟨p, d, hp, rfl, rfl, HD, hbr⟩ := hrel
        by_cases hcn : p + h ≤ s.size ∧ 0 < h
        · obtain ⟨hph, hh0⟩ := hcn
          have g1 : (p : Int) + (h : Int) ≤ (s.size : Int) := by omega
          have g2 : decide (p + h ≤ s.size) = true := by simpa using hph
          have g3 : decide (0 < h) = true := by simpa using hh0
          cases d with
          | true =>
            have HD2 : Hid (true = true ↔ h = 0 ∨ ∃ p', p' < p + 1 ∧ 2 ≤ (occL s (s.extract p' (p' + h))).length) := hid ⟨fun _ => (HD.out.1 rfl).imp_right fun ⟨p', a, b⟩ => ⟨p', by omega, b⟩, fun _ => rfl⟩
            clear HD HEX HLE
            go_wp2_with fail
            go_roundw
            case rel => exact ⟨p + 1, true, by omega, rfl, by go_num, HD2, hbr⟩
            case measure => simp [intOf]; omega
          | false =>
            have hcut : ∀ W : World, Sem.run Try.prog (Instr.slice 9 (.string s) (some (.int .i64 (p : Int))) (some (.int .i64 ((p : Int) + (h : Int)))) none) W = .ok (.string (s.extract p (p + h))) W := fun W =>
              run_slice_string W 9 s .i64 .i64 (p : Int) ((p : Int) + (h : Int)) Try.underlying9 (by omega) (by omega) (by omega)
            have H6 := fun W => hid (stands_any s (s.extract p (p + h)) W (by omega) (by rw [ByteArray.size_extract]; omega))
            obtain ⟨n, hn⟩ : ∃ n, (occL s (s.extract p (p + h))).length = n := ⟨_, rfl⟩
            have hn24 : n ≤ 24 := by have := occL_len s (s.extract p (p + h)); omega
            have HD2 : Hid (decide (1 < n) = true ↔ h = 0 ∨ ∃ p', p' < p + 1 ∧ 2 ≤ (occL s (s.extract p' (p' + h))).length) := hid (by
              rw [decide_eq_true_eq]
              constructor
              · exact fun e => .inr ⟨p, by omega, by omega⟩
              · rintro (e | ⟨p', a, b⟩)
                · omega
                · by_cases e : p' = p
                  · subst e; omega
                  · have := HD.out.2 (.inr ⟨p', by omega, b⟩); cases this)
            have HN := hid hn
            generalize s.extract p (p + h) = t1 at hcut H6 HN
            clear hn HD HEX HLE
            go_wp2_with fail
            refine (H6 _).out.mono ?_
            rintro e w6 ⟨v, rfl, ho, hb6⟩
            obtain ⟨A6, c6, rfl, _⟩ := own_n ho HN.out
            have hbq := Below.on hbr hb6 (Nat.le_refl _)
            clear H6 ho hb6 hbr hcut HN
            go_wp2_with fail
            go_roundw
            case rel => exact ⟨p + 1, decide (1 < n), by omega, by rw [show decide ((1 : Int) < (n : Int)) = decide (1 < n) from decide_eq_decide.2 (by omega)], by go_num, HD2, hbq⟩
            case measure => simp [intOf]; omega
        · have hdt : d = true := by
            rw [HD.out]
            rcases Nat.eq_zero_or_pos h with e | e
            · exact .inl e
            · obtain ⟨p', a, b⟩ := HEX.out e
              exact .inr ⟨p', by omega, b⟩
          subst hdt
          clear HD HEX
          by_cases hc1 : p + h ≤ s.size
          have g1 : decide (p + h ≤ s.size) = true := by simpa using hc1
          have g2 : (p : Int) + (h : Int) ≤ (s.size : Int) := by omega
          have g3 : decide (0 < h) = false := by simp; omega
          clear hcn
          go_wp2_with fail
          rotate_left
          have g1 : decide (p + h ≤ s.size) = false := by simpa using hc1
          have g2 : ¬ (p : Int) + (h : Int) ≤ (s.size : Int) := by omega
          clear hcn
          go_wp2_with fail
          all_goals
            by_cases hi : 0 ≤ i ∧ i ≤ (s.size : Int)
            · refine (in_yes i 0 (s.size : Int) _ hi.1 hi.2).mono ?_
              rintro e w4 ⟨rfl, hw4⟩
              subst w4
              obtain ⟨i, rfl⟩ : ∃ i' : Nat, i = i' := ⟨i.toNat, by omega⟩
              go_wp2_with fail
              by_cases hk : 1 ≤ k ∧ k ≤ (s.size : Int) - (i : Int)
              · refine (in_yes k 1 ((s.size : Int) - (i : Int)) _ hk.1 hk.2).mono ?_
                rintro e w4 ⟨rfl, hw4⟩
                subst w4
                obtain ⟨k, rfl⟩ : ∃ k' : Nat, k = k' := ⟨k.toNat, by omega⟩
                have hik : i + k ≤ s.size := by omega
                have hcut : ∀ W : World, Sem.run Try.prog (Instr.slice 9 (.string s) (some (.int .i64 (i : Int))) (some (.int .i64 ((i : Int) + (k : Int)))) none) W = .ok (.string (s.extract i (i + k))) W := fun W =>
                  run_slice_string W 9 s .i64 .i64 (i : Int) ((i : Int) + (k : Int)) Try.underlying9 (by omega) (by omega) (by omega)
                have H6 := fun W => hid (stands_any s (s.extract i (i + k)) W (by omega) (by rw [ByteArray.size_extract]; omega))
                obtain ⟨n, hn⟩ : ∃ n, (occL s (s.extract i (i + k))).length = n := ⟨_, rfl⟩
                have hn24 : n ≤ 24 := by have := occL_len s (s.extract i (i + k)); omega
                have hor : n < 2 ∨ (¬ n < 2 ∧ k ≤ h) := by
                  by_cases e : n < 2
                  · exact .inl e
                  · exact .inr ⟨e, HLE.out i k hik (by omega)⟩
                have HN := hid hn
                generalize s.extract i (i + k) = t1 at hcut H6 HN
                clear hn HLE hi hk
                go_wp2_with fail
                refine (H6 _).out.mono ?_
                rintro e w6 ⟨v, rfl, ho, hb6⟩
                obtain ⟨A6, c6, rfl, _⟩ := own_n ho HN.out
                have hbq := Below.on hbr hb6 (Nat.le_refl _)
                clear H6 ho hb6 hbr hcut HN
                rcases hor with h5 | ⟨h5, h6⟩
                · have e1 : decide (n < 2) = true := by simpa using h5
                  go_wp2_with fail
                  go_ret
                  exact ⟨rfl, hbq⟩
                · have e1 : decide (n < 2) = false := by simpa using h5
                  go_wp2_with fail
                  go_ret
                  exact ⟨rfl, hbq⟩
              · refine (in_not k 1 ((s.size : Int) - (i : Int)) _ hk).mono ?_
                rintro e w4 ⟨rfl, hw4⟩
                subst w4
                clear HLE hi hk
                go_wp2_with fail
                go_ret
                exact ⟨rfl, hbr⟩
            · refine (in_not i 0 (s.size : Int) _ hi).mono ?_
              rintro e w4 ⟨rfl, hw4⟩
              subst w4
              clear HLE hi
              go_wp2_with fail
              go_ret
              exact ⟨rfl, hbr⟩
theorem sftwice_any (s : ByteArray) (i k : Int) (w : World) (hs : s.size ≤ maxLen) :
    Calls Try.prog 7 #[.string s, .int .i64 i, .int .i64 k] w fun e w' => e = .returned (.bool true) ∧ Below w.heap.size w w' := by
  by_cases h : s.size ≤ 24
  · exact sftwice_short s i k w h
  · exact sftwice_long s i k w (by omega) hs
end Go.Proofs.Ytdkbgikniacekaa
