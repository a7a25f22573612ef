/-
  The walk of SuffixFind: it returns true for every text and word, and leaves the old memory alone. No condition but the row's own sizes.
-/
import Derived.Test.YtdkbgikniacekaaSffact
import Derived.Test.YtdkbgikniacekaaSufB
import Derived.Test.YtdkbgikniacekaaFind
import Derived.Test.YtdkbgikniacekaaIn2
namespace Go.Proofs.Ytdkbgikniacekaa
open Go.RowKit

set_option maxHeartbeats 400000 in
theorem sffind_long (t u : ByteArray) (w : World) (h : 24 < t.size) (ht : t.size ≤ maxLen) (hu : u.size ≤ maxLen) :
    Calls Try.prog 5 #[.string t, .string u] w fun e w' => e = .returned (.bool true) ∧ Below w.heap.size w w' := by
  have H1 := fun W => hid (order_long t W h ht)
  have H2 := fun W => hid (fall_bad t u 4 W (.inl ⟨rfl, .inl h⟩) ht hu)
  unfold maxLen at ht hu
  go_enter Try.func5, Try.ntmps5
  go_wp2_with fail
  refine (sffact_any _).mono ?_
  rintro e w1 ⟨rfl, hb1⟩
  go_wp2_with fail
  refine (H1 _).out.mono ?_
  rintro e w2 ⟨rfl, hb2⟩
  have hbw := Below.on hb1 hb2 (Nat.le_refl _)
  clear H1 hb1 hb2
  go_wp2_with fail
  refine (H2 _).out.mono ?_
  rintro e w3 ⟨rfl, hw3⟩
  subst w3
  clear H2
  go_wp2
  go_ret
  exact ⟨rfl, hbw⟩
set_option maxHeartbeats 400000 in
theorem sffind_bad (t u : ByteArray) (k : Int) (w : World) (h : t.size ≤ 24) (hk : BadW t u k) (ht : t.size ≤ maxLen) (hu : u.size ≤ maxLen) :
    Calls Try.prog 5 #[.string t, .string u] w fun e w' => e = .returned (.bool true) ∧ Below w.heap.size w w' := by
  have H1 := fun W => hid (order_any t W h)
  have H2 := fun W => hid (fall_bad t u k W hk ht hu)
  clear ht hu hk
  go_enter Try.func5, Try.ntmps5
  go_wp2_with fail
  refine (sffact_any _).mono ?_
  rintro e w1 ⟨rfl, hb1⟩
  go_wp2_with fail
  refine (H1 _).out.mono ?_
  rintro e w2 ⟨A, c, o, rfl, _, _, hb2⟩
  have hbw := Below.on hb1 hb2 (Nat.le_refl _)
  clear H1 hb1 hb2
  go_wp2_with fail
  refine (H2 _).out.mono ?_
  rintro e w3 ⟨rfl, hw3⟩
  subst w3
  clear H2
  go_wp2
  go_ret
  exact ⟨rfl, hbw⟩
set_option maxRecDepth 100000 in
set_option maxHeartbeats 1600000 in
theorem sffind_some (t u : ByteArray) (w : World) (h1 : t.size ≤ 24) (h2 : u.size ≤ 24) (h0 : 0 < u.size) :
    Calls Try.prog 5 #[.string t, .string u] w fun e w' => e = .returned (.bool true) ∧ Below w.heap.size w w' := by
  have H1 := fun W => hid (order_any t W h1)
  have H2 := fun W => hid (fall_any t u W h1 h2 h0)
  go_enter Try.func5, Try.ntmps5
  go_wp2_with fail
  refine (sffact_any _).mono ?_
  rintro e w1 ⟨rfl, hb1⟩
  go_wp2_with fail
  refine (H1 _).out.mono ?_
  rintro e w2 ⟨A, c, o, rfl, hO, hI, hb2⟩
  have hbw := Below.on hb1 hb2 (Nat.le_refl _)
  clear H1 hb1 hb2
  go_wp2_with fail
  refine (H2 _).out.mono ?_
  rintro e w3 ⟨v, rfl, ho, hb3⟩
  have hI3 := hI.up hb3
  have hbx := Below.on hbw hb3 (Nat.le_refl _)
  obtain ⟨n, hn⟩ : ∃ n, (occL t u).length = n := ⟨_, rfl⟩
  obtain ⟨A2, c2, rfl, _⟩ := own_n ho hn
  have hn24 : n ≤ 24 := by have := occL_len t u; omega
  have HN := hid ((occ_order (u := u) hO).trans hn)
  have HB := hid (bs_len t)
  have HX : Hid (∀ k, k < t.size → o.getD k 0 < t.size) := hid fun k hk => by have := hO.lt (k := k) (by rw [bs_len]; exact hk); rwa [bs_len] at this
  have HV : Hid (∀ x y z, x < y → y < z → z < t.size → obB t u (o.getD x 0) = true → obB t u (o.getD z 0) = true → obB t u (o.getD y 0) = true) := hid fun x y z a b c d e => occ_stretch hO a b c d e
  have HI := hid hI3
  clear H2 hbw hb3 ho hn hI hI3 hO
  obtain ⟨B, hB⟩ : ∃ B : Nat → Bool, B = fun k => obB t u (o.getD k 0) := ⟨_, rfl⟩
  have HVB : Hid (∀ x y z, x < y → y < z → z < t.size → B x = true → B z = true → B y = true) := hid (by rw [hB]; exact HV.out)
  have HNB : Hid (cnB B t.size = n) := hid (by rw [hB]; exact HN.out)
  have HBE : Hid (∀ k, k < t.size → begB (t.extract (o.getD k 0) t.size) u = B k) := hid fun k hk => by
    rw [hB]; exact beg_cut t u _ (Nat.le_of_lt (HX.out k hk))
  clear HV HN hB
  go_wp2_with fail
  go_loopw [10, 11, 12, 13] (fun f z m x wr => ∃ (i N : Nat) (a b : Int), i ≤ t.size ∧ N ≤ 24 ∧ -1 ≤ a ∧ a ≤ 24 ∧ -1 ≤ b ∧ b ≤ 24 ∧ f = .int .i64 a ∧ z = .int .i64 b ∧ m = .int .i64 N ∧ x = .int .i64 i ∧ Hid (N = cnB B i) ∧ Hid (Strch B i a b) ∧ wr = w3) (fun _ _ _ x _ => t.size - (intOf x).toNat)
  case atStart => exact ⟨0, 0, -1, -1, by omega, by omega, by omega, by omega, by omega, by omega, rfl, rfl, rfl, rfl, hid rfl, hid (.inl ⟨rfl, rfl, rfl⟩), rfl⟩
  case round =>
    obtain ⟨i, N, a, b, hi, hN, ha1, ha2, hb1, hb2, rfl, rfl, rfl, rfl, HC, HS, hwr⟩ := hrel
    subst wr
    by_cases hlt : i < t.size
    · obtain ⟨g, off, rfl, _, hcell⟩ := nats_at HI.out (by omega)
      have hx := hcell i hlt
      have hxl := HX.out i hlt
      have H3 := fun W => hid (in_yes ((o.getD i 0 : Nat) : Int) 0 ((t.size : Int) - 1) W (by omega) (by omega))
      have hcut : ∀ W : World, Sem.run Try.prog (Instr.slice 9 (.string t) (some (.int .i64 ((o.getD i 0 : Nat) : Int))) none none) W = .ok (.string (t.extract (o.getD i 0) t.size)) W := fun W =>
        run_slice_string_l W 9 t Try.underlying9 .i64 _ (by omega) (by omega)
      have H4 := fun W => hid (begins_any (t.extract (o.getD i 0) t.size) u W (by rw [ByteArray.size_extract]; omega) (by omega))
      rw [HBE.out i hlt] at H4
      generalize t.extract (o.getD i 0) t.size = t1 at hcut H4
      generalize o.getD i 0 = x at hx hxl H3 hcut
      clear hcell
      cases hBi : B i with
      | false =>
        rw [hBi] at H4
        have HC2 : Hid (N = cnB B (i + 1)) := hid (by rw [cnB_no hBi]; exact HC.out)
        have HS2 := hid (strch_no HS.out hBi)
        clear HC HS hBi
        go_wp2_with fail
        refine (H3 _).out.mono ?_
        rintro e w4 ⟨rfl, hw4⟩
        subst w4
        go_wp2_with fail
        refine (H4 _).out.mono ?_
        rintro e w4 ⟨rfl, hw4⟩
        subst w4
        go_wp2_with fail
        go_roundw
        case rel => exact ⟨i + 1, N, a, b, by omega, hN, ha1, ha2, hb1, hb2, rfl, rfl, rfl, by go_num, HC2, HS2, by first | rfl | trivial⟩
        case measure => simp [intOf]; omega
      | true =>
        rw [hBi] at H4
        have hc1 := cnB_yes hBi
        have hc2 := cnB_le B (i + 1)
        have HC2 : Hid (N + 1 = cnB B (i + 1)) := hid (by rw [hc1, HC.out])
        have hN2 : N + 1 ≤ 24 := by have := HC2.out; omega
        rcases strch_or HS.out with ⟨rfl, rfl⟩ | ⟨f, z, rfl, rfl, hfz, hz⟩
        · have HS2 := hid (strch_first HS.out hBi)
          clear HC HS hBi hc1 hc2
          go_wp2_with fail
          refine (H3 _).out.mono ?_
          rintro e w4 ⟨rfl, hw4⟩
          subst w4
          go_wp2_with fail
          refine (H4 _).out.mono ?_
          rintro e w4 ⟨rfl, hw4⟩
          subst w4
          go_wp2_with fail
          go_roundw
          case rel => exact ⟨i + 1, N + 1, (i : Int), (i : Int), by omega, hN2, by omega, by omega, by omega, by omega, rfl, rfl, by go_num, by go_num, HC2, HS2, by first | rfl | trivial⟩
          case measure => simp [intOf]; omega
        · have HS2 := hid (strch_more (fun x y z p q r s t => HVB.out x y z p q (by omega) s t) HS.out hBi)
          have hf0 : ¬ ((f : Int) < 0) := by omega
          clear HC HS hBi hc1 hc2
          go_wp2_with fail
          refine (H3 _).out.mono ?_
          rintro e w4 ⟨rfl, hw4⟩
          subst w4
          go_wp2_with fail
          refine (H4 _).out.mono ?_
          rintro e w4 ⟨rfl, hw4⟩
          subst w4
          go_wp2_with fail
          go_roundw
          case rel => exact ⟨i + 1, N + 1, (f : Int), (i : Int), by omega, hN2, by omega, by omega, by omega, by omega, rfl, rfl, by go_num, by go_num, HC2, HS2, by first | rfl | trivial⟩
          case measure => simp [intOf]; omega
    · obtain rfl : i = t.size := by omega
      obtain rfl : N = n := HC.out.trans HNB.out
      have hend : N = 0 ∨ ((¬ (N = 0)) ∧ b - a + 1 = (N : Int)) := by
        rcases HS.out with ⟨_, _, h3⟩ | ⟨f, z, e1, e2, h3, _, _, _, h7⟩
        · left; rw [HC.out]; exact h3
        · by_cases hz : N = 0
          · exact .inl hz
          · right; rw [← HC.out] at h7; exact ⟨hz, by omega⟩
      clear HS HC HNB HVB HBE HX HI
      rcases hend with h3 | ⟨h3, h4⟩
      · have d1 : ((N : Int) == 0) = true := by simp [h3]
        clear h3
        go_wp2_with fail
        go_ret
        exact ⟨rfl, hbx⟩
      · have d1 : ((N : Int) == 0) = false := by simpa using h3
        have d2 : ((b - a + 1) == (N : Int)) = true := by simpa using h4
        clear h3 h4
        go_wp2_with fail
        go_ret
        exact ⟨rfl, hbx⟩
theorem sffind_any (t u : ByteArray) (w : World) (ht : t.size ≤ maxLen) (hu : u.size ≤ maxLen) :
    Calls Try.prog 5 #[.string t, .string u] w fun e w' => e = .returned (.bool true) ∧ Below w.heap.size w w' := by
  by_cases h : t.size ≤ 24
  · rcases bad_or t u with ⟨h1, h2, h0⟩ | ⟨k, hk⟩
    · exact sffind_some t u w h1 h2 h0
    · exact sffind_bad t u k w h hk ht hu
  · exact sffind_long t u w (by omega) ht hu
end Go.Proofs.Ytdkbgikniacekaa
