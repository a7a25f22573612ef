/-
  The walk of LyndonParts: it returns true for every text, and leaves the old memory alone. No condition but the row's own size.
-/
import Derived.Test.YtoopnkjgdgbmnaaLnfact
import Derived.Test.YtoopnkjgdgbmnaaRlyn
import Derived.Test.YtoopnkjgdgbmnaaIn
namespace Go.Proofs.Ytoopnkjgdgbmnaa
open Go.RowKit

theorem rest_at {f : Nat → UInt8} {n b i : Nat} {xs : List Int} (h : Rest f n b (xs.drop i)) (hi : i < xs.length) :
    ∃ p : Nat, xs.getD i 0 = (p : Int) ∧ Lgw (fun x => f (b + x)) (n - b) p ∧ Rest f n (b + p) (xs.drop (i + 1)) := by
  rw [List.drop_eq_getElem_cons hi] at h
  generalize hx : xs[i] = x at h
  cases h with
  | @step _ p _ h1 h2 h3 => exact ⟨p, by simp [List.getD_eq_getElem?_getD, hi, hx], h2, h3⟩
theorem rest_end {f : Nat → UInt8} {n b i : Nat} {xs : List Int} (h : Rest f n b (xs.drop i)) (hi : xs.length ≤ i) : b = n := by
  rw [List.drop_eq_nil_of_le hi] at h
  cases h; rfl

theorem lparts_long (s : ByteArray) (w : World) (h : 24 < s.size) (hs : s.size ≤ maxLen) :
    Calls Try.prog 3 #[.string s] w fun e w' => e = .returned (.bool true) ∧ Below w.heap.size w w' := by
  have H1 := fun w => hid (parts_long s w h hs)
  unfold maxLen at hs
  go_enter Try.func3, Try.ntmps3
  go_wp2_with fail
  refine (lnfact_any _).mono ?_
  rintro e w1 ⟨rfl, hb1⟩
  go_wp2_with fail
  refine (H1 _).out.mono ?_
  rintro e w2 ⟨rfl, hw2⟩
  subst w2
  go_wp2
  go_ret
  exact ⟨rfl, hb1⟩

set_option maxHeartbeats 1600000 in
theorem lparts_any (s : ByteArray) (w : World) (h : s.size ≤ 24) :
    Calls Try.prog 3 #[.string s] w fun e w' => e = .returned (.bool true) ∧ Below w.heap.size w w' := by
  have H1 := fun w => hid (parts_any s w h)
  go_enter Try.func3, Try.ntmps3
  go_wp2_with fail
  refine (lnfact_any _).mono ?_
  rintro e w1 ⟨rfl, hb1⟩
  go_wp2_with fail
  refine (H1 _).out.mono ?_
  rintro e w2 ⟨v, xs, rfl, hr, ho, hc2⟩
  have hb2 := Below.on hb1 hc2 (Nat.le_refl _)
  have HR := hid hr
  have hlen := rest_len hr
  obtain ⟨n, hn⟩ : ∃ n, xs.length = n := ⟨_, rfl⟩
  obtain ⟨A, c, rfl, hI⟩ := own_n ho hn
  rw [hn] at hlen
  have HN := hid hn
  have HI := hid hI
  clear H1 hr ho hc2 hb1 hn hI
  go_wp2
  go_loopw [8, 6, 7] (fun x y z wr => ∃ (i b : Nat) (t : ByteArray), x = .int .i64 i ∧ y = .int .i64 b ∧ z = .string t ∧ i ≤ n ∧ b ≤ s.size ∧ t.size ≤ 24 ∧ Hid (Rest (sg s) s.size b (xs.drop i)) ∧
      Hid (0 < i → ∃ a p, b = a + p ∧ t = s.extract a (a + p) ∧ Lgw (fun x => sg s (a + x)) (s.size - a) p) ∧ Hid (∃ q, wr = w2.drewN q)) (fun x _ _ _ => n - (intOf x).toNat)
  case atStart => exact ⟨0, 0, _, rfl, rfl, rfl, by omega, by omega, by decide, HR, hid (fun h0 => absurd h0 (by omega)), hid ⟨0, rfl⟩⟩
  case round =>
    clear HR
    obtain ⟨i, b, t, rfl, rfl, rfl, hin, hbs, hts, HR, HL, HW⟩ := hrel
    by_cases hlt : i < n
    · obtain ⟨p, hp, hlg, hrs⟩ := rest_at HR.out (by rw [HN.out]; exact hlt)
      have hp0 := hlg.2.1.1
      have hp1 := hlg.1
      have HS := hid hrs
      have HG := hid hlg
      obtain ⟨g, off, rfl, _, hca⟩ := HI.out.2 (by omega)
      have hx := hca i hlt
      rw [hp] at hx
      have hx : wr.cell? ⟨g, off + i, none⟩ = some (.int .i64 (p : Int)) := by
        obtain ⟨q, hw⟩ := HW.out
        rw [hw]; exact hx
      have HX : Hid (∀ q, (wr.drewN q).cell? ⟨g, off + i, none⟩ = some (.int .i64 (p : Int))) := hid fun q => hx
      have H1 := fun W => hid (in_yes (p : Int) 1 ((s.size : Int) - (b : Int)) W (by omega) (by omega))
      have hcut : ∀ W : World, Sem.run Try.prog (Instr.slice 9 (.string s) (some (.int .i64 (b : Int))) (some (.int .i64 ((b : Int) + (p : Int)))) none) W = .ok (.string (s.extract b (b + p))) W := fun W =>
        run_slice_string W 9 s .i64 .i64 (b : Int) ((b : Int) + (p : Int)) Try.underlying9 (by omega) (by omega) (by omega)
      have hz : (s.extract b (b + p)).size = p := by rw [ByteArray.size_extract]; omega
      have H2 := fun W => hid (rlyn_any (s.extract b (b + p)) W (by omega))
      rw [lynB_yes ((lyn_cut (by omega)).2 hlg.2.1)] at H2
      have H3 : 0 < i → ∀ W, Hid (Calls Try.prog 10 #[.string t, .string (s.extract b (b + p))] W fun e w' => e = .returned (.bool false) ∧ ∃ q, w' = W.drewN q) := fun h0 W => hid (by
        have := before_any t (s.extract b (b + p)) W (by omega) (by omega)
        obtain ⟨a, p', rfl, rfl, hl'⟩ := HL.out h0
        rwa [lxB_no (fall_cut hl' hlg)] at this)
      have HE : Hid (∃ a p', b + p = a + p' ∧ s.extract b (b + p) = s.extract a (a + p') ∧ Lgw (fun x => sg s (a + x)) (s.size - a) p') := hid ⟨b, p, rfl, rfl, hlg⟩
      clear hp hlg hrs hca HR HL HI
      generalize s.extract b (b + p) = u at H2 H3 HE hcut hz
      go_wp2_with fail
      refine (H1 _).out.mono ?_
      rintro e w4 ⟨rfl, hw4⟩
      subst w4
      clear H1
      go_wp2_with fail
      refine (H2 _).out.mono ?_
      rintro e w4 ⟨rfl, q4, hw4⟩
      have HV : Hid (∃ q, w4 = w2.drewN q) := hid (by
        obtain ⟨q, hw⟩ := HW.out
        rw [hw4, hw, World.drewN_drewN]
        exact ⟨_, rfl⟩)
      have hx4 : w4.cell? ⟨g, off + i, none⟩ = some (.int .i64 (p : Int)) := by rw [hw4]; exact HX.out q4
      clear hw4 HW H2 hx HX
      by_cases hi0 : i = 0
      · subst hi0
        have hx5 : w4.cell? ⟨g, off, none⟩ = some (.int .i64 (p : Int)) := hx4
        clear H3 hx4
        go_wp2
        go_roundw
        case rel => exact ⟨1, b + p, u, by go_num, by go_num, rfl, by omega, by omega, by omega, HS, hid (fun _ => HE.out), HV⟩
        case measure => simp [intOf]; omega
      · have hi1 : 0 < i := by omega
        have H4 := H3 hi1
        clear H3 hi0
        go_wp2_with fail
        refine (H4 _).out.mono ?_
        rintro e w5 ⟨rfl, q5, hw5⟩
        have HV5 : Hid (∃ q, w5 = w2.drewN q) := hid (by
          obtain ⟨q, hw⟩ := HV.out
          rw [hw5, hw, World.drewN_drewN]
          exact ⟨_, rfl⟩)
        have hx5 : w5.cell? ⟨g, off + i, none⟩ = some (.int .i64 (p : Int)) := by rw [hw5]; exact hx4
        clear hw5 HV hx4 H4
        go_wp2
        go_roundw
        case rel => exact ⟨i + 1, b + p, u, by go_num, by go_num, rfl, by omega, by omega, by omega, HS, hid (fun _ => HE.out), HV5⟩
        case measure => simp [intOf]; omega
    · obtain rfl : b = s.size := rest_end HR.out (by rw [HN.out]; omega)
      have hbw : Below w.heap.size w wr := by
        obtain ⟨q, hw⟩ := HW.out
        rw [hw]; exact below_drewN hb2 q
      clear HR HL HI HW
      go_wp2
      go_ret
      exact ⟨ret_bool (by simp), hbw⟩
theorem lnparts_any (s : ByteArray) (w : World) (hs : s.size ≤ maxLen) :
    Calls Try.prog 3 #[.string s] w fun e w' => e = .returned (.bool true) ∧ Below w.heap.size w w' := by
  by_cases h : s.size ≤ 24
  · exact lparts_any s w h
  · exact lparts_long s w (by omega) hs
end Go.Proofs.Ytoopnkjgdgbmnaa
