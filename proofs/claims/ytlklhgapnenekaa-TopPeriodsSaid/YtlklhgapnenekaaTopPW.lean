/-
  The walk of TopPeriods: it returns true for every text, and leaves the old memory alone. No condition but the row's own size.
-/
import Derived.Test.YtlklhgapnenekaaPeri
import Derived.Test.YtlklhgapnenekaaPerR
import Derived.Test.YtlklhgapnenekaaInts
import Derived.Test.YtlklhgapnenekaaVoid
import Derived.Test.YtlklhgapnenekaaZeta
import Derived.Test.YtlklhgapnenekaaTroot
import Derived.Test.YtlklhgapnenekaaRturn
import Derived.Deep.QuietTactic
import Derived.BigQuiet
namespace Go.Proofs.Ytlklhgapnenekaa
open Go.RowKit

theorem pall_aa (w : World) : Calls Try.prog 10 #[.string ⟨#[97, 97]⟩] w fun e w' => ∃ A c, e = .returned (.tuple #[.slice A 2 c, .nilIface]) ∧ IsInts w' w'.heap.size A 2 [1, 2] ∧ Below w.heap.size w w' :=
  (pall_any ⟨#[97, 97]⟩ w (by decide)).mono fun e w' ⟨v, h1, h3, h4⟩ => by
    have he : perL ⟨#[97, 97]⟩ = [1, 2] := by decide +kernel
    rw [he] at h3
    obtain ⟨A, c, rfl, hI⟩ := own_n (n := 2) h3 rfl
    exact ⟨A, c, h1, hI, h4⟩
/-- The literal beside it is laid, and the two are compared. -/
theorem lit_aa (A : Option Addr) (c : Nat) (w : World) (hI : IsInts w w.heap.size A 2 [1, 2]) :
    Calls Try.prog 12 #[.slice A 2 c, .slice (some ⟨w.heap.size, 0, none⟩) 2 2] (w.alloc (.cells #[.int .i64 1, .int .i64 2] 3)) fun e w' => e = .returned (.bool true) ∧ Below w.heap.size w w' :=
  (ints_yes _ _ 2 2 _ _ [1, 2] _ _ _ (by omega) (by omega) (hI.alloc (Nat.le_refl _) _) (IsInts.lit w [1, 2] _ 3 rfl)).mono fun _ _ ⟨he, q, hw⟩ =>
    ⟨he, by rw [hw]; exact below_drewN ((Below.refl _ _).alloc (Nat.le_refl _) _) q⟩

set_option maxHeartbeats 800000 in
theorem topp_long (s : ByteArray) (w : World) (h : 24 < s.size) (hs : s.size ≤ maxLen) :
    Calls Try.prog 6 #[.string s] w fun e w' => e = .returned (.bool true) ∧ Below w.heap.size w w' := by
  have H1 := fun W => hid (pall_long s W h hs)
  unfold maxLen at hs
  go_enter Try.func6, Try.ntmps6
  go_wp2_with fail
  refine (H1 _).out.mono ?_
  rintro e w1 ⟨rfl, hw1⟩
  subst w1
  go_wp2_with fail
  refine (pall_aa _).mono ?_
  rintro e w1 ⟨A, c, rfl, hI, hb1⟩
  have HI := hid (lit_aa A c w1 hI)
  clear H1 hI
  go_wp2_with fail
  refine HI.out.mono ?_
  rintro e w2 ⟨rfl, hc2⟩
  have hb2 := Below.on hb1 hc2 (Nat.le_refl _)
  clear HI hc2 hb1
  go_wp2
  go_ret
  exact ⟨rfl, hb2⟩

set_option maxHeartbeats 1600000 in
theorem topp_short (s : ByteArray) (w : World) (h : s.size ≤ 24) :
    Calls Try.prog 6 #[.string s] w fun e w' => e = .returned (.bool true) ∧ Below w.heap.size w w' := by
  have H1 := fun W => hid (pall_any s W h)
  have H2 := fun W => hid (all_any s W h)
  have H3 := fun W => hid (zedges_any s W h)
  have H4 := fun W => hid (root_any s W h)
  obtain ⟨n, hn⟩ : ∃ n, (allL s).length = n := ⟨_, rfl⟩
  have hlen := all_len s
  rw [hn] at hlen
  have HN := hid hn
  clear hn
  go_enter Try.func6, Try.ntmps6
  go_wp2_with fail
  refine (H1 _).out.mono ?_
  rintro e w1 ⟨v1, rfl, ho1, hb1⟩
  obtain ⟨l, hl⟩ : ∃ l, (perL s).length = l := ⟨_, rfl⟩
  obtain ⟨A1, c1, rfl, hI1⟩ := own_n ho1 hl
  have HL := hid hl
  have HI1 := hid hI1
  clear H1 ho1 hl hI1
  go_wp2_with fail
  refine (pall_aa _).mono ?_
  rintro e w2 ⟨A, c, rfl, hI, hc2⟩
  have hb2 := Below.on hb1 hc2 (Nat.le_refl _)
  have HI2 := hid (HI1.out.up hc2)
  have HI := hid (lit_aa A c w2 hI)
  clear hI hc2 hb1 HI1
  go_wp2_with fail
  refine HI.out.mono ?_
  rintro e w3 ⟨rfl, hc3⟩
  have hb3 := Below.on hb2 hc3 (Nat.le_refl _)
  have HI3 := hid (HI2.out.up hc3)
  clear HI hc3 hb2 HI2
  go_wp2_with fail
  refine (H2 _).out.mono ?_
  rintro e w4 ⟨v4, rfl, ho4, hc4⟩
  obtain ⟨A4, c4, rfl, hI4⟩ := own_n ho4 HN.out
  have hb4 := Below.on hb3 hc4 (Nat.le_refl _)
  have HI4 := hid (HI3.out.up hc4)
  have HM4 := hid hI4
  clear H2 ho4 hc4 hb3 HI3 hI4
  go_wp2_with fail
  refine (H3 _).out.mono ?_
  rintro e w5 ⟨v5, rfl, ho5, hc5⟩
  obtain ⟨A5, c5, rfl, hI5⟩ := own_n ho5 HN.out
  have hb5 := Below.on hb4 hc5 (Nat.le_refl _)
  have HI5 := hid (HI4.out.up hc5)
  have HM5 := hid (HM4.out.up hc5)
  have HZ5 := hid hI5
  clear H3 ho5 hc5 hb4 HI4 HM4 hI5
  go_wp2_with fail
  refine (H4 _).out.mono ?_
  rintro e w6 ⟨r, rfl, hr, hc6⟩
  have hb6 := Below.on hb5 hc6 (Nat.le_refl _)
  have HI6 := hid (HI5.out.up hc6)
  have HM6 := hid (HM5.out.up hc6)
  have HZ := hid (ints_ok A4 A5 n n c4 c5 (allL s) w6 _ _ (by omega) (by omega) HM6.out (HZ5.out.up hc6))
  have HR := hid hr
  clear H4 hc6 hb5 HI5 HM5 HZ5 hr
  go_wp2_with fail
  refine HZ.out.mono ?_
  rintro e w7 ⟨rfl, hc7⟩
  have hb7 := Below.on hb6 hc7 (Nat.le_refl _)
  have HI7 := hid (HI6.out.up hc7)
  have HM7 := hid (HM6.out.up hc7)
  clear HZ hc7 hb6 HI6 HM6
  by_cases h0 : s.size = 0
  · have v0 := blank_yes h0
    obtain rfl : l = 0 := by rw [← HL.out, perL_none h0]; rfl
    obtain rfl : n = 0 := by omega
    obtain rfl : r = 0 := by
      rcases HR.out with hr | hr
      · exact hr.2
      · omega
    clear HI7 HM7 HL HN HR h0 hlen
    go_wp2
    go_ret
    exact ⟨rfl, hb7⟩
  · have v0 := blank_no (show 0 < s.size by omega)
    obtain rfl : l = n + 1 := by rw [← HL.out, perL_len h0, HN.out]
    obtain ⟨g1, o1, rfl, _, hd1⟩ := HI7.out.2 (by omega)
    have HX : Hid (∀ i, i < n → (perL s).getD (n - 1 - i) 0 = (s.size : Int) - (allL s).getD i 0) := hid fun i hi => by
      have := perL_at h0 (n - 1 - i) (by rw [HN.out]; omega)
      rwa [HN.out, show n - 1 - (n - 1 - i) = i by omega] at this
    have HB : Hid (∀ i, i < n → 0 ≤ (allL s).getD i 0 ∧ (allL s).getD i 0 ≤ (s.size : Int)) := hid fun i hi => allL_in (by rw [HN.out]; exact hi)
    have hlast := hd1 n (by omega)
    have hpl := perL_last h0
    rw [HN.out] at hpl
    rw [hpl] at hlast
    have hfirst := hd1 0 (by omega)
    rw [perL_first h0, Nat.add_zero] at hfirst
    have hsz : 0 < s.size := by omega
    have HT := hid (turn_root hsz HR.out)
    have hd0 := lon_lt (f := sg s) hsz
    have HY : Hid ((s.size - lon (sg s) s.size) ∣ s.size → r = s.size - lon (sg s) s.size) := hid fun hd => rt_one HR.out (root_yes hsz hd)
    have HW : Hid (¬ (s.size - lon (sg s) s.size) ∣ s.size → r = s.size) := hid fun hd => rt_one HR.out (root_no hsz hd)
    have hd1' : 0 < s.size - lon (sg s) s.size := by omega
    have hd2' : s.size - lon (sg s) s.size ≤ 24 := by omega
    generalize s.size - lon (sg s) s.size = d at hfirst HY HW hd1' hd2'
    have HD1 := hid hd1
    have hne : (((n + 1 : Nat) : Int) != (n : Int) + 1) = false := by simp
    have hn24 : n ≤ 24 := by omega
    have e1 : ((n : Int) + 1 - 1).toNat = n := by omega
    have e2 : 0 ≤ (n : Int) + 1 - 1 := by omega
    have e3 : (n : Int) + 1 - 1 < (n : Int) + 1 := by omega
    clear hd1 hpl h0 hlen hd0 HL HN HI7 HR
    go_wp2
    go_loopw [13] (fun i wr => ∃ k q : Nat, k ≤ n ∧ i = .int .i64 k ∧ wr = w7.drewN q) (fun i _ => n - (intOf i).toNat)
    case atStart => exact ⟨0, 0, Nat.zero_le _, rfl, rfl⟩
    case round =>
      clear hlast e1 e2 e3
      obtain ⟨k, q, hk, rfl, hwr⟩ := hrel
      by_cases hlt : k < n
      · subst wr
        obtain ⟨g4, o4, rfl, _, hd4⟩ := HM7.out.2 (by omega)
        have hx := hd4 k hlt
        have hy := HD1.out (n - 1 - k) (by omega)
        rw [HX.out k hlt] at hy
        have hxb := HB.out k hlt
        generalize (allL s).getD k 0 = X at hx hy hxb
        have hs1 : ((s.size : Int) - X != (s.size : Int) - X) = false := by simp
        have g1' : ((n : Int) - 1 - (k : Int)).toNat = n - 1 - k := by omega
        have g2' : 0 ≤ (n : Int) - 1 - (k : Int) := by omega
        have g3' : (n : Int) - 1 - (k : Int) < (n : Int) + 1 := by omega
        clear hd4 hfirst HT HY HW
        go_wp2
        go_quiet (fail)
        go_wp2
        go_roundw
        case rel => exact ⟨k + 1, _, by omega, by go_num, by first | rfl | rw [World.drewN_drewN]⟩
        case measure => simp [intOf]; omega
      · have hbr : Below w.heap.size w wr := by rw [hwr]; exact below_drewN hb7 q
        have hf : wr.cell? ⟨g1, o1, none⟩ = some (.int .i64 (d : Nat)) := by rw [hwr]; exact hfirst
        have hdz : ¬ ((d : Int) = 0) := by omega
        clear hwr hfirst HX HB HM7 HD1 hb7
        obtain ⟨wz, hwz⟩ : ∃ z, z = wr := ⟨_, rfl⟩
        subst hwz
        by_cases hd : d ∣ s.size
        · obtain rfl : r = d := HY.out hd
          have hm : (s.size : Int) % (r : Int) = 0 := by
            rw [← Int.natCast_emod, Nat.mod_eq_zero_of_dvd hd]; rfl
          have hm2 : (r : Int) % (s.size : Int) = ((r % s.size : Nat) : Int) := (Int.natCast_emod _ _).symm
          have hsz2 : ¬ ((s.size : Int) = 0) := by omega
          have hml := Nat.mod_lt r hsz
          have H5 := fun W => hid (rturn_any s (r % s.size) W (by omega) (by omega))
          rw [HT.out] at H5
          have hq : (s.toList == s.toList) = true := same_yes rfl
          generalize r % s.size = z at hm2 hml H5
          clear hd HY HW HT
          go_wp2_with fail
          refine (H5 _).out.mono ?_
          rintro e w8 ⟨rfl, q8, hw8⟩
          have hb8 : Below w.heap.size w w8 := by rw [hw8]; exact below_drewN hbr q8
          clear hw8 hbr
          go_wp2
          go_ret
          exact ⟨rfl, hb8⟩
        · obtain rfl : r = s.size := HW.out hd
          have hm : ¬ ((s.size : Int) % (d : Int) = 0) := by
            have : ¬ s.size % d = 0 := fun e => hd (Nat.dvd_of_mod_eq_zero e)
            rw [← Int.natCast_emod]; omega
          clear hd HY HW HT
          go_wp2
          go_ret
          exact ⟨ret_bool (by simp), hbr⟩
theorem topp_any (s : ByteArray) (w : World) (hs : s.size ≤ maxLen) :
    Calls Try.prog 6 #[.string s] w fun e w' => e = .returned (.bool true) ∧ Below w.heap.size w w' := by
  by_cases h : 24 < s.size
  · exact topp_long s w h hs
  · exact topp_short s w (by omega)
end Go.Proofs.Ytlklhgapnenekaa
