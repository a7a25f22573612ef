/-
  The walk of DyckSays: it returns true at every text and all numbers, and leaves the old memory alone. Conditions: the row's own sizes; errors.errorType as the program's text lays it.
-/
import Derived.Test.YtlbefiaieehcfaaDoorErr
import Derived.Test.YtlbefiaieehcfaaDoorDyk
import Derived.Test.YtlbefiaieehcfaaDoorBrk
import Derived.Test.YtlbefiaieehcfaaDoorEvery
import Derived.Test.YtlbefiaieehcfaaDoorCatr
import Derived.Test.YtlbefiaieehcfaaDoorIn3
import Derived.Test.YtlbefiaieehcfaaDoorStr
namespace Go.Proofs.YtlbefiaieehcfaaDoor
open Go.RowKit

theorem every_start (l : Nat) (w : World) (hl : l ≤ 16) : Calls Tryd.prog 7 #[.string ByteArray.empty, .int .i64 0, .int .i64 (l : Int)] w fun e w' => ∃ g c, e = .returned (.slice (some ⟨g, 0, none⟩) (bal 0 l) c) ∧ IsStrs w' w'.heap.size (some ⟨g, 0, none⟩) (bal 0 l) (evS ByteArray.empty 0 l) ∧ Below w.heap.size w w' :=
  every_any l ByteArray.empty 0 w hl (by omega) (by show 0 + l ≤ 1000; omega)
theorem evS_other {s : ByteArray} (h : brS s = 0) {j : Nat} (hj : j < rk 0 (bs s)) : (evS ByteArray.empty 0 s.size).getD j ByteArray.empty ≠ s := by
  have h2 := (brS_zero.1 h).2
  have hlt := rk_lt h2
  rw [bs_len] at hlt
  obtain ⟨t, ht⟩ := ev_some (o := 0) (l := s.size) (k := j) (by omega)
  rw [evS_empty 0 s.size ht]
  intro e
  have hb : bs s = t := by rw [← e, bs_txt]
  rw [← hb] at ht
  have := rk_one h2 (k := j) (by rw [bs_len]; exact ht)
  omega
theorem evS_here {s : ByteArray} (h : brS s = 0) : (evS ByteArray.empty 0 s.size).getD (rk 0 (bs s)) ByteArray.empty = s := by
  have h2 := (brS_zero.1 h).2
  have ht := rk_at h2
  rw [bs_len] at ht
  rw [evS_empty 0 s.size ht, txt_bs]

set_option maxHeartbeats 8000000 in
set_option maxRecDepth 100000 in
theorem dyckSays_any (s : ByteArray) (x y : Int) (w : World) (hs : s.size ≤ maxLen) (hg : Laid w) :
    Calls Tryd.prog 3 #[.string s, .int .i64 x, .int .i64 y] w fun e w' => e = .returned (.bool true) ∧ Below w.heap.size w w' := by
  have hp := hg.pos
  have HE := fun k W (h : Below w.heap.size w W) => hid (error_err k W (hg.below hp h))
  have HB := fun W => hid (rbrk_any s W hs)
  by_cases h0 : brS s = 0
  · have HC := fun W => hid (dcheck_ok s W h0)
    have HP := fun W => hid (dplace_ok s W h0)
    have hs16 := (brS_zero.1 h0).1
    have HV := fun W => hid (every_start s.size W hs16)
    have HN := hid (fun j (hj : j < rk 0 (bs s)) => same_no (evS_other h0 hj))
    have hH := same_yes (evS_here h0)
    have HH := hid hH
    have hlt := rk_lt (brS_zero.1 h0).2
    rw [bs_len] at hlt
    have hbal := Nat.le_trans (bal_pow s.size 0) (pow_16 hs16)
    rw [h0] at HB
    clear hg hp hs hH h0
    generalize evS ByteArray.empty 0 s.size = X at HV HN HH
    generalize rk 0 (bs s) = R at HP HN HH hlt
    generalize bal 0 s.size = M at HV hlt hbal
    go_enter Tryd.func3, Tryd.ntmps3
    go_wp2_with fail
    refine (HB _).out.mono ?_
    rintro e w1 ⟨rfl, hw1⟩
    subst w1
    go_wp2_with fail
    refine (HC _).out.mono ?_
    rintro e w1 ⟨rfl, hb1⟩
    go_wp2_with fail
    refine (error_nil _).mono ?_
    rintro e w2 ⟨rfl, hw2⟩
    subst w2
    clear HB HC
    go_wp2_with fail
    refine (HV _).out.mono ?_
    rintro e w2 ⟨g, c, rfl, hI, hb2⟩
    have hbA := hb1.trans (hb2.mono hb1.size)
    obtain ⟨g', off, hA, hgl, hc⟩ := hI.2 (by omega)
    injection hA with hA
    injection hA with hA1 hA2
    subst hA1
    subst hA2
    have HCe := hid hc
    clear HV hb1 hb2 hI hc
    go_wp2_with fail
    go_loopw [9] (fun x wr => ∃ j : Nat, j ≤ R ∧ x = .int .i64 j ∧ wr = w2) (fun x _ => R - (intOf x).toNat)
    case atStart => exact ⟨0, Nat.zero_le _, rfl, rfl⟩
    case round =>
      obtain ⟨j, hjR, rfl, hwr⟩ := hrel
      subst hwr
      have cj := HCe.out j (by omega)
      rw [Nat.zero_add] at cj
      have hji : (j : Int) < (M : Int) := by omega
      have hjM : j < M := by omega
      by_cases hlt2 : j < R
      · have hne := HN.out j hlt2
        generalize X.getD j ByteArray.empty = t at cj hne
        go_wp2_with fail
        go_roundw
        case rel => exact ⟨j + 1, by omega, by go_num, by first | rfl | trivial⟩
        case measure => simp [intOf]; omega
      · obtain rfl : j = R := by omega
        have hne := HH.out
        have hqR : ((j : Int) == (j : Int)) = true := beq_iff_eq.2 rfl
        generalize X.getD j ByteArray.empty = t at cj hne
        clear HN HH HCe
        go_wp2_with fail
        refine (HP _).out.mono ?_
        rintro e w3 ⟨rfl, hb3⟩
        have hbB := hbA.trans (hb3.mono hbA.size)
        clear HP hbA hb3
        go_wp2_with fail
        refine (error_nil _).mono ?_
        rintro e w4 ⟨rfl, hw4⟩
        subst w4
        have hbX := hbB
        clear hbB cj
        by_cases hx : 0 ≤ x ∧ x ≤ 8
        · obtain ⟨n, rfl⟩ : ∃ n : Nat, x = (n : Int) := ⟨x.toNat, by omega⟩
          have hn8 : n ≤ 8 := by omega
          have HIn := fun W => hid (in_yes (n : Int) 0 8 W (by omega) (by omega))
          have HCat := fun W => hid (rcat_any n W hn8)
          have HMany := fun W => dmany_any n W hn8
          have hbc := bal_cat n hn8
          rw [hbc] at HMany
          have HMany := fun W => hid (HMany W)
          have hcl := cat_le n hn8
          have hqc : ((cat n : Int) == (cat n : Int)) = true := beq_iff_eq.2 rfl
          clear hx
          by_cases hy : 0 ≤ y ∧ y ≤ (cat n : Int) - 1
          · obtain ⟨k, rfl⟩ : ∃ k : Nat, y = (k : Int) := ⟨y.toNat, by omega⟩
            have HIy := fun W => hid (in_yes (k : Int) 0 ((cat n : Int) - 1) W hy.1 hy.2)
            have hk : k < cat n := by omega
            obtain ⟨t9, ht9⟩ := ev_some (o := 0) (l := 2 * n) (k := k) (by rw [hbc]; exact hk)
            have HAt := fun W => hid (dat_ok n k t9 W hn8 ht9)
            have HV2 := fun W => every_start (2 * n) W (by omega)
            rw [show ((2 * n : Nat) : Int) = 2 * (n : Int) by push_cast; rfl, hbc] at HV2
            have HV2 := fun W => hid (HV2 W)
            have HX2 := hid (evS_empty 0 (2 * n) ht9)
            have hq9 := same_yes (rfl : txt t9 = txt t9)
            have hki : (k : Int) < (cat n : Int) := by omega
            clear hy hbc ht9
            generalize txt t9 = u9 at HAt HX2 hq9
            generalize evS ByteArray.empty 0 (2 * n) = X2 at HV2 HX2
            generalize cat n = C at HCat HMany HIy HV2 hk hki hcl hqc
            go_wp2_with fail
            refine (HIn _).out.mono ?_
            rintro e wc ⟨rfl, hwc⟩
            subst wc
            go_wp2_with fail
            refine (HCat _).out.mono ?_
            rintro e wc ⟨rfl, hbc⟩
            have hb1 := hbX.trans (hbc.mono hbX.size)
            clear hbc
            go_wp2_with fail
            refine (HMany _).out.mono ?_
            rintro e wd ⟨rfl, hbd⟩
            have hb2 := hb1.trans (hbd.mono hb1.size)
            clear hbd
            go_wp2_with fail
            refine (error_nil _).mono ?_
            rintro e we ⟨rfl, hwe⟩
            subst we
            go_wp2_with fail
            refine (HIy _).out.mono ?_
            rintro e we ⟨rfl, hwe⟩
            subst we
            go_wp2_with fail
            refine (HV2 _).out.mono ?_
            rintro e we ⟨g2, c2, rfl, hI2, hbe⟩
            have hb3 := hb2.trans (hbe.mono hb2.size)
            obtain ⟨g3, o3, hA3, hgl3, hc3⟩ := hI2.2 (by omega)
            injection hA3 with hA3
            injection hA3 with hA4 hA5
            subst hA4
            subst hA5
            have ck := hc3 k hk
            rw [Nat.zero_add, HX2.out] at ck
            clear hbe hI2 hc3 HX2
            go_wp2_with fail
            refine (HAt _).out.mono ?_
            rintro e wf ⟨rfl, hbf⟩
            have hb4 := hb3.trans (hbf.mono hb3.size)
            clear hbf
            go_wp2_with fail
            refine (error_nil _).mono ?_
            rintro e wg ⟨rfl, hwg⟩
            subst wg
            go_wp2_with fail
            go_ret
            exact ⟨by first | rfl | simp, hb4⟩
          · have HIy := fun W => hid (in_not y 0 ((cat n : Int) - 1) W hy)
            have HAt := fun W => hid (dat_bad (n : Int) y W (by
              rw [show (n : Int).toNat = n from rfl, hbc]
              omega))
            clear hy hbc
            generalize cat n = C at HCat HMany HIy hcl hqc
            go_wp2_with fail
            refine (HIn _).out.mono ?_
            rintro e wc ⟨rfl, hwc⟩
            subst wc
            go_wp2_with fail
            refine (HCat _).out.mono ?_
            rintro e wc ⟨rfl, hbc⟩
            have hb1 := hbX.trans (hbc.mono hbX.size)
            clear hbc
            go_wp2_with fail
            refine (HMany _).out.mono ?_
            rintro e wd ⟨rfl, hbd⟩
            have hb2 := hb1.trans (hbd.mono hb1.size)
            clear hbd
            go_wp2_with fail
            refine (error_nil _).mono ?_
            rintro e we ⟨rfl, hwe⟩
            subst we
            go_wp2_with fail
            refine (HIy _).out.mono ?_
            rintro e we ⟨rfl, hwe⟩
            subst we
            go_wp2_with fail
            refine (HAt _).out.mono ?_
            rintro e wf ⟨rfl, hbf⟩
            have hb4 := hb2.trans (hbf.mono hb2.size)
            clear hbf
            go_wp2_with fail
            refine (HE 1 _ hb4).out.mono ?_
            rintro e wg ⟨rfl, hbg⟩
            have hb5 := hb4.trans (hbg.mono hb4.size)
            go_wp2_with fail
            go_ret
            exact ⟨by first | rfl | simp, hb5⟩
        · have HIn := fun W => hid (in_not x 0 8 W hx)
          have HMany := fun W => hid (dmany_bad x W hx)
          have HAt := fun W => hid (dat_bad x y W (by omega))
          clear hx
          go_wp2_with fail
          refine (HIn _).out.mono ?_
          rintro e wc ⟨rfl, hwc⟩
          subst wc
          go_wp2_with fail
          refine (HMany _).out.mono ?_
          rintro e wd ⟨rfl, hbd⟩
          have hb2 := hbX.trans (hbd.mono hbX.size)
          clear hbd
          go_wp2_with fail
          refine (HE 1 _ hb2).out.mono ?_
          rintro e we ⟨rfl, hbe⟩
          have hb3 := hb2.trans (hbe.mono hb2.size)
          clear hbe
          go_wp2_with fail
          refine (HAt _).out.mono ?_
          rintro e wf ⟨rfl, hbf⟩
          have hb4 := hb3.trans (hbf.mono hb3.size)
          clear hbf
          go_wp2_with fail
          refine (HE 1 _ hb4).out.mono ?_
          rintro e wg ⟨rfl, hbg⟩
          have hb5 := hb4.trans (hbg.mono hb4.size)
          go_wp2_with fail
          go_ret
          exact ⟨by first | rfl | simp, hb5⟩
  · have HC := fun W => hid (dcheck_bad s W hs h0)
    have HP := fun W => hid (dplace_bad s W hs h0)
    have hK : ¬ (brS s = 0) := h0
    clear hg hp hs h0
    generalize brS s = K at HB HC HP hK
    go_enter Tryd.func3, Tryd.ntmps3
    go_wp2_with fail
    refine (HB _).out.mono ?_
    rintro e w1 ⟨rfl, hw1⟩
    subst w1
    go_wp2_with fail
    refine (HC _).out.mono ?_
    rintro e w1 ⟨rfl, hb1⟩
    go_wp2_with fail
    refine (HE K _ hb1).out.mono ?_
    rintro e w2 ⟨rfl, hb2⟩
    have hbA := hb1.trans (hb2.mono hb1.size)
    clear HB HC hb1 hb2
    go_wp2_with fail
    refine (HP _).out.mono ?_
    rintro e w3 ⟨rfl, hb3⟩
    have hbB := hbA.trans (hb3.mono hbA.size)
    clear HP hbA hb3
    go_wp2_with fail
    refine (HE K _ hbB).out.mono ?_
    rintro e w4 ⟨rfl, hb4⟩
    have hbX := hbB.trans (hb4.mono hbB.size)
    clear hbB hb4
    by_cases hx : 0 ≤ x ∧ x ≤ 8
    · obtain ⟨n, rfl⟩ : ∃ n : Nat, x = (n : Int) := ⟨x.toNat, by omega⟩
      have hn8 : n ≤ 8 := by omega
      have HIn := fun W => hid (in_yes (n : Int) 0 8 W (by omega) (by omega))
      have HCat := fun W => hid (rcat_any n W hn8)
      have HMany := fun W => dmany_any n W hn8
      have hbc := bal_cat n hn8
      rw [hbc] at HMany
      have HMany := fun W => hid (HMany W)
      have hcl := cat_le n hn8
      have hqc : ((cat n : Int) == (cat n : Int)) = true := beq_iff_eq.2 rfl
      clear hx
      by_cases hy : 0 ≤ y ∧ y ≤ (cat n : Int) - 1
      · obtain ⟨k, rfl⟩ : ∃ k : Nat, y = (k : Int) := ⟨y.toNat, by omega⟩
        have HIy := fun W => hid (in_yes (k : Int) 0 ((cat n : Int) - 1) W hy.1 hy.2)
        have hk : k < cat n := by omega
        obtain ⟨t9, ht9⟩ := ev_some (o := 0) (l := 2 * n) (k := k) (by rw [hbc]; exact hk)
        have HAt := fun W => hid (dat_ok n k t9 W hn8 ht9)
        have HV2 := fun W => every_start (2 * n) W (by omega)
        rw [show ((2 * n : Nat) : Int) = 2 * (n : Int) by push_cast; rfl, hbc] at HV2
        have HV2 := fun W => hid (HV2 W)
        have HX2 := hid (evS_empty 0 (2 * n) ht9)
        have hq9 := same_yes (rfl : txt t9 = txt t9)
        have hki : (k : Int) < (cat n : Int) := by omega
        clear hy hbc ht9
        generalize txt t9 = u9 at HAt HX2 hq9
        generalize evS ByteArray.empty 0 (2 * n) = X2 at HV2 HX2
        generalize cat n = C at HCat HMany HIy HV2 hk hki hcl hqc
        go_wp2_with fail
        refine (HIn _).out.mono ?_
        rintro e wc ⟨rfl, hwc⟩
        subst wc
        go_wp2_with fail
        refine (HCat _).out.mono ?_
        rintro e wc ⟨rfl, hbc⟩
        have hb1 := hbX.trans (hbc.mono hbX.size)
        clear hbc
        go_wp2_with fail
        refine (HMany _).out.mono ?_
        rintro e wd ⟨rfl, hbd⟩
        have hb2 := hb1.trans (hbd.mono hb1.size)
        clear hbd
        go_wp2_with fail
        refine (error_nil _).mono ?_
        rintro e we ⟨rfl, hwe⟩
        subst we
        go_wp2_with fail
        refine (HIy _).out.mono ?_
        rintro e we ⟨rfl, hwe⟩
        subst we
        go_wp2_with fail
        refine (HV2 _).out.mono ?_
        rintro e we ⟨g2, c2, rfl, hI2, hbe⟩
        have hb3 := hb2.trans (hbe.mono hb2.size)
        obtain ⟨g3, o3, hA3, hgl3, hc3⟩ := hI2.2 (by omega)
        injection hA3 with hA3
        injection hA3 with hA4 hA5
        subst hA4
        subst hA5
        have ck := hc3 k hk
        rw [Nat.zero_add, HX2.out] at ck
        clear hbe hI2 hc3 HX2
        go_wp2_with fail
        refine (HAt _).out.mono ?_
        rintro e wf ⟨rfl, hbf⟩
        have hb4 := hb3.trans (hbf.mono hb3.size)
        clear hbf
        go_wp2_with fail
        refine (error_nil _).mono ?_
        rintro e wg ⟨rfl, hwg⟩
        subst wg
        go_wp2_with fail
        go_ret
        exact ⟨by first | rfl | simp, hb4⟩
      · have HIy := fun W => hid (in_not y 0 ((cat n : Int) - 1) W hy)
        have HAt := fun W => hid (dat_bad (n : Int) y W (by
          rw [show (n : Int).toNat = n from rfl, hbc]
          omega))
        clear hy hbc
        generalize cat n = C at HCat HMany HIy hcl hqc
        go_wp2_with fail
        refine (HIn _).out.mono ?_
        rintro e wc ⟨rfl, hwc⟩
        subst wc
        go_wp2_with fail
        refine (HCat _).out.mono ?_
        rintro e wc ⟨rfl, hbc⟩
        have hb1 := hbX.trans (hbc.mono hbX.size)
        clear hbc
        go_wp2_with fail
        refine (HMany _).out.mono ?_
        rintro e wd ⟨rfl, hbd⟩
        have hb2 := hb1.trans (hbd.mono hb1.size)
        clear hbd
        go_wp2_with fail
        refine (error_nil _).mono ?_
        rintro e we ⟨rfl, hwe⟩
        subst we
        go_wp2_with fail
        refine (HIy _).out.mono ?_
        rintro e we ⟨rfl, hwe⟩
        subst we
        go_wp2_with fail
        refine (HAt _).out.mono ?_
        rintro e wf ⟨rfl, hbf⟩
        have hb4 := hb2.trans (hbf.mono hb2.size)
        clear hbf
        go_wp2_with fail
        refine (HE 1 _ hb4).out.mono ?_
        rintro e wg ⟨rfl, hbg⟩
        have hb5 := hb4.trans (hbg.mono hb4.size)
        go_wp2_with fail
        go_ret
        exact ⟨by first | rfl | simp, hb5⟩
    · have HIn := fun W => hid (in_not x 0 8 W hx)
      have HMany := fun W => hid (dmany_bad x W hx)
      have HAt := fun W => hid (dat_bad x y W (by omega))
      clear hx
      go_wp2_with fail
      refine (HIn _).out.mono ?_
      rintro e wc ⟨rfl, hwc⟩
      subst wc
      go_wp2_with fail
      refine (HMany _).out.mono ?_
      rintro e wd ⟨rfl, hbd⟩
      have hb2 := hbX.trans (hbd.mono hbX.size)
      clear hbd
      go_wp2_with fail
      refine (HE 1 _ hb2).out.mono ?_
      rintro e we ⟨rfl, hbe⟩
      have hb3 := hb2.trans (hbe.mono hb2.size)
      clear hbe
      go_wp2_with fail
      refine (HAt _).out.mono ?_
      rintro e wf ⟨rfl, hbf⟩
      have hb4 := hb3.trans (hbf.mono hb3.size)
      clear hbf
      go_wp2_with fail
      refine (HE 1 _ hb4).out.mono ?_
      rintro e wg ⟨rfl, hbg⟩
      have hb5 := hb4.trans (hbg.mono hb4.size)
      go_wp2_with fail
      go_ret
      exact ⟨by first | rfl | simp, hb5⟩
end Go.Proofs.YtlbefiaieehcfaaDoor
