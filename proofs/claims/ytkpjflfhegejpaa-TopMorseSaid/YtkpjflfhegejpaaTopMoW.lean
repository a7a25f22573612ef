/-
  The walk of TopMorse: it returns true at all numbers. No condition.
-/
import Derived.Test.YtkpjflfhegejpaaMors
import Derived.Test.YtkpjflfhegejpaaTopMoM
import Derived.Test.YtkpjflfhegejpaaRwrite
import Derived.Test.YtkpjflfhegejpaaLwrite
import Derived.Test.YtkpjflfhegejpaaLread
import Derived.Test.YtkpjflfhegejpaaTroot
import Derived.Test.YtkpjflfhegejpaaInT
import Derived.Test.YtkpjflfhegejpaaStr
namespace Go.Proofs.Ytkpjflfhegejpaa
open Go.RowKit

theorem three_text : ((txt (mw 3)).toList == [48, 49, 49]) = true := by rw [mw_three, ByteArray.toList_eq]; rfl
theorem tmo_bad (x i j : Int) (w : World) (hx : ¬ (0 ≤ x ∧ x ≤ 200)) :
    Calls Try.prog 6 #[.int .i64 x, .int .i64 i, .int .i64 j] w fun e w' => e = .returned (.bool true) ∧ Below w.heap.size w w' := by
  have H1 := fun W => hid (wword_bad x W hx)
  have H2 := fun W => hid (wword_any 3 W (by omega))
  have hq := three_text
  generalize txt (mw 3) = t at H2 hq
  clear hx
  go_enter Try.func6, Try.ntmps6
  go_wp2_with fail
  refine (H1 _).out.mono ?_
  rintro e w1 ⟨rfl, hb1⟩
  go_wp2_with fail
  refine (H2 _).out.mono ?_
  rintro e w2 ⟨rfl, hb2⟩
  have hbA := hb1.trans (hb2.mono hb1.size)
  clear H1 H2 hb1 hb2
  go_wp2_with fail
  go_ret
  exact ⟨by first | rfl | simp, hbA⟩
set_option maxHeartbeats 4000000 in
set_option maxRecDepth 100000 in
theorem tmo_ok (n : Nat) (i j : Int) (w : World) (hn : n ≤ 200) :
    Calls Try.prog 6 #[.int .i64 (n : Int), .int .i64 i, .int .i64 j] w fun e w' => e = .returned (.bool true) ∧ Below w.heap.size w w' := by
  have H1 := fun W => hid (wword_any n W hn)
  have H2 := fun W => hid (wword_any 3 W (by omega))
  have hq := three_text
  generalize txt (mw 3) = t3 at H2 hq
  obtain ⟨S, hS⟩ : ∃ S, S = txt (mw n) := ⟨_, rfl⟩
  have hSz : S.size = n := by rw [hS]; exact txt_mw_size n
  have HSz := hid hSz
  have HSm := hid hS
  have HSb : Hid (bs S = mw n) := hid (by rw [hS, bs_txt])
  rw [← hS] at H1
  have hS200 : S.size ≤ 200 := by omega
  have H3 := fun W => hid (write_any S W (by omega))
  have H4 := fun W => hid (lwrite_any S W (by omega))
  have hss := same_yes (rfl : S = S)
  clear hS hSz
  go_enter Try.func6, Try.ntmps6
  go_wp2_with fail
  refine (H1 _).out.mono ?_
  rintro e w1 ⟨rfl, hb1⟩
  go_wp2_with fail
  refine (H2 _).out.mono ?_
  rintro e w2 ⟨rfl, hb2⟩
  have hbA := hb1.trans (hb2.mono hb1.size)
  clear H1 H2 hb1 hb2
  go_wp2_with fail
  refine (H3 _).out.mono ?_
  rintro e w3 ⟨AR, cR, l, rfl, hG, hU, hI, hb3⟩
  have hbB := hbA.trans (hb3.mono hbA.size)
  have HR := hid hI
  rw [HSb.out] at hU
  have HTwo := hid (fun k (h : k < l.length) => runs_two hU h)
  have hll : l.length ≤ 1000 := by
    have := good_len hG
    rw [hU, mw_len] at this
    omega
  clear H3 hbA hb3 hI hG hU
  generalize hm : l.length = m at HR HTwo hll ⊢
  clear hm
  go_wp2_with fail
  refine (H4 _).out.mono ?_
  rintro e w4 ⟨AP, cP, ps, rfl, hw, hIP, hb4⟩
  have hbC := hbB.trans (hb4.mono hbB.size)
  have HR4 := hid (HR.out.below hb4)
  have hlen := wr_len hw
  rw [bs_len] at hlen
  obtain ⟨hf, hwh⟩ := wr_fine hw (by rw [bs_len]; omega)
  have H5 := hid (lread_ok AP ps.length cP (pcs ps) w4 (by unfold maxLen; omega) hIP hf)
  rw [hwh, txt_bs] at H5
  clear H4 hbB hb4 HR hw hIP hf hwh
  generalize ps.length = np at H5 hlen ⊢
  go_wp2_with fail
  go_loopw [15] (fun x wr => ∃ k : Nat, k ≤ m ∧ x = .int .i64 k ∧ wr = w4) (fun x _ => m - (intOf x).toNat)
  case atStart => exact ⟨0, by omega, rfl, rfl⟩
  case round =>
    obtain ⟨k, hkm, rfl, hwr⟩ := hrel
    subst hwr
    by_cases hlt : k < m
    · obtain ⟨g, off, rfl, hg, hc⟩ := HR4.out.2 (by omega)
      have c2 : wr.cell? ⟨g, off + k * 2 + 1, none⟩ = some (.int .i64 (mnR l k)) := (hc k hlt).2
      have htw := HTwo.out k hlt
      have hki : (k : Int) < (m : Int) := by omega
      generalize mnR l k = Y at c2 htw
      have hd : decide (Y > 2) = false := decide_eq_false (by omega)
      clear hc H5
      go_wp2_with fail
      go_roundw
      case rel => exact ⟨k + 1, by omega, by go_num, by first | rfl | trivial⟩
      case measure => simp [intOf]; omega
    · have hki : ¬ (k : Int) < (m : Int) := by omega
      clear HR4 HTwo
      go_wp2_with fail
      refine H5.out.mono ?_
      rintro e w5 ⟨rfl, hb5⟩
      have hbD := hbC.trans (hb5.mono hbC.size)
      clear H5 hbC hb5
      by_cases c1 : 0 ≤ i ∧ i ≤ (S.size : Int) - 1
      · have HI := fun W => hid (in_yes i 0 ((S.size : Int) - 1) W c1.1 c1.2)
        go_wp2_with fail
        refine (HI _).out.mono ?_
        rintro e w6 ⟨rfl, hw6⟩
        subst w6
        clear HI
        by_cases c2 : i + 1 ≤ j ∧ j ≤ (S.size : Int)
        · have HJ := fun W => hid (in_yes j (i + 1) (S.size : Int) W c2.1 c2.2)
          by_cases c3 : j - i > 24
          · go_wp2_with fail
            refine (HJ _).out.mono ?_
            rintro e w6 ⟨rfl, hw6⟩
            subst w6
            go_wp2_with fail
            go_ret
            exact ⟨rfl, hbD⟩
          · obtain ⟨L, hL⟩ : ∃ L : Nat, j - i = (L : Int) := ⟨(j - i).toNat, by omega⟩
            have hcut := fun W => run_slice_string (P := Try.prog) W 9 S .i64 .i64 i j Try.underlying9 c1.1 (by omega) c2.2
            obtain ⟨t, ht⟩ : ∃ t, t = S.extract i.toNat j.toNat := ⟨_, rfl⟩
            have htl : t.size = L := by rw [ht, ByteArray.size_extract]; omega
            have HRt := fun W => hid (root_any t W (by omega))
            have hfew := fun r (h : Rt (cy t) t.size r) => root_few (n := n) (a := i.toNat) (b := j.toNat) (r := r) (by rw [ht, HSm.out]) (by omega) h
            rw [htl] at hfew HRt
            have HFew := hid hfew
            rw [← ht] at hcut
            have hL24 : L ≤ 24 := by omega
            have hL1 : 1 ≤ L := by omega
            clear hfew ht htl
            go_wp2_with fail
            refine (HJ _).out.mono ?_
            rintro e w6 ⟨rfl, hw6⟩
            subst w6
            clear HJ
            go_wp2_with fail
            refine (HRt _).out.mono ?_
            rintro e w7 ⟨r, rfl, hr, hb7⟩
            have hbE := hbD.trans (hb7.mono hbD.size)
            obtain ⟨r1, r2, r3⟩ := HFew.out r hr
            have HK := fun W => hid (in_yes (r : Int) 1 (L : Int) W (by omega) (by omega))
            have hr0 : ¬ ((r : Int) = 0) := by omega
            obtain ⟨q, hq⟩ : ∃ q, q = L / r := ⟨_, rfl⟩
            rw [← hq] at r3
            have hdiv : Hid (wrap64 ((L : Int) / (r : Int)) = (q : Int)) := hid (by
              rw [show (L : Int) / (r : Int) = (q : Int) by rw [hq]; exact (Int.natCast_ediv L r).symm, ← IntWalk.i64_left, IntWalk.i64_in _ (by omega)])
            clear HRt HFew hr hb7 hbD hq
            go_wp2_with fail
            refine (HK _).out.mono ?_
            rintro e w8 ⟨rfl, hw8⟩
            subst w8
            go_wp2_with fail
            go_ret
            exact ⟨ret_bool (show decide (wrap64 ((L : Int) / (r : Int)) < 3) = true by rw [hdiv.out]; exact decide_eq_true (by omega)), hbE⟩
        · have HJ := fun W => hid (in_not j (i + 1) (S.size : Int) W c2)
          go_wp2_with fail
          refine (HJ _).out.mono ?_
          rintro e w6 ⟨rfl, hw6⟩
          subst w6
          go_wp2_with fail
          go_ret
          exact ⟨rfl, hbD⟩
      · have HI := fun W => hid (in_not i 0 ((S.size : Int) - 1) W c1)
        go_wp2_with fail
        refine (HI _).out.mono ?_
        rintro e w6 ⟨rfl, hw6⟩
        subst w6
        go_wp2_with fail
        go_ret
        exact ⟨rfl, hbD⟩
theorem tmo_any (x i j : Int) (w : World) :
    Calls Try.prog 6 #[.int .i64 x, .int .i64 i, .int .i64 j] w fun e w' => e = .returned (.bool true) ∧ Below w.heap.size w w' := by
  by_cases hx : 0 ≤ x ∧ x ≤ 200
  · obtain ⟨n, rfl⟩ : ∃ n : Nat, x = (n : Int) := ⟨x.toNat, by omega⟩
    exact tmo_ok n i j w (by omega)
  · exact tmo_bad x i j w hx
end Go.Proofs.Ytkpjflfhegejpaa
