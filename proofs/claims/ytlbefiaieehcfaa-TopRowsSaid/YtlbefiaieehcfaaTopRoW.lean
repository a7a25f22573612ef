/-
  The walk of TopRows: it returns true at all numbers and lists. Conditions: the row's own sizes.
-/
import Derived.Test.YtlbefiaieehcfaaDyk
import Derived.Test.YtlbefiaieehcfaaRpls
import Derived.Test.YtlbefiaieehcfaaTopRoM
import Derived.Test.YtlbefiaieehcfaaSignW
import Derived.Test.YtlbefiaieehcfaaInT
import Derived.Test.YtlbefiaieehcfaaOn
import Derived.Test.YtlbefiaieehcfaaStr
namespace Go.Proofs.Ytlbefiaieehcfaa
open Go.RowKit

theorem one_text : ((txt [40, 41]).toList == [40, 41]) = true := by rw [ByteArray.toList_eq]; rfl
theorem br_step {s : ByteArray} {i o : Nat} (hz : brS s = 0) (h : BrTo s i o) (hi : i < s.size) (hc : sg s i ≠ 40) : ∃ p, o = p + 1 ∧ BrTo s (i + 1) p := by
  have hb : brk 0 (bs s) = 0 := by rw [← brS_short (brS_zero.1 hz).1]; exact hz
  by_cases h1 : sg s i = 41
  · rcases o with _ | p
    · have := brTo_shut h hi h1; omega
    · exact ⟨p, rfl, brTo_cl h hi h1⟩
  · have := brTo_sign h hi hc h1; omega
/-- What the law asks of its list, known. -/
def LKn (A : Option Addr) (n c : Nat) (w : World) : Prop :=
  (∃ N : Nat, N ≤ 20 ∧ (∀ W, Below w.heap.size w W → Hid (Calls Try.prog 14 #[.slice A n c] W fun e w' => e = .returned (.tuple #[.int .i64 (N : Int), .nilIface]) ∧ Below W.heap.size W w')) ∧
    (∀ W, Below w.heap.size w W → Hid (Calls Try.prog 15 #[.slice A n c] W fun e w' => (∃ A' c', e = .returned (.tuple #[.slice A' N c', .nilIface])) ∧ Below W.heap.size W w'))) ∨
  (∃ k : Int, ∀ W, Below w.heap.size w W → Hid (Calls Try.prog 14 #[.slice A n c] W fun e w' => e = .returned (.tuple #[.int .i64 0, .iface 40 (.int .i64 k)]) ∧ Below W.heap.size W w'))
theorem lkn_any (A : Option Addr) (n c : Nat) (l : List Int) (w : World) (hn : n ≤ maxLen) (hl : IsInts w w.heap.size A n l) : LKn A n c w := by
  have up : ∀ W, Below w.heap.size w W → IsInts W W.heap.size A n l := fun W hb => hl.up hb
  rcases badR_or l with hg | ⟨k, hk⟩
  · have hp := piles_list hg
    refine .inl ⟨lg ltB l.reverse, Nat.le_trans (rise_le ltB) hg.1, fun W hb => hid (slong_ok A n c l W (up W hb) hg), fun W hb => hid ?_⟩
    refine (spiles_ok A n c l W (up W hb) hg).mono ?_
    rintro e w' ⟨A', c', he, _, hb'⟩
    rw [hp] at he
    exact ⟨⟨A', c', he⟩, hb'⟩
  · exact .inr ⟨k, fun W hb => hid (slong_bad A n c l k W hn (up W hb) hk)⟩
set_option maxHeartbeats 4000000 in
theorem tro_bad (x y : Int) (A : Option Addr) (n c : Nat) (w : World) (hL : LKn A n c w) (h : ¬ (0 ≤ x ∧ x ≤ 8 ∧ 0 ≤ y ∧ y < (bal 0 (2 * x.toNat) : Nat))) :
    Calls Try.prog 6 #[.int .i64 x, .int .i64 y, .slice A n c] w fun e w' => e = .returned (.bool true) ∧ Below w.heap.size w w' := by
  have H1 := fun W => hid (dat_bad x y W h)
  have H2 := fun W => hid (dat_ok 1 0 [40, 41] W (by omega) ev_one)
  have hq := one_text
  generalize txt [40, 41] = t at H2 hq
  clear h
  rcases hL with ⟨N, hN, HA, HP⟩ | ⟨k, HA⟩
  · go_enter Try.func6, Try.ntmps6
    go_wp2_with fail
    refine (H1 _).out.mono ?_
    rintro e w1 ⟨rfl, hb1⟩
    go_wp2_with fail
    refine (H2 _).out.mono ?_
    rintro e w2 ⟨rfl, hb2⟩
    have hbA := hb1.trans (hb2.mono hb1.size)
    clear H1 H2 hb1 hb2
    go_wp2_with fail
    refine (HA _ hbA).out.mono ?_
    rintro e w3 ⟨rfl, hb3⟩
    have hbB := hbA.trans (hb3.mono hbA.size)
    clear HA hb3 hbA
    go_wp2_with fail
    refine (HP _ hbB).out.mono ?_
    rintro e w4 ⟨⟨A', c', rfl⟩, hb4⟩
    have hbC := hbB.trans (hb4.mono hbB.size)
    clear HP hb4 hbB
    go_wp2_with fail
    go_ret
    exact ⟨by first | rfl | simp, hbC⟩
  · go_enter Try.func6, Try.ntmps6
    go_wp2_with fail
    refine (H1 _).out.mono ?_
    rintro e w1 ⟨rfl, hb1⟩
    go_wp2_with fail
    refine (H2 _).out.mono ?_
    rintro e w2 ⟨rfl, hb2⟩
    have hbA := hb1.trans (hb2.mono hb1.size)
    clear H1 H2 hb1 hb2
    go_wp2_with fail
    refine (HA _ hbA).out.mono ?_
    rintro e w3 ⟨rfl, hb3⟩
    have hbB := hbA.trans (hb3.mono hbA.size)
    clear HA hb3 hbA
    go_wp2_with fail
    go_ret
    exact ⟨by first | rfl | simp, hbB⟩
set_option maxHeartbeats 8000000 in
set_option maxRecDepth 100000 in
theorem tro_ok (q k : Nat) (t : List UInt8) (A : Option Addr) (n c : Nat) (w : World) (hL : LKn A n c w) (hq8 : q ≤ 8) (ht : (ev 0 (2 * q))[k]? = some t) :
    Calls Try.prog 6 #[.int .i64 (q : Int), .int .i64 (k : Int), .slice A n c] w fun e w' => e = .returned (.bool true) ∧ Below w.heap.size w w' := by
  obtain ⟨i0, hi, hz0, hz1, hz2⟩ := info_parts int_info
  obtain ⟨t1, _, _, t4, t5⟩ := ev_at hq8 ht
  have hbl := bal_le hq8
  have H1 := fun W => hid (dat_ok q k t W hq8 ht)
  have H2 := fun W => hid (dat_ok 1 0 [40, 41] W (by omega) ev_one)
  have hq := one_text
  generalize txt [40, 41] = tt at H2 hq
  have H3 := fun W => hid (dcheck_ok (txt t) W t4)
  have hsz : (txt t).size = 2 * q := by rw [txt_size]; exact t1
  have hk1 : k ≤ 1430 := by omega
  have HZ := hid t4
  clear t1 t4 t5 hbl ht
  generalize txt t = s at H1 H3 hsz HZ
  have hsl : ((s.size : Int) != 2 * (q : Int)) = false := by simp; omega
  have hs16 : s.size ≤ 16 := by omega
  have Hsz := hid hsz
  clear hsz
  rcases hL with ⟨N, hN, HA, HP⟩ | ⟨k5, HA⟩
  · go_enter Try.func6, Try.ntmps6
    go_wp2_with fail
    refine (H1 _).out.mono ?_
    rintro e w1 ⟨rfl, hb1⟩
    go_wp2_with fail
    refine (H2 _).out.mono ?_
    rintro e w2 ⟨rfl, hb2⟩
    have hbA := hb1.trans (hb2.mono hb1.size)
    clear H1 H2 hb1 hb2
    go_wp2_with fail
    refine (HA _ hbA).out.mono ?_
    rintro e w3 ⟨rfl, hb3⟩
    have hbB := hbA.trans (hb3.mono hbA.size)
    clear HA hb3 hbA
    go_wp2_with fail
    refine (HP _ hbB).out.mono ?_
    rintro e w4 ⟨⟨A', c', rfl⟩, hb4⟩
    have hbC := hbB.trans (hb4.mono hbB.size)
    clear HP hb4 hbB
    go_wp2_with fail
    refine (H3 _).out.mono ?_
    rintro e w5 ⟨rfl, hb5⟩
    have hbD := hbC.trans (hb5.mono hbC.size)
    clear H3 hb5 hbC hN
    go_wp2_with fail
    have hszD := hbD.size
    go_loopw [15, 16, 17, 18] (fun d o m x wr => ∃ (i ob mb : Nat) (dp : List Int), i ≤ s.size ∧ x = .int .i64 i ∧ o = .int .i64 ob ∧ m = .int .i64 mb ∧ ob ≤ mb ∧ mb ≤ i ∧ Hid (BrTo s i ob) ∧ Hid (DpTo dp.reverse mb) ∧ dp.length = i ∧ Hid (OwnI wr w.heap.size 3 d dp) ∧ Below w.heap.size w wr) (fun _ _ _ x _ => s.size - (intOf x).toNat)
    case atStart => exact ⟨0, 0, 0, [], by omega, rfl, rfl, rfl, by omega, by omega, hid (brTo_start s), hid dp_start, rfl, hid (OwnI.nil _ _ _), hbD⟩
    case round =>
      clear hbD hszD
      obtain ⟨i, ob, mb, dp, hin, rfl, rfl, rfl, hom, hmi, HT, HD, hdl, HO, hb⟩ := hrel
      have hsw := hb.size
      by_cases hlt : i < s.size
      · have hli : (i : Int) < (s.size : Int) := by omega
        rcases byte_is40 hlt with ⟨c1, hc⟩ | ⟨c1, hc⟩
        · have HT2 := hid (brTo_op HT.out hlt hc)
          have HI := fun W => hid (in_yes ((ob : Int) + 1) 0 1000 W (by omega) (by omega))
          have hO := HO.out
          clear hc HT
          by_cases hm : ob = mb
          · subst hm
            have HD2 := hid (dp_more HD.out)
            have hgt : (ob : Int) < (ob : Int) + 1 := by omega
            clear HD HO
            go_wp2_with fail
            refine (HI _).out.mono ?_
            rintro e w6 ⟨rfl, hw6⟩
            subst w6
            clear HI
            go_wp2_with (at_builtin; refine wpList_append_int _ rfl (.tmp 91) (.tmp 93) 35 rfl w.heap.size 3 i0 Try.underlying35 hi hz0 hz1 hz2 _ dp rfl hO ((ob : Int) + 1) rfl (by omega) (by omega) ?_)
            intro v9 w9 hown9 hb9
            have hb99 := hb.trans hb9
            clear hb9 hO
            go_wp2_with fail
            go_roundw
            case rel => exact ⟨i + 1, ob + 1, ob + 1, dp ++ [(ob : Int) + 1], by omega, by go_num, by go_num, by go_num, by omega, by omega, HT2, HD2, by simp [hdl], hid hown9, hb99⟩
            case measure => simp [intOf]; omega
          · have HD2 := hid (dp_same (x := (ob : Int) + 1) HD.out (by omega) (by omega))
            have hgt : ¬ (mb : Int) < (ob : Int) + 1 := by omega
            clear HD HO
            go_wp2_with fail
            refine (HI _).out.mono ?_
            rintro e w6 ⟨rfl, hw6⟩
            subst w6
            clear HI
            go_wp2_with (at_builtin; refine wpList_append_int _ rfl (.tmp 91) (.tmp 93) 35 rfl w.heap.size 3 i0 Try.underlying35 hi hz0 hz1 hz2 _ dp rfl hO ((ob : Int) + 1) rfl (by omega) (by omega) ?_)
            intro v9 w9 hown9 hb9
            have hb99 := hb.trans hb9
            clear hb9 hO
            go_wp2_with fail
            go_roundw
            case rel => exact ⟨i + 1, ob + 1, mb, dp ++ [(ob : Int) + 1], by omega, by go_num, by go_num, rfl, by omega, by omega, HT2, HD2, by simp [hdl], hid hown9, hb99⟩
            case measure => simp [intOf]; omega
        · obtain ⟨p, rfl, hT2⟩ := br_step HZ.out HT.out hlt hc
          have HT2 := hid hT2
          have e1 : ((p + 1 : Nat) : Int) - 1 = (p : Int) := by omega
          have HI := fun W => hid (in_yes (p : Int) 0 1000 W (by omega) (by omega))
          have hO := HO.out
          have HD2 := hid (dp_same (x := (p : Int)) HD.out (by omega) (by omega))
          have hgt : ¬ (mb : Int) < (p : Int) := by omega
          clear hc HT hT2 HD HO
          go_wp2_with fail
          refine (HI _).out.mono ?_
          rintro e w6 ⟨rfl, hw6⟩
          subst w6
          clear HI
          go_wp2_with (at_builtin; refine wpList_append_int _ rfl (.tmp 91) (.tmp 93) 35 rfl w.heap.size 3 i0 Try.underlying35 hi hz0 hz1 hz2 _ dp rfl hO (p : Int) rfl (by omega) (by omega) ?_)
          intro v9 w9 hown9 hb9
          have hb99 := hb.trans hb9
          clear hb9 hO
          go_wp2_with fail
          go_roundw
          case rel => exact ⟨i + 1, p, mb, dp ++ [(p : Int)], by omega, by go_num, by go_num, rfl, by omega, by omega, HT2, HD2, by simp [hdl], hid hown9, hb99⟩
          case measure => simp [intOf]; omega
      · subst hdl
        have hni : ¬ (dp.length : Int) < (s.size : Int) := by omega
        obtain ⟨A9, c9, rfl, _, hI9⟩ := IsInts.of_own HO.out
        obtain ⟨g1, g2⟩ := dp_end HD.out
        have H9 := hid (slong_ok A9 dp.length c9 dp _ hI9 (dp_good HD.out (by omega) (by omega)))
        generalize lg ltB dp.reverse = L at g1 g2 H9
        have l1 : (mb : Int) ≤ (L : Int) := by omega
        have l2 : (L : Int) ≤ (mb : Int) + 1 := by omega
        clear HO HD HT hI9
        go_wp2_with fail
        refine H9.out.mono ?_
        rintro e w9 ⟨rfl, hb9⟩
        have hb99 := hb.trans (hb9.mono hb.size)
        clear H9 hb9
        go_wp2_with fail
        go_ret
        exact ⟨by first | rfl | simp, hb99⟩
  · go_enter Try.func6, Try.ntmps6
    go_wp2_with fail
    refine (H1 _).out.mono ?_
    rintro e w1 ⟨rfl, hb1⟩
    go_wp2_with fail
    refine (H2 _).out.mono ?_
    rintro e w2 ⟨rfl, hb2⟩
    have hbA := hb1.trans (hb2.mono hb1.size)
    clear H1 H2 hb1 hb2
    go_wp2_with fail
    refine (HA _ hbA).out.mono ?_
    rintro e w3 ⟨rfl, hb3⟩
    have hbC := hbA.trans (hb3.mono hbA.size)
    clear HA hb3 hbA
    go_wp2_with fail
    refine (H3 _).out.mono ?_
    rintro e w5 ⟨rfl, hb5⟩
    have hbD := hbC.trans (hb5.mono hbC.size)
    clear H3 hb5 hbC
    go_wp2_with fail
    have hszD := hbD.size
    go_loopw [15, 16, 17, 18] (fun d o m x wr => ∃ (i ob mb : Nat) (dp : List Int), i ≤ s.size ∧ x = .int .i64 i ∧ o = .int .i64 ob ∧ m = .int .i64 mb ∧ ob ≤ mb ∧ mb ≤ i ∧ Hid (BrTo s i ob) ∧ Hid (DpTo dp.reverse mb) ∧ dp.length = i ∧ Hid (OwnI wr w.heap.size 3 d dp) ∧ Below w.heap.size w wr) (fun _ _ _ x _ => s.size - (intOf x).toNat)
    case atStart => exact ⟨0, 0, 0, [], by omega, rfl, rfl, rfl, by omega, by omega, hid (brTo_start s), hid dp_start, rfl, hid (OwnI.nil _ _ _), hbD⟩
    case round =>
      clear hbD hszD
      obtain ⟨i, ob, mb, dp, hin, rfl, rfl, rfl, hom, hmi, HT, HD, hdl, HO, hb⟩ := hrel
      have hsw := hb.size
      by_cases hlt : i < s.size
      · have hli : (i : Int) < (s.size : Int) := by omega
        rcases byte_is40 hlt with ⟨c1, hc⟩ | ⟨c1, hc⟩
        · have HT2 := hid (brTo_op HT.out hlt hc)
          have HI := fun W => hid (in_yes ((ob : Int) + 1) 0 1000 W (by omega) (by omega))
          have hO := HO.out
          clear hc HT
          by_cases hm : ob = mb
          · subst hm
            have HD2 := hid (dp_more HD.out)
            have hgt : (ob : Int) < (ob : Int) + 1 := by omega
            clear HD HO
            go_wp2_with fail
            refine (HI _).out.mono ?_
            rintro e w6 ⟨rfl, hw6⟩
            subst w6
            clear HI
            go_wp2_with (at_builtin; refine wpList_append_int _ rfl (.tmp 91) (.tmp 93) 35 rfl w.heap.size 3 i0 Try.underlying35 hi hz0 hz1 hz2 _ dp rfl hO ((ob : Int) + 1) rfl (by omega) (by omega) ?_)
            intro v9 w9 hown9 hb9
            have hb99 := hb.trans hb9
            clear hb9 hO
            go_wp2_with fail
            go_roundw
            case rel => exact ⟨i + 1, ob + 1, ob + 1, dp ++ [(ob : Int) + 1], by omega, by go_num, by go_num, by go_num, by omega, by omega, HT2, HD2, by simp [hdl], hid hown9, hb99⟩
            case measure => simp [intOf]; omega
          · have HD2 := hid (dp_same (x := (ob : Int) + 1) HD.out (by omega) (by omega))
            have hgt : ¬ (mb : Int) < (ob : Int) + 1 := by omega
            clear HD HO
            go_wp2_with fail
            refine (HI _).out.mono ?_
            rintro e w6 ⟨rfl, hw6⟩
            subst w6
            clear HI
            go_wp2_with (at_builtin; refine wpList_append_int _ rfl (.tmp 91) (.tmp 93) 35 rfl w.heap.size 3 i0 Try.underlying35 hi hz0 hz1 hz2 _ dp rfl hO ((ob : Int) + 1) rfl (by omega) (by omega) ?_)
            intro v9 w9 hown9 hb9
            have hb99 := hb.trans hb9
            clear hb9 hO
            go_wp2_with fail
            go_roundw
            case rel => exact ⟨i + 1, ob + 1, mb, dp ++ [(ob : Int) + 1], by omega, by go_num, by go_num, rfl, by omega, by omega, HT2, HD2, by simp [hdl], hid hown9, hb99⟩
            case measure => simp [intOf]; omega
        · obtain ⟨p, rfl, hT2⟩ := br_step HZ.out HT.out hlt hc
          have HT2 := hid hT2
          have e1 : ((p + 1 : Nat) : Int) - 1 = (p : Int) := by omega
          have HI := fun W => hid (in_yes (p : Int) 0 1000 W (by omega) (by omega))
          have hO := HO.out
          have HD2 := hid (dp_same (x := (p : Int)) HD.out (by omega) (by omega))
          have hgt : ¬ (mb : Int) < (p : Int) := by omega
          clear hc HT hT2 HD HO
          go_wp2_with fail
          refine (HI _).out.mono ?_
          rintro e w6 ⟨rfl, hw6⟩
          subst w6
          clear HI
          go_wp2_with (at_builtin; refine wpList_append_int _ rfl (.tmp 91) (.tmp 93) 35 rfl w.heap.size 3 i0 Try.underlying35 hi hz0 hz1 hz2 _ dp rfl hO (p : Int) rfl (by omega) (by omega) ?_)
          intro v9 w9 hown9 hb9
          have hb99 := hb.trans hb9
          clear hb9 hO
          go_wp2_with fail
          go_roundw
          case rel => exact ⟨i + 1, p, mb, dp ++ [(p : Int)], by omega, by go_num, by go_num, rfl, by omega, by omega, HT2, HD2, by simp [hdl], hid hown9, hb99⟩
          case measure => simp [intOf]; omega
      · subst hdl
        have hni : ¬ (dp.length : Int) < (s.size : Int) := by omega
        obtain ⟨A9, c9, rfl, _, hI9⟩ := IsInts.of_own HO.out
        obtain ⟨g1, g2⟩ := dp_end HD.out
        have H9 := hid (slong_ok A9 dp.length c9 dp _ hI9 (dp_good HD.out (by omega) (by omega)))
        generalize lg ltB dp.reverse = L at g1 g2 H9
        have l1 : (mb : Int) ≤ (L : Int) := by omega
        have l2 : (L : Int) ≤ (mb : Int) + 1 := by omega
        clear HO HD HT hI9
        go_wp2_with fail
        refine H9.out.mono ?_
        rintro e w9 ⟨rfl, hb9⟩
        have hb99 := hb.trans (hb9.mono hb.size)
        clear H9 hb9
        go_wp2_with fail
        go_ret
        exact ⟨by first | rfl | simp, hb99⟩
theorem tro_any (x y : Int) (A : Option Addr) (n c : Nat) (l : List Int) (w : World) (hn : n ≤ maxLen) (hl : IsInts w w.heap.size A n l) :
    Calls Try.prog 6 #[.int .i64 x, .int .i64 y, .slice A n c] w fun e w' => e = .returned (.bool true) ∧ Below w.heap.size w w' := by
  have hL := lkn_any A n c l w hn hl
  by_cases h : 0 ≤ x ∧ x ≤ 8 ∧ 0 ≤ y ∧ y < (bal 0 (2 * x.toNat) : Nat)
  · obtain ⟨q, rfl⟩ : ∃ q : Nat, x = (q : Int) := ⟨x.toNat, by omega⟩
    obtain ⟨k, rfl⟩ : ∃ k : Nat, y = (k : Int) := ⟨y.toNat, by omega⟩
    rw [Int.toNat_natCast] at h
    obtain ⟨t, ht⟩ := ev_some (show k < bal 0 (2 * q) by omega)
    exact tro_ok q k t A n c w hL (by omega) ht
  · exact tro_bad x y A n c w hL h
end Go.Proofs.Ytlbefiaieehcfaa
