/-
  The walk of MirrorSays: it returns true for every text, and leaves the old memory alone. Conditions: the row's own size; errors.errorType as the program's text lays it.
-/
import Derived.Test.YtgfkbbepngmpnaaDoorErr
import Derived.Test.YtgfkbbepngmpnaaDoorLong
import Derived.Test.YtgfkbbepngmpnaaDoorMirO
import Derived.Test.YtgfkbbepngmpnaaDoorRmirs
import Derived.Test.YtgfkbbepngmpnaaDoorTwo
import Derived.Test.YtgfkbbepngmpnaaDoorInts
namespace Go.Proofs.YtgfkbbepngmpnaaDoor
open Go.RowKit

set_option maxHeartbeats 1600000 in
set_option maxRecDepth 100000 in
theorem mrsays_long (s : ByteArray) (w : World) (h : 24 < s.size) (hs : s.size ≤ maxLen) (hg : Laid w) :
    Calls Tryd.prog 3 #[.string s] w fun e w' => e = .returned (.bool true) ∧ Below w.heap.size w w' := by
  have H1 := fun w => hid (long_yes s w h hs)
  have H2 := fun w => hid (odd_long s w h hs)
  have H3 := fun w => hid (even_long s w h hs)
  have H4 := fun w => hid (longest_long s w h hs)
  have HI := fun w => hid (ints_ok none none 0 0 0 0 [] w 0 0 (by omega) (by omega) IsInts.nil IsInts.nil)
  have hp := hg.pos
  unfold maxLen at hs
  go_enter Tryd.func3, Tryd.ntmps3
  go_wp2_with fail
  refine (H1 _).out.mono ?_
  rintro e w1 ⟨rfl, rfl⟩
  go_wp2_with fail
  refine wp_loop_rounds 1 ?_
  rw [rounds_succ]
  go_wp2_with fail
  refine (H2 _).out.mono ?_
  rintro e w2 ⟨rfl, hb2⟩
  have hg2 := hg.below hp hb2
  go_wp2_with fail
  refine (error_err 4 _ hg2).mono ?_
  rintro e w3 ⟨rfl, hc3⟩
  have hb3 := Below.on hb2 hc3 (Nat.le_refl _)
  clear hb2 hc3 hg2
  go_wp2_with fail
  refine (HI _).out.mono ?_
  rintro e w4 ⟨rfl, hc4⟩
  have hb4 := Below.on hb3 hc4 (Nat.le_refl _)
  clear hb3 hc4
  go_wp2_with fail
  refine (H3 _).out.mono ?_
  rintro e w5 ⟨rfl, hc5⟩
  have hb5 := Below.on hb4 hc5 (Nat.le_refl _)
  have hg5 := hg.below hp hb5
  clear hb4 hc5
  go_wp2_with fail
  refine (error_err 4 _ hg5).mono ?_
  rintro e w6 ⟨rfl, hc6⟩
  have hb6 := Below.on hb5 hc6 (Nat.le_refl _)
  clear hb5 hc6 hg5
  go_wp2_with fail
  refine (HI _).out.mono ?_
  rintro e w7 ⟨rfl, hc7⟩
  have hb7 := Below.on hb6 hc7 (Nat.le_refl _)
  clear hb6 hc7
  go_wp2_with fail
  refine (H4 _).out.mono ?_
  rintro e w8 ⟨rfl, hc8⟩
  have hb8 := Below.on hb7 hc8 (Nat.le_refl _)
  have hg8 := hg.below hp hb8
  clear hb7 hc8
  go_wp2_with fail
  refine (error_err 4 _ hg8).mono ?_
  rintro e w9 ⟨rfl, hc9⟩
  have hb9 := Below.on hb8 hc9 (Nat.le_refl _)
  clear hb8 hc9 hg8
  go_wp2
  go_ret
  exact ⟨rfl, hb9⟩

set_option maxHeartbeats 1600000 in
set_option maxRecDepth 100000 in
theorem mrsays_any (s : ByteArray) (w : World) (h : s.size ≤ 24) :
    Calls Tryd.prog 3 #[.string s] w fun e w' => e = .returned (.bool true) ∧ Below w.heap.size w w' := by
  obtain ⟨i0, hi, hz0, hz1, hz2⟩ := info_parts int_info
  go_enter Tryd.func3, Tryd.ntmps3
  go_wp2_with fail
  refine (long_no s _ h).mono ?_
  rintro e w1 ⟨rfl, rfl⟩
  go_wp2_with fail
  go_loopw [4, 5, 8] (fun v u t wr => ∃ k : Nat, k ≤ s.size ∧ t = .int .i64 k ∧ Hid (OwnI wr w1.heap.size 3 v (oddL (sg s) s.size k)) ∧ Hid (OwnI wr w1.heap.size 3 u (evenL (sg s) s.size k)) ∧ Hid (Apt v u) ∧ Below w1.heap.size w1 wr) (fun _ _ t _ => s.size - (intOf t).toNat)
  case atStart => exact ⟨0, by omega, rfl, hid (OwnI.nil _ _ _), hid (OwnI.nil _ _ _), hid (Apt.nil _), Below.refl _ _⟩
  case round =>
    obtain ⟨k, hk, rfl, HX, HY, HP, hb⟩ := hrel
    have hsz := hb.size
    by_cases hlt : k < s.size
    · have HE1 := hid (oddL_succ (sg s) s.size k)
      have HE2 := hid (evenL_succ (sg s) s.size k)
      have hl1 : (oddL (sg s) s.size k).length ≤ 24 := by rw [oddL_len]; omega
      have hl2 : (evenL (sg s) s.size k).length ≤ 24 := by rw [evenL_len]; omega
      have HR := fun w => hid (mirrors_odd s k w h hlt)
      have HS := fun w => hid (mirrors_even s k w h hlt)
      generalize oddL (sg s) s.size k = xs at HX HE1 hl1
      generalize evenL (sg s) s.size k = ys at HY HE2 hl2
      generalize oddN (sg s) s.size k = x at HR HE1
      generalize evenN (sg s) s.size k = y at HS HE2
      go_wp2_with fail
      refine (HR _).out.mono ?_
      rintro e w2 ⟨rfl, q, rfl⟩
      have HX2 := hid (HX.out.drewN q)
      have HY2 := hid (HY.out.drewN q)
      have hb2 := below_drewN hb q
      have hsz2 := hb2.size
      generalize wr.drewN q = w3 at HX2 HY2 hb2 hsz2 ⊢
      clear HX HY hb HR
      go_wp2_with (at_builtin; refine wpList_append_two _ rfl (.tmp 27) (.tmp 31) 23 rfl w1.heap.size 3 i0 Tryd.underlying23 hi hz0 hz1 hz2 _ xs rfl HX2.out (x : Int) rfl (by omega) (by omega) _ ys HY2.out HP.out ?_)
      intro v' w4 hown4 hoth4 hap4 hb4
      have HX4 := hid hown4
      have HY4 := hid hoth4
      have HP4 := hid hap4.symm
      have hb4 := hb2.trans hb4
      clear HX2 HY2 hb2 hown4 hoth4 hap4 HP
      go_wp2_with fail
      refine (HS _).out.mono ?_
      rintro e w5 ⟨rfl, q5, rfl⟩
      have HX5 := hid (HX4.out.drewN q5)
      have HY5 := hid (HY4.out.drewN q5)
      have hb5 := below_drewN hb4 q5
      have hsz5 := hb5.size
      generalize w4.drewN q5 = w6 at HX5 HY5 hb5 hsz5 ⊢
      clear HX4 HY4 hb4 HS
      go_wp2_with (at_builtin; refine wpList_append_two _ rfl (.tmp 33) (.tmp 37) 23 rfl w1.heap.size 3 i0 Tryd.underlying23 hi hz0 hz1 hz2 _ ys rfl HY5.out (y : Int) rfl (by omega) (by omega) _ (xs ++ [(x : Int)]) HX5.out HP4.out ?_)
      intro u' w7 hown7 hoth7 hap7 hb7
      have HX7 := hid hoth7
      have HY7 := hid hown7
      have HP7 := hid hap7.symm
      have hb7 := hb5.trans hb7
      clear HX5 HY5 hb5 hown7 hoth7 hap7 HP4
      rw [← HE1.out] at HX7
      rw [← HE2.out] at HY7
      clear HE1 HE2
      go_wp2
      go_roundw
      case rel => exact ⟨k + 1, by omega, by go_num, HX7, HY7, HP7, hb7⟩
      case measure => simp [intOf]; omega
    · have he : k = s.size := by omega
      rw [he] at HX HY
      clear he
      obtain ⟨A0, c0, rfl, hI0⟩ := own_n HX.out (oddL_len _ _ _)
      obtain ⟨A1, c1, rfl, hI1⟩ := own_n HY.out (evenL_len _ _ _)
      have HL := fun w => hid (rlong_any s w h)
      have HO := fun w => hid (odd_any s w h)
      have HE := fun w => hid (even_any s w h)
      have HM := fun w => hid (longest_any s w h)
      have hx0 := oddL_len (sg s) s.size s.size
      have hy0 := evenL_len (sg s) s.size s.size
      have HX0 := hid hx0
      have HY0 := hid hy0
      generalize oddL (sg s) s.size s.size = xs at hI0 HO HX0
      generalize evenL (sg s) s.size s.size = ys at hI1 HE HY0
      clear HX HY HP hx0 hy0
      go_wp2_with fail
      refine (HL _).out.mono ?_
      rintro e w2 ⟨a, m, rfl, hl, q, rfl⟩
      have HL2 := hid hl
      have hI0 := hI0.drewN q
      have hI1 := hI1.drewN q
      have hb2 := below_drewN hb q
      have hI0 : IsInts (wr.drewN q) (wr.drewN q).heap.size A0 s.size xs := hI0
      have hI1 : IsInts (wr.drewN q) (wr.drewN q).heap.size A1 s.size ys := hI1
      generalize wr.drewN q = w3 at hI0 hI1 hb2 ⊢
      clear hb hl HL
      go_wp2_with fail
      refine (HO _).out.mono ?_
      rintro e w4 ⟨v4, rfl, ho4, hc4⟩
      obtain ⟨A4, c4, rfl, hI4⟩ := own_n ho4 HX0.out
      have hJ0 := hI0.up hc4
      have hJ1 := hI1.up hc4
      have hb4 := Below.on hb2 hc4 (Nat.le_refl _)
      clear ho4 HO hb2 hc4 hI0 hI1
      go_wp2_with fail
      refine (error_nil _).mono ?_
      rintro e w5 ⟨rfl, rfl⟩
      have H5 := hid (ints_ok A4 A0 s.size s.size c4 c0 xs w5 _ _ (by omega) (by omega) hI4 hJ0)
      clear hI4 hJ0
      go_wp2_with fail
      refine H5.out.mono ?_
      rintro e w6 ⟨rfl, hc6⟩
      have hK1 := hJ1.up hc6
      have hb6 := Below.on hb4 hc6 (Nat.le_refl _)
      clear H5 hb4 hc6 hJ1
      go_wp2_with fail
      refine (HE _).out.mono ?_
      rintro e w7 ⟨v7, rfl, ho7, hc7⟩
      obtain ⟨A7, c7, rfl, hI7⟩ := own_n ho7 HY0.out
      have hJ1 := hK1.up hc7
      have hb7 := Below.on hb6 hc7 (Nat.le_refl _)
      clear ho7 HE hb6 hc7 hK1
      go_wp2_with fail
      refine (error_nil _).mono ?_
      rintro e w8 ⟨rfl, rfl⟩
      have H8 := hid (ints_ok A7 A1 s.size s.size c7 c1 ys w8 _ _ (by omega) (by omega) hI7 hJ1)
      clear hI7 hJ1
      go_wp2_with fail
      refine H8.out.mono ?_
      rintro e w9 ⟨rfl, hc9⟩
      have hb9 := Below.on hb7 hc9 (Nat.le_refl _)
      clear H8 hb7 hc9
      go_wp2_with fail
      refine (HM _).out.mono ?_
      rintro e w10 ⟨a', m', rfl, hl', hc10⟩
      obtain ⟨rfl, rfl⟩ := lgst_one HL2.out hl'
      have hb10 := Below.on hb9 hc10 (Nat.le_refl _)
      clear HM hb9 hc10 hl' HL2
      go_wp2_with fail
      refine (error_nil _).mono ?_
      rintro e w11 ⟨rfl, rfl⟩
      go_wp2
      go_ret
      exact ⟨by simp, hb10⟩
end Go.Proofs.YtgfkbbepngmpnaaDoor
