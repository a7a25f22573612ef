/-
  The walk of ZetaSays: it returns true for every text, and leaves the old memory alone. Conditions: the row's own size; errors.errorType as the program's text lays it.
-/
import Derived.Test.YtgpailgadpndjaaDoorErr
import Derived.Test.YtgpailgadpndjaaDoorRefE
import Derived.Test.YtgpailgadpndjaaDoorLong
import Derived.Test.YtgpailgadpndjaaDoorAlike
import Derived.Test.YtgpailgadpndjaaDoorZeta
import Derived.Test.YtgpailgadpndjaaDoorInts
namespace Go.Proofs.YtgpailgadpndjaaDoor
open Go.RowKit

set_option maxHeartbeats 800000 in
theorem zsays_long (s : ByteArray) (w : World) (h : 24 < s.size) (hs : s.size ≤ maxLen) (hg : Laid w) :
    Calls Tryd.prog 3 #[.string s] w fun e w' => e = .returned (.bool true) ∧ Below w.heap.size w w' := by
  have H1 := fun w => hid (long_yes s w h hs)
  have H2 := fun w => hid (zof_long s w h hs)
  have H3 := fun w => hid (zedges_long s w h hs)
  have HI := fun w => hid (ints_ok none none 0 0 0 0 [] w 0 0 (by omega) (by omega) IsInts.nil IsInts.nil)
  have hp := hg.pos
  unfold maxLen at hs
  go_enter Tryd.func3, Tryd.ntmps3
  go_wp2_with fail
  refine (H1 _).out.mono ?_
  rintro e w1 ⟨rfl, rfl⟩
  go_wp2_with fail
  refine wp_loop_rounds 1 ?_
  rw [rounds_succ]
  go_wp2_with fail
  refine (H2 _).out.mono ?_
  rintro e w1 ⟨rfl, rfl⟩
  go_wp2_with fail
  refine (error_err 4 _ hg).mono ?_
  rintro e w2 ⟨rfl, hb2⟩
  go_wp2_with fail
  refine (HI _).out.mono ?_
  rintro e w3 ⟨rfl, hb3⟩
  have hb3 : Below w1.heap.size w1 w3 := hb2.trans (hb3.mono hb2.size)
  have hg3 := hg.below hp hb3
  go_wp2_with fail
  refine (H3 _).out.mono ?_
  rintro e w4 ⟨rfl, rfl⟩
  go_wp2_with fail
  refine (error_err 4 _ hg3).mono ?_
  rintro e w5 ⟨rfl, hb5⟩
  have hb5 : Below w1.heap.size w1 w5 := hb3.trans (hb5.mono hb3.size)
  go_wp2_with fail
  refine (HI _).out.mono ?_
  rintro e w6 ⟨rfl, hb6⟩
  go_wp2
  go_ret
  exact ⟨rfl, hb5.trans (hb6.mono hb5.size)⟩

set_option maxHeartbeats 1600000 in
theorem zsays_any (s : ByteArray) (w : World) (h : s.size ≤ 24) :
    Calls Tryd.prog 3 #[.string s] w fun e w' => e = .returned (.bool true) ∧ Below w.heap.size w w' := by
  obtain ⟨i0, hi, hz0, hz1, hz2⟩ := info_parts int_info
  go_enter Tryd.func3, Tryd.ntmps3
  go_wp2_with fail
  refine (long_no s _ h).mono ?_
  rintro e w1 ⟨rfl, rfl⟩
  go_wp2_with fail
  go_loopw [4, 6] (fun v t wr => ∃ k : Nat, k ≤ s.size ∧ t = .int .i64 k ∧ OwnI wr w1.heap.size 3 v (zL s k) ∧ Below w1.heap.size w1 wr) (fun _ t _ => s.size - (intOf t).toNat)
  case atStart => exact ⟨0, by omega, rfl, OwnI.nil _ _ _, Below.refl _ _⟩
  case round =>
    obtain ⟨k, hk, rfl, hown, hb⟩ := hrel
    have hsz := hb.size
    by_cases hlt : k < s.size
    · have HE := hid (zL_succ s k)
      have hlen : (zL s k).length ≤ 24 := by rw [zL_len]; omega
      generalize zL s k = cs at hown HE hlen
      have hcs : (s.extract k s.size).size ≤ 1099511627776 := by rw [ByteArray.size_extract]; omega
      have HR := fun w => hid (alike_any s (s.extract k s.size) w (by omega) hcs)
      rw [alikeN_end s k (by omega)] at HR
      have hcut : ∀ W : World, Sem.run Tryd.prog (Instr.slice 9 (.string s) (some (.int .i64 (k : Int))) none none) W = .ok (.string (s.extract k s.size)) W := fun W =>
        run_slice_string_l W 9 s Tryd.underlying9 .i64 (k : Int) (by omega) (by omega)
      generalize s.extract k s.size = s1 at HR hcut
      generalize zl (sg s) s.size k = l at HR HE
      clear hcs
      go_wp2_with fail
      refine (HR _).out.mono ?_
      rintro e w2 ⟨rfl, q, rfl⟩
      have hown2 := hown.drewN q
      have hb12 := below_drewN hb q
      have hsz3 := hb12.size
      generalize wr.drewN q = w3 at hown2 hb12 hsz3 ⊢
      clear hcut HR hown hb
      go_wp2_with (at_builtin; refine wpList_append_int _ rfl (.tmp 22) (.tmp 28) 23 rfl w1.heap.size 3 i0 Tryd.underlying23 hi hz0 hz1 hz2 _ cs rfl hown2 (l : Int) rfl (by omega) (by omega) ?_)
      intro v' w4 hown4 hb4
      go_wp2
      go_roundw
      case rel => exact ⟨k + 1, by omega, by go_num, by rw [HE.out]; exact hown4, hb12.trans hb4⟩
      case measure => simp [intOf]; omega
    · have he : k = s.size := by omega
      rw [he] at hown
      clear he
      obtain ⟨A0, c0, rfl, _, hI0⟩ := IsInts.of_own hown
      have hx0 : (zL s s.size).length ≤ 24 := by rw [zL_len]; exact h
      have hx1 : (allL s).length ≤ 24 := Nat.le_trans (all_len s) h
      have HO := fun w => hid (zof_any s w h)
      have HA := fun w => hid (zedges_any s w h)
      have HR := fun w => hid (refEdges_any s w (by omega))
      have hfl : s.size = (zL s s.size).length := (zL_len s _).symm
      have HF := hid hfl
      generalize zL s s.size = os at hown hI0 hx0 HO HF ⊢
      generalize allL s = ys at hx1 HA HR
      clear hown hfl
      go_wp2_with fail
      refine (HR _).out.mono ?_
      rintro e w2 ⟨v2, rfl, ho2, hb2⟩
      have hs2 := hb2.size
      have hI0 := hI0.below hb2
      have hb2 := hb.trans (hb2.mono hsz)
      obtain ⟨A2, c2, rfl, _, hI2⟩ := IsInts.of_own ho2
      clear ho2 HR hb hsz
      go_wp2_with fail
      refine (HO _).out.mono ?_
      rintro e w3 ⟨rfl, ho3, hb3⟩
      obtain ⟨A3, c3, hv3, _, hI3⟩ := IsInts.of_own ho3
      rw [hv3]
      have hs3 := hb3.size
      have hI0 := hI0.below (hb3.mono hs2)
      have hI2 := hI2.below hb3
      have hb3 := hb2.trans (hb3.mono hb2.size)
      clear ho3 hv3 HO hb2
      go_wp2_with fail
      refine (error_nil _).mono ?_
      rintro e w4 ⟨rfl, rfl⟩
      have H5 := hid (ints_ok A3 A0 os.length os.length c3 c0 os w4 _ _ (by omega) (by omega) hI3 hI0)
      clear hI0 hI3
      go_wp2_with fail
      refine H5.out.mono ?_
      rintro e w5 ⟨rfl, hb5⟩
      have hI2 := hI2.below (hb5.mono hs3)
      have hs5 := hb5.size
      have hb5 := hb3.trans (hb5.mono hb3.size)
      clear H5 hb3
      go_wp2_with fail
      refine (HA _).out.mono ?_
      rintro e w6 ⟨v6, rfl, ho6, hb6⟩
      obtain ⟨A6, c6, rfl, _, hI6⟩ := IsInts.of_own ho6
      have hI2 := hI2.below (hb6.mono (Nat.le_trans hs3 hs5))
      have hb6 := hb5.trans (hb6.mono hb5.size)
      clear ho6 HA hb5
      go_wp2_with fail
      refine (error_nil _).mono ?_
      rintro e w7 ⟨rfl, rfl⟩
      have H8 := hid (ints_ok A6 A2 ys.length ys.length c6 c2 ys w7 _ _ (by omega) (by omega) hI6 hI2)
      clear hI2 hI6
      go_wp2_with fail
      refine H8.out.mono ?_
      rintro e w8 ⟨rfl, hb8⟩
      clear H8
      go_wp2
      go_ret
      exact ⟨rfl, hb6.trans (hb8.mono hb6.size)⟩
end Go.Proofs.YtgpailgadpndjaaDoor
