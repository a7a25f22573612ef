/-
  The walk of SuffixSays: it returns true for every text, and leaves the old memory alone. Conditions: the row's own size; errors.errorType as the program's text lays it.
-/
import Derived.Test.YtdkbgikniacekaaDoorErr
import Derived.Test.YtdkbgikniacekaaDoorLong2
import Derived.Test.YtdkbgikniacekaaDoorSufT
import Derived.Test.YtdkbgikniacekaaDoorRsort
import Derived.Test.YtdkbgikniacekaaDoorRends
import Derived.Test.YtdkbgikniacekaaDoorRcount
import Derived.Test.YtdkbgikniacekaaDoorAlike
import Derived.Test.YtdkbgikniacekaaDoorInts
import Derived.Test.YtdkbgikniacekaaDoorNats
import Derived.Maps.AppendAt
namespace Go.Proofs.YtdkbgikniacekaaDoor
open Go.RowKit Go.Proofs

attribute [local go_sem] Oper.semAt_some

/-- The ends' places, as the reference sorts them, are the order. -/
theorem sl_ord {s : ByteArray} {os : List Nat} (h : Sl (endsT s s.size) os) (hl : os.length = s.size) : Ord (bs s) os := by
  have hw : ∀ i, i < s.size → bs (wat (endsT s s.size) i) = (bs s).drop i := fun i hi => by rw [endsT_at s hi, bs_drop]
  have hlt : ∀ i ∈ os, i < s.size := fun i hi => by have := h.1 i hi; rwa [endsT_len] at this
  have hb := bs_len s
  have hless : os.Pairwise fun i j => (bs s).drop i < (bs s).drop j := h.2.1.imp_of_mem fun {a b} ha hb' hab => by
    rcases hab with h1 | ⟨h1, h2⟩
    · rwa [hw a (hlt a ha), hw b (hlt b hb')] at h1
    · rw [hw a (hlt a ha), hw b (hlt b hb')] at h1
      exact absurd h1 (drop_ne (by rw [bs_len]; exact hlt a ha) (by rw [bs_len]; exact hlt b hb') (by omega))
  have hn : os.Nodup := List.Pairwise.imp (fun {a b} (h1 : (bs s).drop a < (bs s).drop b) (e : a = b) => lt_irr _ (by rw [e] at h1; exact h1)) hless
  refine ⟨(List.perm_ext_iff_of_nodup hn List.nodup_range).2 fun i => ?_, hless⟩
  rw [List.mem_range, bs_len]
  exact ⟨hlt i, fun hi => nodup_full hl hlt hn i hi⟩

set_option maxHeartbeats 1600000 in
set_option maxRecDepth 100000 in
theorem sfsays_long (s : ByteArray) (w : World) (h : 24 < s.size) (hs : s.size ≤ maxLen) (hg : Laid w) :
    Calls Tryd.prog 3 #[.string s] w fun e w' => e = .returned (.bool true) ∧ Below w.heap.size w w' := by
  have H1 := fun w => hid (long2_yes s 24 w h)
  have H2 := fun w => hid (order_long s w h hs)
  have H3 := fun w => hid (salike_long s w h hs)
  have H4 := fun w => hid (scount_long s w h hs)
  have HI := fun w => hid (ints_ok none none 0 0 0 0 [] w 0 0 (by omega) (by omega) IsInts.nil IsInts.nil)
  have hp := hg.pos
  unfold maxLen at hs
  go_enter Tryd.func3, Tryd.ntmps3
  go_wp2_with fail
  refine (H1 _).out.mono ?_
  rintro e w1 ⟨rfl, hw1⟩
  subst w1
  go_wp2_with fail
  refine (H2 _).out.mono ?_
  rintro e w1 ⟨rfl, hb1⟩
  have hg1 := hg.below hp hb1
  go_wp2_with fail
  refine (error_err 4 _ hg1).mono ?_
  rintro e w2 ⟨rfl, hc2⟩
  have hb2 := Below.on hb1 hc2 (Nat.le_refl _)
  clear hb1 hc2 hg1
  go_wp2_with fail
  refine (HI _).out.mono ?_
  rintro e w3 ⟨rfl, hc3⟩
  have hb3 := Below.on hb2 hc3 (Nat.le_refl _)
  clear hb2 hc3
  go_wp2_with fail
  refine (H3 _).out.mono ?_
  rintro e w4 ⟨rfl, hc4⟩
  have hb4 := Below.on hb3 hc4 (Nat.le_refl _)
  have hg4 := hg.below hp hb4
  clear hb3 hc4
  go_wp2_with fail
  refine (error_err 4 _ hg4).mono ?_
  rintro e w5 ⟨rfl, hc5⟩
  have hb5 := Below.on hb4 hc5 (Nat.le_refl _)
  clear hb4 hc5 hg4
  go_wp2_with fail
  refine (HI _).out.mono ?_
  rintro e w6 ⟨rfl, hc6⟩
  have hb6 := Below.on hb5 hc6 (Nat.le_refl _)
  clear hb5 hc6
  go_wp2_with fail
  refine (H4 _).out.mono ?_
  rintro e w7 ⟨rfl, hc7⟩
  have hb7 := Below.on hb6 hc7 (Nat.le_refl _)
  have hg7 := hg.below hp hb7
  clear hb6 hc7
  go_wp2_with fail
  refine (error_err 4 _ hg7).mono ?_
  rintro e w8 ⟨rfl, hc8⟩
  have hb8 := Below.on hb7 hc8 (Nat.le_refl _)
  clear hb7 hc8 hg7
  go_wp2
  go_ret
  exact ⟨rfl, hb8⟩

set_option maxHeartbeats 4000000 in
set_option maxRecDepth 100000 in
theorem sfsays_short (s : ByteArray) (w : World) (h : s.size ≤ 24) :
    Calls Tryd.prog 3 #[.string s] w fun e w' => e = .returned (.bool true) ∧ Below w.heap.size w w' := by
  obtain ⟨i0, hi, hz0, hz1, hz2⟩ := info_parts int_info
  have H1 := fun w => hid (long2_no s 24 w h)
  have H2 := fun w => hid (rends_any s w (by omega))
  have H4 := fun w => hid (rcount_any s w h)
  have H5 := fun w => hid (order_any s w h)
  have H6 := fun w => hid (salike_any s w h)
  have H7 := fun w => hid (scount_any s w h)
  have hK : cN (bs s) ≤ 300 := by
    have h1 := cN_le (bs s)
    rw [bs_len] at h1
    have : s.size * (s.size + 1) ≤ 24 * 25 := Nat.mul_le_mul h (Nat.succ_le_succ h)
    omega
  generalize cN (bs s) = K at H4 H7 hK
  go_enter Tryd.func3, Tryd.ntmps3
  go_wp2_with fail
  refine (H1 _).out.mono ?_
  rintro e w1 ⟨rfl, hw1⟩
  subst w1
  go_wp2_with fail
  refine (H2 _).out.mono ?_
  rintro e w1 ⟨v1, rfl, ho1, hb1⟩
  obtain ⟨A1, c1, rfl, hS1⟩ := IsStrs.of_own ho1 (endsT_len s s.size)
  have H3 := hid (rsort_any A1 s.size c1 (endsT s s.size) w1 (by omega) (fun i hi => by rw [endsT_at s hi, ByteArray.size_extract]; omega) hS1)
  clear ho1 hS1 H1 H2
  go_wp2_with fail
  refine H3.out.mono ?_
  rintro e w2 ⟨v2, o, rfl, ⟨hSl, hol⟩, ho2, hb2⟩
  rw [endsT_len] at hol
  have hO := sl_ord hSl hol
  obtain ⟨A2, c2, rfl, hI2⟩ := own_n (n := s.size) ho2 (by rw [List.length_map]; exact hol)
  have hbA := Below.on hb1 hb2 (Nat.le_refl _)
  have HO := hid hO
  have HI2 := hid hI2
  have HX : Hid (∀ k, k < s.size → o.getD k 0 < s.size) := hid fun k hk => by have := hO.lt (k := k) (by rw [bs_len]; exact hk); rwa [bs_len] at this
  clear H3 ho2 hb1 hb2 hSl hol hO hI2
  go_wp2_with fail
  go_loopw [5, 7] (fun v x wr => ∃ i : Nat, 1 ≤ i ∧ (i ≤ s.size ∨ i = 1) ∧ x = .int .i64 i ∧ Hid (OwnI wr w2.heap.size 3 v (nbTo (bs s) o (i - 1))) ∧ Below w2.heap.size w2 wr) (fun _ x _ => s.size - (intOf x).toNat)
  case atStart => exact ⟨1, Nat.le_refl _, .inr rfl, rfl, hid (OwnI.nil _ _ _), Below.refl _ _⟩
  case round =>
    obtain ⟨i, hi1, hi2, rfl, HV, hbr⟩ := hrel
    by_cases hlt : i < s.size
    · obtain ⟨k, rfl⟩ : ∃ k, i = k + 1 := ⟨i - 1, by omega⟩
      obtain ⟨g, off, rfl, hg, hcell⟩ := nats_at HI2.out (by omega)
      have hx1 : wr.cell? ⟨g, off + k, none⟩ = some (.int .i64 ((o.getD k 0 : Nat) : Int)) := (hbr.cell hg).trans (hcell k (by omega))
      have hx2 : wr.cell? ⟨g, off + (k + 1), none⟩ = some (.int .i64 ((o.getD (k + 1) 0 : Nat) : Int)) := (hbr.cell hg).trans (hcell (k + 1) hlt)
      have hl1 := HX.out k (by omega)
      have hl2 := HX.out (k + 1) hlt
      have hc1 : ∀ W : World, Sem.run Tryd.prog (Instr.slice 9 (.string s) (some (.int .i64 ((o.getD k 0 : Nat) : Int))) none none) W = .ok (.string (s.extract (o.getD k 0) s.size)) W := fun W =>
        run_slice_string_l W 9 s Tryd.underlying9 .i64 _ (by omega) (by omega)
      have hc2 : ∀ W : World, Sem.run Tryd.prog (Instr.slice 9 (.string s) (some (.int .i64 ((o.getD (k + 1) 0 : Nat) : Int))) none none) W = .ok (.string (s.extract (o.getD (k + 1) 0) s.size)) W := fun W =>
        run_slice_string_l W 9 s Tryd.underlying9 .i64 _ (by omega) (by omega)
      have HC := fun W => hid (alike_any (s.extract (o.getD k 0) s.size) (s.extract (o.getD (k + 1) 0) s.size) W (by rw [ByteArray.size_extract]; omega) (by rw [ByteArray.size_extract]; omega))
      rw [alikeN_lc, bs_drop, bs_drop] at HC
      have HS : Hid (nbTo (bs s) o (k + 1 + 1 - 1) = nbTo (bs s) o k ++ [((lc ((bs s).drop (o.getD k 0)) ((bs s).drop (o.getD (k + 1) 0)) : Nat) : Int)]) := hid (nbTo_succ (bs s) o k)
      have hv : OwnI wr w2.heap.size 3 _ (nbTo (bs s) o k) := HV.out
      have hvl := nbTo_len (bs s) o k
      generalize ((lc ((bs s).drop (o.getD k 0)) ((bs s).drop (o.getD (k + 1) 0)) : Nat) : Int) = L at HC HS
      generalize s.extract (o.getD k 0) s.size = t1 at hc1 HC
      generalize s.extract (o.getD (k + 1) 0) s.size = t2 at hc2 HC
      generalize ((o.getD k 0 : Nat) : Int) = x1 at hx1 hc1
      generalize ((o.getD (k + 1) 0 : Nat) : Int) = x2 at hx2 hc2
      generalize nbTo (bs s) o k = ys at HS hv hvl
      have hwk : IntKind.i64.wrap (k : Int) = k := IntWalk.i64_in _ (by omega)
      have hk3 : (k : Int) < (s.size : Int) := by omega
      have hk4 : (k : Int) + 1 < (s.size : Int) := by omega
      have hk5 : ((k : Int) + 1).toNat = k + 1 := by omega
      have hk6 : (0 : Int) ≤ (k : Int) + 1 := by omega
      clear hcell HV H4 H5 H6 H7 hl1 hl2
      go_wp2_with fail
      refine (wpIn_wide (n := 1)).1 ?_
      refine wpIn_region_float (C := fun w' => ∃ q, w' = wr.drewN q) (lets_wide _) 15 26 _ _ _ (by kernel_rfl) rfl rfl rfl rfl (by kernel_rfl) ⟨1, rfl⟩ ?_
      simp only [List.take_succ_cons, List.take_zero, List.drop_succ_cons, List.drop_zero]
      repeat (quiet_step ((go_at_call 7; exact Calls.quiet_of (HC _).out)))
      refine wpQuiet_nil ?_
      rintro _ ⟨q, rfl⟩
      obtain ⟨W1, hW1⟩ : ∃ z, z = wr.drewN q := ⟨_, rfl⟩
      have hv1 := hv.drewN q
      rw [← hW1] at hv1
      have hb1 : Below w2.heap.size w2 W1 := by rw [hW1]; exact below_drewN hbr q
      rw [← hW1]
      clear hW1 hv hx1 hx2 hc1 hc2 HC hbr
      have hrow : W1.ownsRow w2.heap.size 3 1 _ ys.length (ys.map (Value.int .i64)) := hv1
      have fin : ∀ (tmp : Obj) (v' : Value) (w3 : World), w3.ownsRow w2.heap.size 3 1 v' (ys.length + 1) (ys.map (Value.int .i64) ++ [.int .i64 L]) → (W1.alloc tmp).grownBy w3 (Value.ownBlock _) → OwnI w3 w2.heap.size 3 v' (ys ++ [L]) ∧ Below w2.heap.size w2 w3 := fun tmp v' w3 hown' hgrow =>
        ⟨OwnI.mk_ (by rw [List.length_append, List.map_append]; exact hown'), hb1.trans (((Below.refl w2.heap.size W1).alloc hb1.size tmp).grown hgrow (by have := hb1.size; simp; omega) fun b hb => (World.ownsRow.lt hv1 b hb).1)⟩
      clear hv1
      refine ⟨?_, ?_⟩
      · gi_wp2_with (gi_at_builtin; refine wpListIn_append_own _ rfl _ _ 23 rfl w2.heap.size 3 i0 (.int .i64 0) 1 8 Tryd.underlying23 hi hz0 hz1 hz2 rfl (by decide) _ _ _ rfl (hrow.alloc _) ⟨W1.heap.size, 0, none⟩ 1 1 [.int .i64 L] rfl rfl (cell_one_new _ _ _) (by simp [Value.oneCell']) (by unfold maxLen; omega) (by omega) (by have := hb1.size; simp; omega) ?_; intro v' w3 hown' hgrow _; have HF := hid (fin _ _ _ hown' hgrow); clear hown' hgrow)
        go_wp2_with fail
        go_roundw
        case rel => exact ⟨k + 1 + 1, by omega, by omega, by go_num, hid (by rw [HS.out]; exact HF.out.1), HF.out.2⟩
        case measure => simp [intOf]; omega
      · gi_wp2_with (gi_at_builtin; refine wpListIn_append_own _ rfl _ _ 23 rfl w2.heap.size 3 i0 (.int .i64 0) 1 8 Tryd.underlying23 hi hz0 hz1 hz2 rfl (by decide) _ _ _ rfl (hrow.alloc _) ⟨W1.heap.size, 0, none⟩ 1 1 [.int .i64 L] rfl rfl (cell_one_new _ _ _) (by simp [Value.oneCell']) (by unfold maxLen; omega) (by omega) (by have := hb1.size; simp; omega) ?_; intro v' w3 hown' hgrow _; have HF := hid (fin _ _ _ hown' hgrow); clear hown' hgrow)
        go_wp2_with fail
        go_roundw
        case rel => exact ⟨k + 1 + 1, by omega, by omega, by go_num, hid (by rw [HS.out]; exact HF.out.1), HF.out.2⟩
        case measure => simp [intOf]; omega
    · have hv := HV.out
      rw [show i - 1 = s.size - 1 by omega] at hv
      obtain ⟨A3, c3, rfl, hI3⟩ := own_n hv (nbTo_len (bs s) o (s.size - 1))
      have hbB := Below.on hbA hbr (Nat.le_refl _)
      have HI2r := hid (HI2.out.up hbr)
      have HI3 := hid hI3
      have hM : s.size - 1 ≤ 24 := by omega
      obtain ⟨wz, hwz⟩ : ∃ z, z = wr := ⟨_, rfl⟩
      subst hwz
      clear HV hv hI3 hbr hbA HX HI2 hi2 hi1
      go_wp2_with fail
      refine (H4 _).out.mono ?_
      rintro e w4 ⟨rfl, hb4⟩
      have HI2s := hid (HI2r.out.up hb4)
      have HI3s := hid (HI3.out.up hb4)
      have hbC := Below.on hbB hb4 (Nat.le_refl _)
      clear H4 hb4 hbB HI2r HI3
      go_wp2_with fail
      refine (H5 _).out.mono ?_
      rintro e w5 ⟨A5, c5, o5, rfl, hO5, hI5, hb5⟩
      obtain rfl := ord_one hO5 HO.out
      have HJ := hid (ints_ok A5 A2 s.size s.size c5 c2 _ w5 _ _ (by omega) (by omega) hI5 (HI2s.out.up hb5))
      have HI3t := hid (HI3s.out.up hb5)
      have hbD := Below.on hbC hb5 (Nat.le_refl _)
      clear H5 hb5 hbC HI2s HI3s hO5 hI5
      go_wp2_with fail
      refine (error_nil _).mono ?_
      rintro e w6 ⟨rfl, hw6⟩
      subst w6
      go_wp2_with fail
      refine HJ.out.mono ?_
      rintro e w6 ⟨rfl, hb6⟩
      have HI3u := hid (HI3t.out.up hb6)
      have hbE := Below.on hbD hb6 (Nat.le_refl _)
      clear HJ hb6 hbD HI3t
      go_wp2_with fail
      refine (H6 _).out.mono ?_
      rintro e w7 ⟨v7, o7, rfl, hO7, ho7, hb7⟩
      obtain rfl := ord_one hO7 HO.out
      obtain ⟨A7, c7, rfl, hI7⟩ := own_n ho7 (nbTo_len (bs s) o7 (s.size - 1))
      have HJ := hid (ints_ok A7 A3 (s.size - 1) (s.size - 1) c7 c3 _ w7 _ _ (by omega) (by omega) hI7 (HI3u.out.up hb7))
      have hbF := Below.on hbE hb7 (Nat.le_refl _)
      clear H6 hb7 hbE HI3u hO7 ho7 hI7
      generalize s.size - 1 = M at HJ hM ⊢
      go_wp2_with fail
      refine (error_nil _).mono ?_
      rintro e w8 ⟨rfl, hw8⟩
      subst w8
      go_wp2_with fail
      refine HJ.out.mono ?_
      rintro e w8 ⟨rfl, hb8⟩
      have hbG := Below.on hbF hb8 (Nat.le_refl _)
      clear HJ hb8 hbF
      go_wp2_with fail
      refine (H7 _).out.mono ?_
      rintro e w9 ⟨rfl, hb9⟩
      have hbH := Below.on hbG hb9 (Nat.le_refl _)
      clear H7 hb9 hbG
      go_wp2_with fail
      refine (error_nil _).mono ?_
      rintro e w10 ⟨rfl, hw10⟩
      subst w10
      go_wp2_with fail
      go_ret
      exact ⟨rfl, hbH⟩
theorem sfsays_all (s : ByteArray) (w : World) (hs : s.size ≤ maxLen) (hg : Laid w) :
    Calls Tryd.prog 3 #[.string s] w fun e w' => e = .returned (.bool true) ∧ Below w.heap.size w w' := by
  by_cases h : s.size ≤ 24
  · exact sfsays_short s w h
  · exact sfsays_long s w (by omega) hs hg
end Go.Proofs.YtdkbgikniacekaaDoor
