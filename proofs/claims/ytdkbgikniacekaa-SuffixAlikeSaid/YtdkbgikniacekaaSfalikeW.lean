/-
  The walk of SuffixAlike (Kasai): it returns true for every text, and leaves the old memory alone. No condition but the row's own size.
-/
import Derived.Test.YtdkbgikniacekaaSffact
import Derived.Test.YtdkbgikniacekaaIn2
import Derived.StillTailTactics
import Derived.Deep.OwnRows
namespace Go.Proofs.Ytdkbgikniacekaa
open Go.RowKit

set_option maxHeartbeats 400000 in
theorem sfalike_long (s : ByteArray) (w : World) (h : 24 < s.size) (hs : s.size ≤ maxLen) :
    Calls Try.prog 4 #[.string s] w fun e w' => e = .returned (.bool true) ∧ Below w.heap.size w w' := by
  have H1 := fun W => hid (order_long s W h hs)
  have H2 := fun W => hid (salike_long s W h hs)
  unfold maxLen at hs
  go_enter Try.func4, Try.ntmps4
  go_wp2_with fail
  refine (sffact_any _).mono ?_
  rintro e w1 ⟨rfl, hb1⟩
  go_wp2_with fail
  refine (H1 _).out.mono ?_
  rintro e w2 ⟨rfl, hb2⟩
  have hbw := Below.on hb1 hb2 (Nat.le_refl _)
  clear H1 hb1 hb2
  go_wp2_with fail
  refine (H2 _).out.mono ?_
  rintro e w3 ⟨rfl, hb3⟩
  have hbx := Below.on hbw hb3 (Nat.le_refl _)
  clear H2 hbw hb3
  go_wp2
  go_ret
  exact ⟨rfl, hbx⟩
set_option maxRecDepth 100000 in
set_option maxHeartbeats 1000000 in
theorem sfalike_none (s : ByteArray) (w : World) (h0 : s.size = 0) :
    Calls Try.prog 4 #[.string s] w fun e w' => e = .returned (.bool true) ∧ Below w.heap.size w w' := by
  obtain ⟨i0, hi, hz0, hz1, hz2⟩ := info_parts int_info
  have H1 : ∀ W : World, Hid (Calls Try.prog 11 #[.string s] W fun e w' => ∃ A c, e = .returned (.tuple #[.slice A 0 c, .nilIface]) ∧ Below W.heap.size W w') := fun W => hid ((order_any s W (by omega)).mono fun e w' ⟨A, c, o, h1, _, _, h4⟩ => ⟨A, c, by rw [h1, h0], h4⟩)
  have H2 : ∀ W : World, Hid (Calls Try.prog 14 #[.string s] W fun e w' => ∃ A c, e = .returned (.tuple #[.slice A 0 c, .nilIface]) ∧ Below W.heap.size W w') := fun W => hid ((salike_any s W (by omega)).mono fun e w' ⟨v, o, h1, _, h3, h4⟩ => by
    obtain ⟨A, c, rfl, _⟩ := own_n (n := 0) h3 (by rw [nbTo_len, h0])
    exact ⟨A, c, h1, h4⟩)
  go_enter Try.func4, Try.ntmps4
  go_wp2_with fail
  refine (sffact_any _).mono ?_
  rintro e w1 ⟨rfl, hb1⟩
  go_wp2_with fail
  refine (H1 _).out.mono ?_
  rintro e w2 ⟨A, c, rfl, hb2⟩
  have hbw := Below.on hb1 hb2 (Nat.le_refl _)
  clear H1 hb1 hb2
  go_wp2_with fail
  refine (H2 _).out.mono ?_
  rintro e w3 ⟨A2, c2, rfl, hb3⟩
  have hbx := Below.on hbw hb3 (Nat.le_refl _)
  clear H2 hbw hb3
  go_wp2_with (at_make; refine wpList_make_full _ rfl _ _ 23 rfl w3.heap.size 3 i0 (.int .i64 0) 1 Try.underlying23 hi hz0 hz1 _ _ _ _ 1 rfl rfl rfl rfl (by rw [hz2]; omega) (by unfold maxLen; omega) (Nat.le_refl _) ?_)
  intro w4 hown hgrow
  have hb4 : Below w3.heap.size w3 w4 := (Below.refl _ _).grown hgrow (Nat.le_refl _) (by simp)
  have hbz := Below.on hbx hb4 (Nat.le_refl _)
  clear hown hgrow hb4 hbx
  go_wp2
  go_rounds 1
  go_rounds 1
  go_ret
  exact ⟨rfl, hbz⟩
set_option maxRecDepth 100000 in
set_option maxHeartbeats 4000000 in
theorem sfalike_some (s : ByteArray) (w : World) (h0 : 0 < s.size) (h : s.size ≤ 24) :
    Calls Try.prog 4 #[.string s] w fun e w' => e = .returned (.bool true) ∧ Below w.heap.size w w' := by
  obtain ⟨i0, hi, hz0, hz1, hz2⟩ := info_parts int_info
  have H1 := fun W => hid (order_any s W h)
  have H2 := fun W => hid (salike_any s W h)
  go_enter Try.func4, Try.ntmps4
  go_wp2_with fail
  refine (sffact_any _).mono ?_
  rintro e w1 ⟨rfl, hb1⟩
  go_wp2_with fail
  refine (H1 _).out.mono ?_
  rintro e w2 ⟨A, c, o, rfl, hO, hI, hb2⟩
  have hbw := Below.on hb1 hb2 (Nat.le_refl _)
  clear H1 hb1 hb2
  go_wp2_with fail
  refine (H2 _).out.mono ?_
  rintro e w3 ⟨v, o', rfl, hO', hown, hb3⟩
  obtain rfl := ord_one hO' hO
  obtain ⟨A2, c2, rfl, hI2⟩ := own_n hown (nbTo_len (bs s) o' (s.size - 1))
  have hI3 := hI.up hb3
  have hbx := Below.on hbw hb3 (Nat.le_refl _)
  have hsx := hbx.size
  have HO := hid hO
  have HI := hid hI3
  have HM := hid hI2
  have HB := hid (bs_len s)
  clear H2 hbw hb3 hown hO hO' hI hI2 hI3
  have he1 : ((s.size - 1 : Nat) : Int) = (s.size : Int) - 1 := by omega
  obtain ⟨m, hm⟩ : ∃ m, m = s.size - 1 := ⟨_, rfl⟩
  rw [← hm] at he1 HM ⊢
  have HMM := hid hm
  clear hm
  go_wp2_with (at_make; refine wpList_make_full _ rfl _ _ 23 rfl w3.heap.size 3 i0 (.int .i64 0) 1 Try.underlying23 hi hz0 hz1 _ _ _ _ (s.size + 1) rfl rfl (by push_cast; rfl) (by push_cast; rfl) (by rw [hz2]; omega) (by unfold maxLen; omega) (Nat.le_refl _) ?_)
  intro w4 hown hgrow
  rw [rowF_made] at hown
  have hb4 : Below w3.heap.size w3 w4 := (Below.refl _ _).grown hgrow (Nat.le_refl _) (by simp)
  clear hgrow hi hz0 hz1 hz2
  have HR0 : Hid (w4.ownsRow w3.heap.size 3 1 (.slice (some ⟨w3.heap.size, 0, none⟩) (s.size + 1) (s.size + 1)) (s.size + 1) (rowF (s.size + 1) (farF (bs s) o' 1))) := hid (by
    rw [rowF_congr (g := fun _ => 0) (fun j _ => by simp [farF])]; exact hown)
  clear hown
  go_wp2_with fail
  go_loopw [9] (fun x wr => ∃ i : Nat, 1 ≤ i ∧ i ≤ s.size ∧ x = .int .i64 i ∧ Hid (wr.ownsRow w3.heap.size 3 1 (.slice (some ⟨w3.heap.size, 0, none⟩) (s.size + 1) (s.size + 1)) (s.size + 1) (rowF (s.size + 1) (farF (bs s) o' i))) ∧ Below w3.heap.size w3 wr) (fun x _ => s.size - (intOf x).toNat)
  case atStart => exact ⟨1, Nat.le_refl _, h0, rfl, HR0, hb4⟩
  case round =>
    clear HR0 hb4
    obtain ⟨i, hi1, hi2, rfl, HR, hbr⟩ := hrel
    by_cases hlt : i < s.size
    · obtain ⟨k, rfl⟩ : ∃ k, i = k + 1 := ⟨i - 1, by omega⟩
      obtain ⟨g, off, rfl, hg, hcell⟩ := nats_at HI.out h0
      obtain ⟨g2, off2, rfl, hg2, hcell2⟩ := HM.out.2 (by omega)
      have hx : wr.cell? ⟨g, off + (k + 1), none⟩ = some (.int .i64 ((o'.getD (k + 1) 0 : Nat) : Int)) := (hbr.cell hg).trans (hcell (k + 1) hlt)
      have hm1 : k < m := by omega
      have hy : wr.cell? ⟨g2, off2 + k, none⟩ = some (.int .i64 ((lcp (bs s) o' k : Nat) : Int)) := by
        rw [hbr.cell (p := ⟨g2, off2 + k, none⟩) hg2, hcell2 k hm1, nbTo_at _ _ hm1]
      have hxl : o'.getD (k + 1) 0 < s.size := by have := HO.out.lt (k := k + 1) (by rw [HB.out]; exact hlt); rwa [HB.out] at this
      have hyl : lcp (bs s) o' k + o'.getD (k + 1) 0 ≤ s.size := by
        have := lcp_le (bs s) o' k
        rw [HB.out] at this
        omega
      have hst := HR.out.stored (o'.getD (k + 1) 0) (.int .i64 ((lcp (bs s) o' k : Nat) : Int))
      rw [rowF_set, rowF_congr (g := farF (bs s) o' (k + 1 + 1)) (fun j _ => by
        show _ = if 0 < k + 1 ∧ j = o'.getD (k + 1) 0 then _ else _
        by_cases e : j = o'.getD (k + 1) 0
        · rw [if_pos e, if_pos ⟨by omega, e⟩]; rfl
        · rw [if_neg e, if_neg (fun e' => e e'.2)])] at hst
      have HST := hid hst
      have hcx : wr.cell? ⟨w3.heap.size, o'.getD (k + 1) 0, none⟩ = some (.int .i64 (farF (bs s) o' (k + 1) (o'.getD (k + 1) 0))) := by rw [HR.out.cellAt _ (by omega), rowF_get _ _ _ (by omega)]
      have hfx := HR.out.frozenAt (o'.getD (k + 1) 0)
      clear hcell hcell2 hst HR
      generalize farF (bs s) o' (k + 1) (o'.getD (k + 1) 0) = z at hcx
      generalize o'.getD (k + 1) 0 = x at hx hxl hyl hcx hfx HST
      generalize lcp (bs s) o' k = y at hy hyl HST
      have e1 : ((k : Int) + 1).toNat = k + 1 := by omega
      have e2 : (0 : Int) ≤ (k : Int) + 1 := by omega
      have e3 : (k : Int) + 1 < (s.size : Int) := by omega
      have e4 : (x : Int) < (s.size : Int) + 1 := by omega
      have e5 : (k : Int) < (m : Int) := by omega
      have hwk : IntKind.i64.wrap (k : Int) = k := IntWalk.i64_in _ (by omega)
      clear he1
      go_wp2_with fail
      go_quiet ((go_at_call 12; exact Calls.quiet_of_same (in_yes _ _ _ _ (by omega) (by omega))))
      obtain ⟨wA, hwA⟩ : ∃ z, z = wr.drewN nq := ⟨_, rfl⟩
      have hx2 : wA.cell? ⟨g, off + (k + 1), none⟩ = some (.int .i64 (x : Int)) := by rw [hwA]; exact hx
      have hy2 : wA.cell? ⟨g2, off2 + k, none⟩ = some (.int .i64 (y : Int)) := by rw [hwA]; exact hy
      have hc2 : wA.drew.cell? ⟨w3.heap.size, x, none⟩ = some (.int .i64 z) := by rw [hwA]; exact hcx
      have hf2 : wA.drew.frozen? ⟨w3.heap.size, x, none⟩ = false := by rw [hwA]; exact hfx
      have HS2 : Hid ((wA.drew.setCell ⟨w3.heap.size, x, none⟩ (.int .i64 (y : Int))).ownsRow w3.heap.size 3 1 (.slice (some ⟨w3.heap.size, 0, none⟩) (s.size + 1) (s.size + 1)) (s.size + 1) (rowF (s.size + 1) (farF (bs s) o' (k + 1 + 1)))) := hid (by rw [hwA]; exact HST.out.1)
      have hb2 : Below w3.heap.size w3 wA.drew := by rw [hwA]; exact below_drewN (below_drewN hbr nq) 1
      rw [← hwA]
      clear hwA hx hy hcx hfx HST hbr
      go_wp2_with fail
      go_still_tail 11, (by kernel_rfl)
      change wpList _ _ _ _ _ wA.drew
      generalize wA.drew = wB at hc2 hf2 HS2 hb2 ⊢
      clear hx2 hy2
      go_wp2_with fail
      go_roundw
      case rel => exact ⟨k + 1 + 1, by omega, by omega, by go_num, HS2, hb2.setCell (by simp) _⟩
      case measure => simp [intOf]; omega
    · obtain rfl : i = s.size := by omega
      have hbz := Below.on hbx hbr (Nat.le_refl _)
      have HK : Hid (∀ p, p + 1 < s.size → farF (bs s) o' s.size p - 1 ≤ farF (bs s) o' s.size (p + 1)) := hid fun p hp => by
        have := kasai HO.out (p := p) (by rw [HB.out]; exact hp)
        rwa [HB.out] at this
      have HF : Hid (∀ p, 0 ≤ farF (bs s) o' s.size p ∧ farF (bs s) o' s.size p ≤ 24) := hid fun p => by
        have h1 := farF_nonneg (bs s) o' s.size p
        have h2 := farF_le (bs s) o' s.size p
        rw [HB.out] at h2
        omega
      generalize farF (bs s) o' s.size = F at HR HK HF
      obtain ⟨wz, hwz⟩ : ∃ z, z = wr := ⟨_, rfl⟩
      subst hwz
      clear hbr HI HM he1 hi1 hi2
      go_wp2_with fail
      go_loopw [10] (fun x wr => ∃ p q : Nat, p ≤ s.size ∧ x = .int .i64 p ∧ Hid (wr = wz.drewN q)) (fun x _ => s.size - (intOf x).toNat)
      case atStart => exact ⟨0, 0, by omega, rfl, hid rfl⟩
      case round =>
        obtain ⟨p, q, hp, rfl, HQ⟩ := hrel
        by_cases hlp : p + 1 < s.size
        · have hp1 : wr.cell? ⟨w3.heap.size, p, none⟩ = some (.int .i64 (F p)) := by rw [HQ.out, World.cell?_drewN, HR.out.cellAt _ (by omega), rowF_get _ _ _ (by omega)]
          have hp2 : wr.cell? ⟨w3.heap.size, p + 1, none⟩ = some (.int .i64 (F (p + 1))) := by rw [HQ.out, World.cell?_drewN, HR.out.cellAt _ (by omega), rowF_get _ _ _ (by omega)]
          have hk := HK.out p hlp
          have hf1 := HF.out p
          have hf2 := HF.out (p + 1)
          generalize F p = X at hp1 hk hf1
          generalize F (p + 1) = Y at hp2 hk hf2
          have hd : decide (Y < X - 1) = false := by simp; omega
          have e1 : ((p : Int) + 1).toNat = p + 1 := by omega
          have e2 : (0 : Int) ≤ (p : Int) + 1 := by omega
          have e3 : (p : Int) + 1 < (s.size : Int) + 1 := by omega
          have e4 : (p : Int) < (s.size : Int) + 1 := by omega
          go_wp2_with fail
          go_quiet (fail)
          go_wp2_with fail
          go_roundw
          case rel => exact ⟨p + 1, _, by omega, by go_num, hid (by rw [HQ.out]; exact World.drewN_drewN _ _ _)⟩
          case measure => simp [intOf]; omega
        · go_wp2_with fail
          go_ret
          exact ⟨rfl, by rw [HQ.out]; exact below_drewN hbz q⟩
theorem sfalike_any (s : ByteArray) (w : World) (hs : s.size ≤ maxLen) :
    Calls Try.prog 4 #[.string s] w fun e w' => e = .returned (.bool true) ∧ Below w.heap.size w w' := by
  by_cases h : s.size ≤ 24
  · by_cases h0 : s.size = 0
    · exact sfalike_none s w h0
    · exact sfalike_some s w (by omega) h
  · exact sfalike_long s w (by omega) hs
end Go.Proofs.Ytdkbgikniacekaa
