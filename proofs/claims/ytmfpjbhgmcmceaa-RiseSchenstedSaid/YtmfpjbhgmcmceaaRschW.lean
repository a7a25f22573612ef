/-
  The walk of RiseSchensted: it returns true at every list of numbers. Conditions: the row's own sizes.
-/
import Derived.Test.YtmfpjbhgmcmceaaRsfact
import Derived.Test.YtmfpjbhgmcmceaaRschM
import Derived.Test.YtmfpjbhgmcmceaaSumS
import Derived.Test.YtmfpjbhgmcmceaaTwo
import Derived.Test.YtmfpjbhgmcmceaaOn
namespace Go.Proofs.Ytmfpjbhgmcmceaa
open Go.RowKit

theorem rsch_bad (A : Option Addr) (n c : Nat) (l : List Int) (k : Int) (w : World) (hn : n ≤ maxLen) (hl : IsInts w w.heap.size A n l) (hk : BadR l k) :
    Calls Try.prog 5 #[.slice A n c] w fun e w' => e = .returned (.bool true) ∧ Below w.heap.size w w' := by
  have HF := hid (sfact_any w)
  have HL := hid hl
  have H1 := fun W h => hid (sshape_bad A n c l k W hn h hk)
  clear hl hk hn
  go_enter Try.func5, Try.ntmps5
  go_wp2_with fail
  refine HF.out.mono ?_
  rintro e w1 ⟨rfl, hb1⟩
  have HL1 := hid (HL.out.up hb1)
  clear HF HL
  go_wp2_with fail
  refine (H1 _ HL1.out).out.mono ?_
  rintro e w2 ⟨rfl, hb2⟩
  have hbA := hb1.trans (hb2.mono hb1.size)
  clear H1 HL1 hb1 hb2
  go_wp2_with fail
  go_ret
  exact ⟨rfl, hbA⟩
set_option maxHeartbeats 4000000 in
set_option maxRecDepth 100000 in
theorem rsch_ok (A : Option Addr) (n c : Nat) (l : List Int) (w : World) (hl : IsInts w w.heap.size A n l) (hg : GoodR l) :
    Calls Try.prog 5 #[.slice A n c] w fun e w' => e = .returned (.bool true) ∧ Below w.heap.size w w' := by
  obtain ⟨i0, hi, hz0, hz1, hz2⟩ := info_parts int_info
  have HF := hid (sfact_any w)
  have HL := hid hl
  have hln : l.length = n := hl.1
  have hn2 : n ≤ 20 := by have := hg.1; omega
  have H1 := fun W h => hid (sshape_ok A n c l W h hg)
  have HG := hid hg
  have HLN := hid hln
  clear hl hg hln
  go_enter Try.func5, Try.ntmps5
  go_wp2_with fail
  refine HF.out.mono ?_
  rintro e w1 ⟨rfl, hb1⟩
  have HL1 := hid (HL.out.up hb1)
  clear HF HL
  go_wp2_with fail
  refine (H1 _ HL1.out).out.mono ?_
  rintro e w2 ⟨A2, c2, rfl, hI, hb2⟩
  have HL2 := hid (HL1.out.up hb2)
  have hbA := hb1.trans (hb2.mono hb1.size)
  have HI := hid hI
  clear H1 HL1 hb1 hb2 hI
  have hsz := hbA.size
  obtain ⟨m, hm⟩ : ∃ m, m = (shp l).length := ⟨_, rfl⟩
  have hm20 : m ≤ 20 := by rw [hm]; exact shp_le HG.out
  have HM := hid hm
  rw [← hm] at HI ⊢
  clear hm
  have HLen : Hid (∀ t, ((l.drop t).reverse).length ≤ 1099511627776) := hid (fun t => by rw [List.length_reverse, List.length_drop, HLN.out]; omega)
  go_wp2_with fail
  go_loopw [6, 7, 8] (fun v u x wr => ∃ (t : Nat) (z : Int) (p q : Value), v = p ∧ u = q ∧ t ≤ n ∧ x = .int .i64 z ∧ z = (t : Int) - 1 ∧ Hid (OwnI wr w2.heap.size 3 p (l.drop t).reverse) ∧ Hid (OwnI wr w2.heap.size 3 q (l.drop t).reverse) ∧ Hid (Apt p q) ∧ Below w2.heap.size w2 wr) (fun _ _ x _ => (intOf x + 1).toNat)
  case atStart =>
    have e : (l.drop n).reverse = [] := by rw [List.drop_eq_nil_of_le (by rw [HLN.out]; exact Nat.le_refl _)]; rfl
    exact ⟨n, _, _, _, rfl, rfl, Nat.le_refl _, rfl, by omega, hid (by rw [e]; exact OwnI.nil _ _ _), hid (by rw [e]; exact OwnI.nil _ _ _), hid (Apt.nil _), Below.refl _ _⟩
  case round =>
    obtain ⟨t, z, v, u, hv, hu, htn, rfl, hz, HO, HU, HA, hbx⟩ := hrel
    have hv := hv.symm
    subst hv
    have hu := hu.symm
    subst hu
    rcases t with _ | p
    · have hneg : decide (z ≥ 0) = false := decide_eq_false (by omega)
      rw [List.drop_zero] at HO HU
      clear hz
      obtain ⟨A6, c6, rfl, _, hI6⟩ := IsInts.of_own HO.out
      obtain ⟨A7, c7, rfl, _, hI7⟩ := IsInts.of_own HU.out
      have hrl : l.reverse.length = n := by rw [List.length_reverse, HLN.out]
      rw [hrl] at hI6 hI7 ⊢
      have hGr := goodR_rev HG.out
      have H6 := hid (sfall_ok A6 n c6 l.reverse wr hI6 hGr)
      have H7 := fun W (h : Below wr.heap.size wr W) => hid (slong_ok A7 n c7 l.reverse W (IsInts.up hI7 h) hGr)
      rw [List.reverse_reverse] at H6 H7
      have hIs := HI.out.up hbx
      have hbw := hbA.trans (hbx.mono hbA.size)
      have HSum := fun W (h : Below wr.heap.size wr W) => hid (sumS_any A2 m c2 _ (shp l) W (by omega) (hIs.up h) (shp_mem HG.out))
      rw [shp_sum, HLN.out] at HSum
      rw [← shp_rows HG.out, ← HM.out] at H7
      have HIs := hid hIs
      have HFirst := hid (fun h0 => shp_first HG.out h0)
      have HFall := hid (fun i (h : i + 1 < (shp l).length) => shp_fall h)
      rw [HLN.out, ← HM.out] at HFirst
      rw [← HM.out] at HFall
      have HEmp : Hid (n = 0 → m = 0) := hid (fun h => by
        have e : l = [] := List.length_eq_zero_iff.1 (by rw [HLN.out]; exact h)
        rw [HM.out, e]; rfl)
      generalize lg geB l = F at H6 HFirst
      generalize shp l = S at HIs HFirst HFall
      clear hIs hI6 hI7 HO HU HA hbx hbA hsz HLen hrl hGr HL2 HI
      go_wp2_with fail
      refine H6.out.mono ?_
      rintro e w3 ⟨rfl, hb3⟩
      have HS3 := hid (HIs.out.up hb3)
      go_wp2_with fail
      refine (H7 _ hb3).out.mono ?_
      rintro e w4 ⟨rfl, hb4⟩
      have HS4 := hid (HS3.out.up hb4)
      have hb34 := hb3.trans (hb4.mono hb3.size)
      go_wp2_with fail
      refine (HSum _ hb34).out.mono ?_
      rintro e w5 ⟨rfl, hw5⟩
      subst w5
      have hbZ := hbw.trans (hb34.mono hbw.size)
      have hne1 : ((n : Int) != (n : Int)) = false := by simp
      have hne2 : ((m : Int) != (m : Int)) = false := by simp
      clear H6 H7 HSum HIs HS3 hb3 hb4 hb34 hbw HM
      by_cases h0 : n = 0
      · have hn0 : ((n : Int) == 0) = true := beq_iff_eq.2 (by omega)
        have hm0 : ((m : Int) == 0) = true := beq_iff_eq.2 (by have := HEmp.out h0; omega)
        clear HEmp
        go_wp2_with fail
        go_ret
        exact ⟨rfl, hbZ⟩
      · have hn0 : ((n : Int) == 0) = false := beq_eq_false_iff_ne.2 (by omega)
        obtain ⟨hm1, hfst⟩ := HFirst.out (by omega)
        have HFst := hid hfst
        clear hfst HFirst HEmp
        go_wp2_with fail
        go_loopw [13] (fun x wr => ∃ i : Nat, 1 ≤ i ∧ x = .int .i64 i ∧ Hid (∃ q, wr = w4.drewN q)) (fun x _ => 21 - (intOf x).toNat)
        case atStart => exact ⟨1, by omega, rfl, hid ⟨0, rfl⟩⟩
        case round =>
          obtain ⟨i, hi1, rfl, HQ⟩ := hrel
          obtain ⟨q, hq⟩ := HQ.out
          obtain ⟨g, off, rfl, hg, hc⟩ := HS4.out.2 (by omega)
          by_cases hlt : i < m
          · obtain ⟨p, hp⟩ : ∃ p, i = p + 1 := ⟨i - 1, by omega⟩
            have x1 : wr.cell? ⟨g, off + p, none⟩ = some (.int .i64 (S.getD p 0)) := by rw [hq]; exact hc p (by omega)
            have x2 : wr.cell? ⟨g, off + i, none⟩ = some (.int .i64 (S.getD i 0)) := by rw [hq]; exact hc i hlt
            have hfl := HFall.out p (by omega)
            rw [← hp] at hfl
            have i1 : (i : Int) - 1 = (p : Int) := by omega
            have i2 : p < m := by omega
            have i3 : (p : Int) < (m : Int) := by omega
            have i4 : (i : Int) < (m : Int) := by omega
            have HQ2 : ∀ q', Hid (∃ q, wr.drewN q' = w4.drewN q) := fun q' => hid (by
              rw [hq]
              first | exact ⟨_, rfl⟩ | (simp only [World.drewN_drewN]; exact ⟨_, rfl⟩))
            have hi20 : i ≤ 20 := by omega
            clear hp hc HQ hq HS4 HFall HFst
            generalize S.getD p 0 = X at x1 hfl
            generalize S.getD i 0 = Y at x2 hfl
            have hd1 : decide (Y > X) = false := decide_eq_false (by omega)
            have hd2 : decide (Y < 1) = false := decide_eq_false (by omega)
            go_wp2_with fail
            go_quiet (fail)
            go_wp2_with fail
            go_roundw
            case rel => exact ⟨i + 1, by omega, by go_num, HQ2 _⟩
            case measure => simp [intOf]; omega
          · have hbY : Below w.heap.size w wr := by rw [hq]; exact below_drewN hbZ q
            have hd : decide (i < m) = false := decide_eq_false hlt
            have x0 : wr.cell? ⟨g, off, none⟩ = some (.int .i64 (F : Int)) := by
              have := hc 0 (by omega)
              rw [HFst.out, Nat.add_zero] at this
              rw [hq]; exact this
            have hmp : (0 : Int) < (m : Int) := by omega
            have heq : ((F : Int) == (F : Int)) = true := beq_iff_eq.2 rfl
            clear HQ hq HS4 hc HFall HFst
            go_wp2_with fail
            go_ret
            exact ⟨by first | rfl | simp, hbY⟩
    · obtain rfl : z = (p : Int) := by omega
      clear hz
      obtain ⟨g, off, rfl, hg, hc⟩ := HL2.out.2 (by omega)
      have xi : wr.cell? ⟨g, off + p, none⟩ = some (.int .i64 (l.getD p 0)) := (hbx.cell hg).trans (hc p (by omega))
      have hgr : g < wr.heap.size := Nat.lt_of_lt_of_le hg hbx.size
      have hlt : (p : Int) < (n : Int) := by omega
      have hlen := HLen.out (p + 1)
      have HNx := hid (drop_rev (l := l) (p := p) (by rw [HLN.out]; omega))
      have hsx := hbx.size
      generalize (l.drop (p + 1)).reverse = D at HO HU hlen HNx
      generalize l.getD p 0 = X at xi HNx
      clear hc
      go_wp2_with (at_builtin; refine wpList_append_two _ rfl (.tmp 34) (.tmp 39) 22 rfl w2.heap.size 3 i0 Try.underlying22 hi hz0 hz1 hz2 v D rfl HO.out X rfl hlen hsx u D HU.out HA.out ?_)
      intro v' w' hO' hU' hA' hb'
      have xi2 : w'.cell? ⟨g, off + p, none⟩ = some (.int .i64 X) := (hb'.cell hg).trans xi
      have hs' := hb'.size
      have hbx' := hbx.trans hb'
      have hs'' : w2.heap.size ≤ w'.heap.size := hbx'.size
      have hA'' := hA'.symm
      clear HO HU HA hsx hbx hgr xi
      go_wp2_with (at_builtin; refine wpList_append_two _ rfl (.tmp 41) (.tmp 46) 22 rfl w2.heap.size 3 i0 Try.underlying22 hi hz0 hz1 hz2 u D rfl hU' X rfl hlen hs'' v' (D ++ [X]) hO' hA'' ?_)
      intro u' w'' hU2 hO2 hA2 hb2
      have HO2 := hid hO2
      have HU2 := hid hU2
      have HA2 := hid hA2.symm
      have hb3 := hbx'.trans hb2
      rw [← HNx.out] at HO2 HU2
      clear hU2 hO2 hA2 hb2 hO' hU' hA' hA'' hb' hbx' xi2
      go_wp2_with fail
      go_roundw
      case rel => exact ⟨p, _, _, _, rfl, rfl, by omega, by go_num, rfl, HO2, HU2, HA2, hb3⟩
      case measure => first | (simp [intOf]; done) | (simp [intOf]; omega)
theorem rsch_any (A : Option Addr) (n c : Nat) (l : List Int) (w : World) (hn : n ≤ maxLen) (hl : IsInts w w.heap.size A n l) :
    Calls Try.prog 5 #[.slice A n c] w fun e w' => e = .returned (.bool true) ∧ Below w.heap.size w w' := by
  rcases badR_or l with hg | ⟨k, hk⟩
  · exact rsch_ok A n c l w hl hg
  · exact rsch_bad A n c l k w hn hl hk
end Go.Proofs.Ytmfpjbhgmcmceaa
