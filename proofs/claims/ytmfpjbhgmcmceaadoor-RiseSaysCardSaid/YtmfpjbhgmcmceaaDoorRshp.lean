/-
  Contract of letterbeckref2.Shape: the lengths of the rows, in a slice of its own. Conditions: at most 20 numbers.
-/
import Derived.Test.YtmfpjbhgmcmceaaDoorBase
import Derived.Test.YtmfpjbhgmcmceaaDoorRpre
import Derived.Test.YtmfpjbhgmcmceaaDoorRgr
import Derived.Test.YtmfpjbhgmcmceaaDoorRsk
import Derived.Test.YtmfpjbhgmcmceaaDoorRsgood
import Derived.Test.YtmfpjbhgmcmceaaDoorRwi
namespace Go.Proofs.YtmfpjbhgmcmceaaDoor
open Go.RowKit

/-- The lengths of the first r rows. -/
def lensTo (T : List (List Int)) (r : Nat) : List Int := (T.take r).map fun R => (R.length : Int)
theorem lensTo_succ {T : List (List Int)} {r : Nat} (h : r < T.length) : lensTo T (r + 1) = lensTo T r ++ [((T.getD r []).length : Int)] := by
  unfold lensTo
  rw [List.take_succ_eq_append_getElem h, List.map_append]
  simp [h]
set_option maxHeartbeats 8000000 in
set_option maxRecDepth 100000 in
theorem rshape_any (A : Option Addr) (n c : Nat) (l : List Int) (w : World) (hn : n ≤ 20) (hl : IsInts w w.heap.size A n l) :
    Calls Tryd.prog 9 #[.slice A n c] w fun e w' => ∃ v, e = .returned v ∧ OwnI w' w.heap.size 3 v (shp l) ∧ Below w.heap.size w w' := by
  obtain ⟨i0, hi, hz0, hz1, hz2⟩ := info_parts int_info
  obtain ⟨j0, hj, hy0, hy1, hy2⟩ := info_parts rows_info
  have HL := hid hl
  have HLN := hid hl.1
  clear hl
  go_enter Tryd.func9, Tryd.ntmps9
  go_wp2_with fail
  go_loopw [3, 4] (fun v x wr => ∃ (i : Nat) (ts : List Rw) (z : Value), v = z ∧ i ≤ n ∧ x = .int .i64 i ∧ Hid (RowsW wr w.heap.size 22 3 z ts (tab (pre l i))) ∧ Below w.heap.size w wr) (fun _ x _ => n - (intOf x).toNat)
  case atStart => exact ⟨0, [], _, rfl, by omega, rfl, hid (RowsW.nil _ _ _ _), Below.refl _ _⟩
  case round =>
    obtain ⟨i, ts, v, hv, hin, rfl, HR, hbw⟩ := hrel
    have hv := hv.symm
    subst hv
    by_cases hlt : i < n
    · obtain ⟨g0, off, rfl, hg, hc⟩ := HL.out.2 (by omega)
      have xi : wr.cell? ⟨g0, off + i, none⟩ = some (.int .i64 (l.getD i 0)) := (hbw.cell hg).trans (hc i hlt)
      have hgr : g0 < wr.heap.size := Nat.lt_of_lt_of_le hg hbw.size
      have hpre : tab (pre l (i + 1)) = rsk (tab (pre l i)) (l.getD i 0) := by rw [pre_succ (by rw [HLN.out]; exact hlt)]; rfl
      obtain ⟨hT1, hT2⟩ := tab_len (pre l i)
      rw [pre_len (by rw [HLN.out]; exact hin)] at hT1 hT2
      have HI0 := hid (ins_start (tab (pre l i)) (l.getD i 0))
      rw [← hpre] at HI0
      have HS20 : Hid (∀ x ∈ (tab (pre l i)).map List.length, x ≤ 20) := hid (fun x hx => by
        obtain ⟨R, hR, rfl⟩ := List.mem_map.1 hx
        have := (hT2 R hR).1
        omega)
      have hSl : ((tab (pre l i)).map List.length).length ≤ 20 := by rw [List.length_map]; omega
      have hcs : ∀ W, Below w.heap.size w W → True := fun _ _ => trivial
      clear hpre hT1 hT2 hc hcs
      generalize l.getD i 0 = X at xi HI0
      generalize (tab (pre l i)).map List.length = S at HI0 HS20 hSl
      generalize hT : tab (pre l (i + 1)) = T at HI0
      have HT := hid hT
      clear hT
      generalize tab (pre l i) = Rs at HR HI0
      go_wp2_with fail
      clear xi hgr
      obtain ⟨w0, hw0⟩ : ∃ z, z = wr := ⟨_, rfl⟩
      subst hw0
      go_loopw [3, 5, 6] (fun v y x wr => ∃ (r : Nat) (m : Int) (ts : List Rw) (Rs : List (List Int)) (z : Value), v = z ∧ y = .int .i64 m ∧ x = .int .i64 r ∧ r ≤ S.length ∧ Hid (Ins T S Rs r m) ∧ Hid (RowsW wr w.heap.size 22 3 z ts Rs) ∧ Below w.heap.size w wr) (fun _ _ x _ => 22 - (intOf x).toNat)
      case atStart => exact ⟨0, X, ts, Rs, _, rfl, rfl, rfl, Nat.zero_le _, HI0, HR, hbw⟩
      case round =>
        clear HI0 HR hbw
        obtain ⟨r, m, us, Qs, u, hv, rfl, rfl, hrS, HI, HR, hbw⟩ := hrel
        have hv := hv.symm
        subst hv
        have hlen : us.length = S.length := by rw [HR.out.len, ← HI.out.len, List.length_map]
        obtain ⟨AA, cc, hvv, hout⟩ := HR.out.outer
        rw [hlen] at hvv hout
        have hszr := hbw.size
        have hdec : ∀ (a b : Nat), a ≠ b → ((a : Int) == (b : Int)) = false := fun a b h => beq_eq_false_iff_ne.2 (by omega)
        by_cases hr : r = S.length
        · have HN : Hid (T = Qs ++ [[m]]) := hid (ins_new (by
            have h := HI.out
            have e : r = Qs.length := by rw [hr, ← HI.out.len, List.length_map]
            rw [e] at h
            exact h))
          have hg1 : Below wr.heap.size wr (wr.alloc (.cells #[.int .i64 m] 3)) := (Below.refl _ _).alloc (Nat.le_refl _) _
          have hown1 := (HR.out.own.below hg1 (Nat.le_refl _))
          have hR1 : OwnX encI 1 (wr.alloc (.cells #[.int .i64 m] 3)) w.heap.size 3 (rwV (wr.heap.size, 1, 1)) [m] :=
            OwnX.lit wr w.heap.size 3 [m] #[.int .i64 m] rfl rfl hszr (by rw [List.length_singleton]; unfold maxLen; omega)
          have hs1 : (wr.alloc (.cells #[.int .i64 m] 3)).heap.size = wr.heap.size + 1 := by simp
          have hl1 : us.length ≤ 1099511627776 := by omega
          have hb1 : w.heap.size ≤ (wr.alloc (.cells #[.int .i64 m] 3)).heap.size := by rw [hs1]; omega
          have HR1 := hid hR1
          have heq : ((r : Int) == (S.length : Int)) = true := beq_iff_eq.2 (by omega)
          clear hR1 hr hout hdec HI
          subst hvv
          go_wp2_with (at_builtin; refine wpList_append_x _ rfl (.tmp 25) (.tmp 28) 39 rfl w.heap.size 22 j0 encRw 1 (.slice none 0 0) 24 encRw_len encRw_one (by decide) (by decide) Tryd.underlying39 hj hy0 hy1 hy2 rfl _ us rfl hown1 (wr.heap.size, 1, 1) (congrArg (fun z => Value.slice (some ⟨z, 0, none⟩) 1 1) hs1.symm) hl1 hb1 ?_)
          intro v' w' hown' hturn'
          have hbx := hbw.trans (((Below.refl _ _).alloc hszr (.cells #[.int .i64 m] 3)).trans (hturn'.below hb1 fun b hb => (hown1.lt hb).1))
          have HRn := hid (HR.out.push hg1 (Nat.le_refl _) HR1.out hturn' hown')
          rw [← HN.out, ← HT.out] at HRn
          clear hown' hturn' hg1 hown1 hs1 hb1 HR1 HR HN hbw hlen
          go_wp2_with fail
          go_roundw
          case rel => exact ⟨i + 1, us ++ [(wr.heap.size, 1, 1)], v', rfl, by omega, by go_num, HRn, hbx⟩
          case measure => simp [intOf]; omega
        · have heq := hdec _ _ hr
          have hrl : r < us.length := by omega
          obtain ⟨G, rfl, hGb, hGl, hoc⟩ := hout (by omega)
          subst hvv
          have co := hoc r (by omega)
          have hRl := HR.out.rowlen hrl
          have hrc : ∀ j, j < (Qs.getD r []).length → _ := fun j hj => HR.out.cell hrl (j := j) hj
          have hr20 : (Qs.getD r []).length ≤ 20 := HS20.out _ (by
            rw [← HI.out.len]
            refine List.mem_map_of_mem ?_
            rw [List.getD_eq_getElem?_getD, List.getElem?_eq_getElem (by rw [← HR.out.len]; exact hrl)]
            exact List.getElem_mem _)
          have hfz := HR.out.frozen hrl
          have hlt1 : (r : Int) < (S.length : Int) := by omega
          have hltn : r < S.length := by omega
          obtain ⟨R, hRR⟩ : ∃ R, R = Qs.getD r [] := ⟨_, rfl⟩
          obtain ⟨t, htt⟩ : ∃ t, t = us.getD r rz := ⟨_, rfl⟩
          rw [← hRR] at hrc hr20 hRl
          rw [← htt] at co hRl hrc hfz
          have HRR := hid hRR
          have HTT := hid htt
          clear hRR htt hoc hr
          obtain ⟨g, k0, ct⟩ := t
          unfold rwV at co
          simp only at co hRl hrc hfz
          obtain rfl : k0 = R.length := hRl
          obtain ⟨N, hN⟩ : ∃ N, N = R.length := ⟨_, rfl⟩
          have HNN := hid hN
          rw [← hN] at co hr20 hrc
          clear hN
          go_wp2_with fail
          go_loopw [7] (fun x wy => ∃ k : Nat, k ≤ N ∧ x = .int .i64 k ∧ Hid (∀ j, j < k → R.getD j 0 ≤ m) ∧ wy = wr) (fun x _ => N - (intOf x).toNat)
          case atStart => exact ⟨0, by omega, rfl, hid (fun j hj => by omega), rfl⟩
          case round =>
            obtain ⟨k, hkN, rfl, HK, hwy⟩ := hrel
            subst hwy
            by_cases hkl : k < N
            · have ck := hrc k hkl
              have hkl2 : (k : Int) < (N : Int) := by omega
              by_cases hle : R.getD k 0 ≤ m
              · have HK2 : Hid (∀ j, j < k + 1 → R.getD j 0 ≤ m) := hid (fun j hj => by
                  rcases (by omega : j < k ∨ j = k) with h | rfl
                  · exact HK.out j h
                  · exact hle)
                generalize R.getD k 0 = Y at ck hle
                clear HK hrc
                go_wp2_with fail
                go_roundw
                case rel => exact ⟨k + 1, by omega, by go_num, HK2, by first | rfl | trivial⟩
                case measure => simp [intOf]; omega
              · have hgt : m < R.getD k 0 := by omega
                have HIn := hid (ins_next (k := k) HI.out (by rw [← HR.out.len]; exact hrl) (by rw [← HRR.out, ← HNN.out]; exact hkl) (by rw [← HRR.out]; exact HK.out) (by rw [← HRR.out]; exact hgt))
                have HRn := hid (HR.out.put hrl k m)
                rw [← HRR.out] at HIn HRn
                rw [← HTT.out] at HRn
                have hdl : decide (R.getD k 0 ≤ m) = false := decide_eq_false hle
                have hkne := hdec k N (by omega)
                have fk := hfz k
                generalize R.getD k 0 = Y at ck hle hgt hdl HIn
                clear HK hrc hfz HI HR
                go_wp2_with fail
                go_roundw
                case rel => exact ⟨r + 1, Y, us, _, _, rfl, rfl, by go_num, by omega, HIn, hid HRn.out.1, hbw.trans HRn.out.2⟩
                case measure => simp [intOf]; omega
            · obtain rfl : k = N := by omega
              have hrl2 : r < Qs.length := by rw [← HR.out.len]; exact hrl
              have HE : Hid (T = Qs.set r (R ++ [m])) := hid (by
                have := ins_end HI.out hrl2 (by rw [← HRR.out, ← HNN.out]; exact HK.out)
                rwa [← HRR.out] at this)
              have hrow : OwnX encI 1 wr w.heap.size 3 (.slice (some ⟨g, 0, none⟩) k ct) R := by
                have := HR.out.row r hrl
                rw [← HTT.out, ← HRR.out, ← HNN.out] at this
                exact this
              have hl1 : R.length ≤ 1099511627776 := by rw [← HNN.out]; omega
              have hkeq : ((k : Int) == (k : Int)) = true := beq_iff_eq.2 rfl
              have hTT : us.getD r rz = (g, k, ct) := by rw [← HTT.out, HNN.out]
              have HGR := fun (W : World) (t : Rw) (ht : Turn wr W (.slice (some ⟨g, 0, none⟩) k ct) (rwV t)) (hR' : OwnX encI 1 W w.heap.size 3 (rwV t) (R ++ [m])) => hid (HR.out.grow hrl (w' := W) (t := t) (R := R ++ [m]) (by rw [hTT]; exact ht) hR' hszr)
              rw [hTT] at HGR
              have HG2 := hid HGR
              clear hTT HGR hrc hfz HK HI
              go_wp2_with (at_builtin; refine wpList_append_x _ rfl (.tmp 62) (.tmp 64) 22 rfl w.heap.size 3 i0 encI 1 (.int .i64 0) 8 encI_len encI_one (by decide) (by decide) Tryd.underlying22 hi hz0 hz1 hz2 rfl _ R rfl hrow m rfl hl1 hszr ?_)
              intro v' w' hown' hturn'
              obtain ⟨t', rfl⟩ := slice_rw hown'
              obtain ⟨c1, f1, hR2, hb2⟩ := (HG2.out w' t' hturn' hown').out
              rw [← HE.out, ← HT.out] at hR2
              have HR2 := hid hR2
              have hbx := hbw.trans hb2
              obtain ⟨g', n', c'⟩ := t'
              unfold rwV at c1 HR2 hbx ⊢
              simp only at c1 HR2 hbx ⊢
              clear HG2 hown' hturn' hR2 hb2 hrow HE HR
              go_wp2_with fail
              go_roundw
              case rel => exact ⟨i + 1, _, _, rfl, by omega, by go_num, HR2, hbx⟩
              case measure => simp [intOf]; omega
    · obtain rfl : i = n := by omega
      rw [pre_all (by rw [HLN.out]; exact Nat.le_refl _)] at HR
      obtain ⟨AA, cc, rfl, hout⟩ := HR.out.outer
      have hlen := HR.out.len
      obtain ⟨hT1, hT2⟩ := tab_len l.reverse
      rw [List.length_reverse, HLN.out] at hT1 hT2
      have HSH : Hid (shp l = lensTo (tab l.reverse) (tab l.reverse).length) := hid (by unfold shp lensTo; rw [List.take_length])
      obtain ⟨Q, hQ⟩ : ∃ Q, Q = tab l.reverse := ⟨_, rfl⟩
      rw [← hQ] at HR hlen hT1 hT2 HSH
      clear hQ
      generalize hN : ts.length = N at hout
      have hQN : Q.length = N := by rw [← hlen, hN]
      have hN20 : N ≤ 20 := by omega
      have HLE := fun r (h : r < N) => hid (lensTo_succ (T := Q) (r := r) (by rw [hQN]; exact h))
      have hRow := fun r (h : r < N) => (HR.out.rowlen (i := r) (by rw [hN]; exact h))
      have HQ20 : Hid (∀ r, r < N → (Q.getD r []).length ≤ 20) := hid (fun r h => by
        have := (hT2 (Q.getD r []) (by rw [List.getD_eq_getElem?_getD, List.getElem?_eq_getElem (by rw [hQN]; exact h)]; exact List.getElem_mem _)).1
        omega)
      have HLL : Hid (∀ r, r ≤ N → (lensTo Q r).length ≤ 1099511627776) := hid (fun r h => by unfold lensTo; rw [List.length_map, List.length_take]; omega)
      rw [hQN] at HSH
      have HRW := hid hRow
      have HQ := hid hQN
      clear hRow hQN hlen hN hT1 hT2
      obtain ⟨wo, hwo⟩ : ∃ z, z = wr := ⟨_, rfl⟩
      subst hwo
      go_wp2_with fail
      go_loopw [9, 10] (fun v x wr => ∃ (r : Nat) (z : Value), v = z ∧ r ≤ N ∧ x = .int .i64 r ∧ Hid (OwnI wr wo.heap.size 3 z (lensTo Q r)) ∧ Below wo.heap.size wo wr) (fun _ x _ => N - (intOf x).toNat)
      case atStart => exact ⟨0, _, rfl, by omega, rfl, hid (OwnI.nil _ _ _), Below.refl _ _⟩
      case round =>
        obtain ⟨r, z, hv, hrN, rfl, HO, hbo⟩ := hrel
        have hv := hv.symm
        subst hv
        by_cases hrl : r < N
        · obtain ⟨G, rfl, hGb, hGl, hoc⟩ := hout (by omega)
          have co : wr.cell? ⟨G, r, none⟩ = _ := (hbo.cell hGl).trans (hoc r hrl)
          have hRl := HRW.out r hrl
          have h20 := HQ20.out r hrl
          have HL2 := HLE r hrl
          have hlt1 : (r : Int) < (N : Int) := by omega
          have hGr : G < wr.heap.size := Nat.lt_of_lt_of_le hGl hbo.size
          generalize (Q.getD r []).length = L at hRl h20 HL2
          generalize ts.getD r rz = t at co hRl
          obtain ⟨g, k0, ct⟩ := t
          unfold rwV at co
          simp only at co hRl
          subst hRl
          have hlen := HLL.out r hrN
          have hsz := hbo.size
          clear hoc
          go_wp2_with (at_builtin; refine wpList_append_int _ rfl (.tmp 90) (.tmp 96) 22 rfl wo.heap.size 3 i0 Tryd.underlying22 hi hz0 hz1 hz2 _ (lensTo Q r) rfl HO.out (k0 : Int) rfl hlen hsz ?_)
          intro v' w' hown' hb'
          have HO2 := hid hown'
          rw [← HL2.out] at HO2
          have hbx := hbo.trans hb'
          clear hown' hb' HO co
          go_wp2_with fail
          go_roundw
          case rel => exact ⟨r + 1, _, rfl, by omega, by go_num, HO2, hbx⟩
          case measure => simp [intOf]; omega
        · obtain rfl : r = N := by omega
          have hd : decide ((r : Int) < (r : Int)) = false := decide_eq_false (by omega)
          go_wp2_with fail
          go_ret
          exact ⟨_, rfl, by rw [HSH.out]; exact HO.out.base hbw.size, hbw.trans (hbo.mono hbw.size)⟩
end Go.Proofs.YtmfpjbhgmcmceaaDoor
