/-
  Contracts of rise.insert and of the function that it hands to slices.IndexFunc: a number put into rows. Conditions: at most 20 rows, each of at most 20 numbers; the rows are of the call's own.
-/
import Derived.Test.YtmfpjbhgmcmceaaDoorIdxI
import Derived.Test.YtmfpjbhgmcmceaaDoorRwi
import Derived.Test.YtmfpjbhgmcmceaaDoorRsk
namespace Go.Proofs.YtmfpjbhgmcmceaaDoor
open Go.RowKit

set_option maxRecDepth 100000 in
theorem insert_fn (U : Nat) (y m : Int) (w : World) (hu : w.heap[U]? = some (.cells #[.int .i64 m] 3 (0, 0))) :
    Calls Tryd.prog 25 (#[.int .i64 y] ++ #[.pointer (some ⟨U, 0, none⟩)]) w fun e w' => e = .returned (.bool (decide (m < y))) ∧ w' = w := by
  have cU := cell_of_one hu
  clear hu
  show Calls Tryd.prog 25 #[.int .i64 y, .pointer (some ⟨U, 0, none⟩)] w _
  go_enter Tryd.func25, Tryd.ntmps25
  go_wp2_with fail
  go_ret
  exact ⟨rfl, rfl⟩

set_option maxHeartbeats 8000000 in
set_option maxRecDepth 100000 in
theorem insert_any (base n c : Nat) (AA : Option Addr) (ts : List Rw) (Rs : List (List Int)) (x : Int) (w : World) (hR : RowsW w base 22 3 (.slice AA n c) ts Rs) (hbase : base ≤ w.heap.size) (hl : Rs.length ≤ 20) (h20 : ∀ R ∈ Rs, R.length ≤ 20) :
    Calls Tryd.prog 20 #[.slice AA n c, .int .i64 x] w fun e w' => ∃ v' ts', e = .returned v' ∧ RowsW w' base 22 3 v' ts' (rsk Rs x) ∧ Below base w w' := by
  obtain ⟨i0, hi, hz0, hz1, hz2⟩ := info_parts int_info
  obtain ⟨j0, hj, hy0, hy1, hy2⟩ := info_parts rows_info
  have hmf : ∀ (fn : Fn) (first cap : Array Value) (w : World), (Instr.makeFunc fn first cap).run Tryd.prog w = .ok (.func fn first cap) w := fun _ _ _ _ => rfl
  have HCF := hid (show ∀ (args : Array Value) (W : World), Sem.run Tryd.prog (callFunc 25 args) W = .ok (.enter 25 args) W from fun _ _ => rfl)
  have HI0 := hid (ins_start Rs x)
  have HS20 : Hid (∀ x ∈ Rs.map List.length, x ≤ 20) := hid (fun x hx => by
    obtain ⟨R, hR, rfl⟩ := List.mem_map.1 hx
    exact h20 R hR)
  have hSl : (Rs.map List.length).length ≤ 20 := by rw [List.length_map]; omega
  have hnS : n = (Rs.map List.length).length := by
    obtain ⟨A', c', e, _⟩ := hR.outer
    injection e with _ e _
    rw [e, hR.len, List.length_map]
  generalize Rs.map List.length = S at HI0 HS20 hSl hnS
  obtain ⟨T, hT⟩ : ∃ T, T = rsk Rs x := ⟨_, rfl⟩
  rw [← hT] at HI0 ⊢
  clear hT
  have hb0 : Below w.heap.size w (w.alloc (.cells #[.int .i64 x] 3)) := (Below.refl _ _).alloc (Nat.le_refl _) _
  have HR0 := hid (hR.below hb0 (Nat.le_refl _))
  have HLT := hid (fun i (hi : i < ts.length) => (hR.lt hi).2)
  have HVL := hid (fun b (hb : (Value.slice AA n c).ownBlock = some b) => (hR.own.lt hb).2)
  have HU0 := hid (heap_alloc_new w (.cells #[.int .i64 x] 3))
  have hbw0 := hb0.mono hbase
  have HBS := hid hbase
  clear hR hl h20 hb0 hbase
  go_enter Tryd.func20, Tryd.ntmps20
  go_wp2_with fail
  go_loopw [10] (fun x wr => ∃ (r : Nat) (m : Int) (Qs : List (List Int)), x = .int .i64 r ∧ r ≤ S.length ∧ Hid (Ins T S Qs r m) ∧ Hid (RowsW wr base 22 3 (.slice AA n c) ts Qs) ∧ Hid (wr.heap[w.heap.size]? = some (.cells #[.int .i64 m] 3 (0, 0))) ∧ Below base w wr) (fun x _ => 22 - (intOf x).toNat)
  case atStart => exact ⟨0, x, Rs, rfl, Nat.zero_le _, HI0, HR0, HU0, hbw0⟩
  case round =>
    clear HI0 HR0 hbw0 HU0
    obtain ⟨r, m, Qs, rfl, hrS, HI, HR, HU, hbw⟩ := hrel
    have hlen : ts.length = S.length := by rw [HR.out.len, ← HI.out.len, List.length_map]
    obtain ⟨A', c', hvv, hout⟩ := HR.out.outer
    rw [hlen] at hvv hout
    obtain ⟨rfl, rfl, rfl⟩ : AA = A' ∧ n = S.length ∧ c = c' := by injection hvv with e1 e2 e3; exact ⟨e1, e2, e3⟩
    have hszr := hbw.size
    have hszb : base ≤ wr.heap.size := Nat.le_trans HBS.out hszr
    clear hvv hnS
    have cU := cell_of_one HU.out
    by_cases hr : r < S.length
    · have hrl : r < ts.length := by omega
      obtain ⟨G, rfl, hGb, hGl, hoc⟩ := hout (by omega)
      have co := hoc r hr
      have hRl := HR.out.rowlen hrl
      have hr20 : (Qs.getD r []).length ≤ 20 := HS20.out _ (by
        rw [← HI.out.len]
        refine List.mem_map_of_mem ?_
        rw [List.getD_eq_getElem?_getD, List.getElem?_eq_getElem (by rw [← HR.out.len]; exact hrl)]
        exact List.getElem_mem _)
      have hown := (HR.out.row r hrl).nums
      obtain ⟨R, hRR⟩ : ∃ R, R = Qs.getD r [] := ⟨_, rfl⟩
      obtain ⟨t, htt⟩ : ∃ t, t = ts.getD r rz := ⟨_, rfl⟩
      rw [← hRR] at hr20 hRl hown
      rw [← htt] at co hRl hown
      have HRR := hid hRR
      have HTT := hid htt
      clear hRR htt hoc
      obtain ⟨g, k0, ct⟩ := t
      unfold rwV at co hown
      simp only at co hRl hown
      obtain rfl : k0 = R.length := hRl
      obtain ⟨A2, c2, he, hmc, hIs⟩ := IsInts.of_own hown
      injection he with he1 _ he3
      subst he1 he3
      obtain ⟨N, hN⟩ : ∃ N, N = R.length := ⟨_, rfl⟩
      have HNN := hid hN
      rw [← hN] at co hr20 hIs
      clear hN hown hmc
      have HIX := hid (idxi_any 25 (some ⟨g, 0, none⟩) N ct #[.pointer (some ⟨w.heap.size, 0, none⟩)] R (fun y => decide (m < y)) wr (by omega) hIs HCF.out (fun W y _ hbW =>
        (insert_fn w.heap.size y m W ((hbW.block _ (lt_of_block HU.out)).trans HU.out)).mono fun e w' ⟨he, hw⟩ => ⟨he, by rw [hw]; exact Below.refl _ _⟩))
      clear hIs
      go_wp2_with fail
      refine HIX.out.mono ?_
      clear HIX co cU
      rintro e w2 ⟨hres, hb2⟩
      have HR2 := hid (HR.out.below hb2 (Nat.le_refl _))
      have HU2 := hid ((hb2.block _ (lt_of_block HU.out)).trans HU.out)
      have hbw2 := hbw.trans (hb2.mono hszb)
      have hcU := cell_of_one HU2.out
      have hszb2 : base ≤ w2.heap.size := Nat.le_trans hszb hb2.size
      clear HR HU hbw hb2 hszr hszb hout
      rcases hres with ⟨k, hk, hpk, hpn, rfl⟩ | ⟨hpn, rfl⟩
      · have hrq : r < Qs.length := by
          have := HR2.out.len
          omega
        have HIn := hid (ins_next (k := k) HI.out hrq (by rw [← HRR.out, ← HNN.out]; exact hk) (by rw [← HRR.out]; exact fun j hj => by have := of_decide_eq_false (hpn j hj); omega) (by rw [← HRR.out]; exact of_decide_eq_true hpk))
        rw [← HRR.out] at HIn
        have ck := HR2.out.cell hrl (j := k) (by rw [← HRR.out, ← HNN.out]; exact hk)
        have fk := HR2.out.frozen hrl k
        rw [← HRR.out, ← HTT.out] at ck
        rw [← HTT.out] at fk
        simp only at ck fk
        have bU : BlkAt w2 w.heap.size 3 [.int .i64 m] := HU2.out
        have fU := bU.frozen 0
        obtain ⟨Y, hY⟩ : ∃ Y, Y = R.getD k 0 := ⟨_, rfl⟩
        rw [← hY] at ck HIn
        obtain ⟨s1, s2⟩ := bU.stored 0 (.int .i64 Y)
        have hgU : g ≠ w.heap.size := by
          have := HLT.out r hrl
          rw [← HTT.out] at this
          simp only at this
          omega
        have HR3 := HR2.out.keep (w' := w2.setCell ⟨w.heap.size, 0, none⟩ (.int .i64 Y)) (fun b hb => s2.block b fun e => by have := HVL.out b hb; omega) (fun i hi => s2.block _ fun e => by have := HLT.out i hi; omega)
        have fk3 := HR3.frozen hrl k
        have ck3 := HR3.cell hrl (j := k) (by rw [← HRR.out, ← HNN.out]; exact hk)
        rw [← HRR.out, ← HTT.out, ← hY] at ck3
        simp only at ck3
        obtain ⟨HR4, hb4⟩ := HR3.put hrl k m
        have hU4 : ((w2.setCell ⟨w.heap.size, 0, none⟩ (.int .i64 Y)).setCell ⟨g, k, none⟩ (.int .i64 m)).heap[w.heap.size]? = some (.cells #[.int .i64 Y] 3 (0, 0)) := by
          obtain ⟨cs, hh⟩ := (HR3.row r hrl).block
          rw [← HTT.out] at hh
          exact ((only_set hh k (.int .i64 m)).block _ (fun e => hgU e.symm)).trans s1
        rw [← HRR.out, ← HTT.out] at HR4
        rw [← HTT.out] at fk3 hb4
        simp only at HR4 fk3 hb4
        have HR5 := hid HR4
        have HU5 := hid hU4
        have hbx := hbw2.trans ((s2.below HBS.out).trans hb4)
        have hkN : (k : Int) < (N : Int) := by omega
        clear HR4 hU4 hY s1 s2 bU HR3 hb4 hpk hpn HR2 HU2 hbw2 HI hgU
        go_wp2_with fail
        go_region
        clear ck fk ck3 fk3 hcU fU
        go_wp2_with fail
        go_roundw
        case rel => exact ⟨r + 1, Y, _, by go_num, by omega, HIn, hid (HR5.out.drewN 1), hid HU5.out, below_drewN hbx 1⟩
        case measure => simp [intOf]; omega
      · have hrq : r < Qs.length := by
          have := HR2.out.len
          omega
        have HE : Hid (T = Qs.set r (R ++ [m])) := hid (by
          have := ins_end HI.out hrq (by rw [← HRR.out, ← HNN.out]; exact fun j hj => by have := of_decide_eq_false (hpn j hj); omega)
          rwa [← HRR.out] at this)
        have hrow : OwnX encI 1 w2 base 3 (.slice (some ⟨g, 0, none⟩) N ct) R := by
          have := HR2.out.row r hrl
          rw [← HTT.out, ← HRR.out, ← HNN.out] at this
          exact this
        have hl1 : R.length ≤ 1099511627776 := by rw [← HNN.out]; omega
        have hTT : ts.getD r rz = (g, N, ct) := by rw [← HTT.out, HNN.out]
        have HGR := fun (W : World) (t : Rw) (ht : Turn w2 W (.slice (some ⟨g, 0, none⟩) N ct) (rwV t)) (hR' : OwnX encI 1 W base 3 (rwV t) (R ++ [m])) => hid (HR2.out.grow hrl (w' := W) (t := t) (R := R ++ [m]) (by rw [hTT]; exact ht) hR' hszb2)
        rw [hTT] at HGR
        have HG2 := hid HGR
        have hrS2 : (r : Int) < (S.length : Int) := by omega
        clear hTT HGR hpn HI HU2
        go_wp2_with (at_builtin; refine wpList_append_x _ rfl (.tmp 22) (.tmp 24) 22 rfl base 3 i0 encI 1 (.int .i64 0) 8 encI_len encI_one (by decide) (by decide) Tryd.underlying22 hi hz0 hz1 hz2 rfl _ R rfl hrow m rfl hl1 hszb2 ?_)
        intro v' w' hown' hturn'
        obtain ⟨t', rfl⟩ := slice_rw hown'
        obtain ⟨c1, f1, hR2, hb2⟩ := (HG2.out w' t' hturn' hown').out
        rw [← HE.out] at hR2
        have HR3 := hid hR2
        have hbx := hbw2.trans hb2
        obtain ⟨g', n', c'⟩ := t'
        unfold rwV at c1 HR3 hbx ⊢
        simp only at c1 HR3 hbx ⊢
        clear HG2 hown' hturn' hR2 hb2 hrow HE HR2
        go_wp2_with fail
        go_ret
        exact ⟨_, _, rfl, HR3.out, hbx⟩
    · obtain rfl : r = S.length := by omega
      have HN : Hid (T = Qs ++ [[m]]) := hid (ins_new (by
        have h := HI.out
        have e : S.length = Qs.length := by rw [← HI.out.len, List.length_map]
        rw [e] at h
        exact h))
      have hg1 : Below wr.heap.size wr (wr.alloc (.cells #[.int .i64 m] 3)) := (Below.refl _ _).alloc (Nat.le_refl _) _
      have hown1 := (HR.out.own.below hg1 (Nat.le_refl _))
      have hR1 : OwnX encI 1 (wr.alloc (.cells #[.int .i64 m] 3)) base 3 (rwV (wr.heap.size, 1, 1)) [m] :=
        OwnX.lit wr base 3 [m] #[.int .i64 m] rfl rfl hszb (by rw [List.length_singleton]; unfold maxLen; omega)
      have hs1 : (wr.alloc (.cells #[.int .i64 m] 3)).heap.size = wr.heap.size + 1 := by simp
      have hl1 : ts.length ≤ 1099511627776 := by omega
      have hb1 : base ≤ (wr.alloc (.cells #[.int .i64 m] 3)).heap.size := by rw [hs1]; omega
      have HR1 := hid hR1
      clear hR1 hout hr HI HU
      go_wp2_with (at_builtin; refine wpList_append_x _ rfl (.tmp 37) (.tmp 40) 39 rfl base 22 j0 encRw 1 (.slice none 0 0) 24 encRw_len encRw_one (by decide) (by decide) Tryd.underlying39 hj hy0 hy1 hy2 rfl _ ts rfl hown1 (wr.heap.size, 1, 1) (congrArg (fun z => Value.slice (some ⟨z, 0, none⟩) 1 1) hs1.symm) hl1 hb1 ?_)
      intro v' w' hown' hturn'
      have hbx := hbw.trans (((Below.refl _ _).alloc hszb (.cells #[.int .i64 m] 3)).trans (hturn'.below hb1 fun b hb => (hown1.lt hb).1))
      have HRn := hid (HR.out.push hg1 (Nat.le_refl _) HR1.out hturn' hown')
      rw [← HN.out] at HRn
      clear hown' hturn' hg1 hown1 hs1 hb1 HR1 HR HN hbw
      go_wp2_with fail
      go_ret
      exact ⟨_, _, rfl, HRn.out, hbx⟩
end Go.Proofs.YtmfpjbhgmcmceaaDoor
