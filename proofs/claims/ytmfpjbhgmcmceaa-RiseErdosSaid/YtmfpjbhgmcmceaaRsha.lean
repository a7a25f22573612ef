/-
  Contract of rise.Shape: the lengths of the rows. Conditions: a list of at most 20 numbers from 0 to 1000, or what is wrong with it.
-/
import Derived.Test.YtmfpjbhgmcmceaaRchk
import Derived.Test.YtmfpjbhgmcmceaaRins
import Derived.Test.YtmfpjbhgmcmceaaRpre
namespace Go.Proofs.Ytmfpjbhgmcmceaa
open Go.RowKit

/-- The lengths of the first r rows, and zeros. -/
def shTo (Q : List (List Int)) (r j : Nat) : Int := if j < r then ((Q.getD j []).length : Int) else 0
theorem shTo_all {Q : List (List Int)} {N : Nat} (h : Q.length = N) : rowN N (shTo Q N) = Q.map fun R => (R.length : Int) := by
  apply List.ext_getElem?
  intro j
  unfold rowN shTo
  by_cases hj : j < N
  · simp [hj, h]
  · simp [hj, h]
theorem shTo_next {Q : List (List Int)} {r : Nat} (j : Nat) : (if j = r then ((Q.getD r []).length : Int) else shTo Q r j) = shTo Q (r + 1) j := by
  unfold shTo
  by_cases e : j = r
  · subst e; rw [if_pos rfl, if_pos (Nat.lt_succ_self _)]
  · rw [if_neg e]
    by_cases h : j < r
    · rw [if_pos h, if_pos (by omega)]
    · rw [if_neg h, if_neg (by omega)]

set_option maxHeartbeats 4000000 in
set_option maxRecDepth 100000 in
theorem sshape_ok (A : Option Addr) (n c : Nat) (l : List Int) (w : World) (hl : IsInts w w.heap.size A n l) (hg : GoodR l) :
    Calls Try.prog 12 #[.slice A n c] w fun e w' => ∃ A' c', e = .returned (.tuple #[.slice A' (shp l).length c', .nilIface]) ∧ IsInts w' w'.heap.size A' (shp l).length (shp l) ∧ Below w.heap.size w w' := by
  obtain ⟨i0, hi, hz0, hz1, hz2⟩ := info_parts int_info
  have HC := hid ((rcheck_any A n c l w hl).mono fun e w' ⟨h, hw⟩ => (show e = Ending.returned .nilIface ∧ w' = w from ⟨by
    rcases h with ⟨_, h⟩ | ⟨k, hk, _⟩
    · exact h
    · exact (goodR_not hg hk).elim, hw⟩))
  have hn20 : n ≤ 20 := by rw [← hl.1]; exact hg.1
  have HLN := hid hl.1
  have HL := hid hl
  clear hl hg
  go_enter Try.func12, Try.ntmps12
  go_wp2_with fail
  refine HC.out.mono ?_
  rintro e w0 ⟨rfl, hw0⟩
  subst w0
  clear HC
  go_wp2_with fail
  go_loopw [5, 18] (fun v x wr => ∃ (i : Nat) (ts : List Rw) (z : Value), v = z ∧ i ≤ n ∧ x = .int .i64 i ∧ Hid (RowsW wr w.heap.size 22 3 z ts (tab (pre l i))) ∧ Below w.heap.size w wr) (fun _ x _ => n - (intOf x).toNat)
  case atStart => exact ⟨0, [], _, rfl, by omega, rfl, hid (RowsW.nil _ _ _ _), Below.refl _ _⟩
  case round =>
    obtain ⟨i, ts, v, hv, hin, rfl, HR, hbw⟩ := hrel
    have hv := hv.symm
    subst hv
    by_cases hlt : i < n
    · obtain ⟨g0, off, rfl, hg, hc⟩ := HL.out.2 (by omega)
      have xi : wr.cell? ⟨g0, off + i, none⟩ = some (.int .i64 (l.getD i 0)) := (hbw.cell hg).trans (hc i hlt)
      have hgr : g0 < wr.heap.size := Nat.lt_of_lt_of_le hg hbw.size
      have hpre : tab (pre l (i + 1)) = rsk (tab (pre l i)) (l.getD i 0) := by rw [pre_succ (by rw [HLN.out]; exact hlt)]; rfl
      obtain ⟨hT1, hT2⟩ := tab_len (pre l i)
      rw [pre_len (by rw [HLN.out]; exact hin)] at hT1 hT2
      obtain ⟨A2, c2, rfl, _⟩ := HR.out.outer
      have HX := hid (insert_any w.heap.size ts.length c2 A2 ts (tab (pre l i)) (l.getD i 0) wr HR.out hbw.size (by omega) (fun R hR => by have := (hT2 R hR).1; omega))
      rw [← hpre] at HX
      clear hpre hT1 hT2 hc
      generalize l.getD i 0 = X at xi HX
      go_wp2_with fail
      refine HX.out.mono ?_
      clear HX
      rintro e w2 ⟨v', ts', rfl, hR2, hb2⟩
      have HR2 := hid hR2
      have hbx := hbw.trans hb2
      clear hR2 hb2 HR hbw xi hgr
      go_wp2_with fail
      go_roundw
      case rel => exact ⟨i + 1, ts', v', rfl, by omega, by go_num, HR2, hbx⟩
      case measure => simp [intOf]; omega
    · obtain rfl : i = n := by omega
      rw [pre_all (by rw [HLN.out]; exact Nat.le_refl _)] at HR
      obtain ⟨AA, cc, rfl, hout⟩ := HR.out.outer
      have hlen := HR.out.len
      obtain ⟨hT1, hT2⟩ := tab_len l.reverse
      rw [List.length_reverse, HLN.out] at hT1
      have HSH : Hid (shp l = (tab l.reverse).map fun R => (R.length : Int)) := hid rfl
      obtain ⟨Q, hQ⟩ : ∃ Q, Q = tab l.reverse := ⟨_, rfl⟩
      rw [← hQ] at HR hlen hT1 HSH
      clear hQ hT2
      generalize hN : ts.length = N at hout
      have HQN := hid (show Q.length = N by rw [← hlen, hN])
      have hN20 : N ≤ 20 := by have := HQN.out; omega
      have HRW := hid (fun r (h : r < N) => (HR.out.rowlen (i := r) (by rw [hN]; exact h)))
      clear hlen hN hT1
      obtain ⟨wo, hwo⟩ : ∃ z, z = wr := ⟨_, rfl⟩
      subst hwo
      have HBO := hid hbw
      clear hbw
      go_wp2_with (at_make; refine wpList_make_full _ rfl _ _ 22 rfl wo.heap.size 3 i0 (.int .i64 0) 1 Try.underlying22 hi hz0 hz1 _ _ _ _ N rfl rfl rfl rfl (by rw [hz2]; omega) (by unfold maxLen; omega) (Nat.le_refl _) ?_)
      intro w1 hown hgrow
      have hb1 : Below wo.heap.size wo w1 := (Below.refl _ _).grown hgrow (Nat.le_refl _) (by simp)
      have HM := hid ((NumF.made hown).congr (F' := shTo Q 0) fun j _ => by simp [shTo])
      clear hown hgrow HR
      obtain ⟨G, hG⟩ : ∃ G, G = wo.heap.size := ⟨_, rfl⟩
      have HGW := hid hG
      rw [← hG] at HM ⊢
      clear hG
      go_wp2_with fail
      go_loopw [31] (fun x wr => ∃ r : Nat, r ≤ N ∧ x = .int .i64 r ∧ Hid (NumF wr G 3 N (shTo Q r)) ∧ Below wo.heap.size wo wr) (fun x _ => N - (intOf x).toNat)
      case atStart => exact ⟨0, by omega, rfl, HM, hb1⟩
      case round =>
        clear HM hb1
        obtain ⟨r, hrN, rfl, HO, hbo⟩ := hrel
        by_cases hrl : r < N
        · obtain ⟨G0, rfl, hGb, hGl, hoc⟩ := hout (by omega)
          have co : wr.cell? ⟨G0, r, none⟩ = _ := (hbo.cell hGl).trans (hoc r hrl)
          have hRl := HRW.out r hrl
          have hlt1 : (r : Int) < (N : Int) := by omega
          have hck := HO.out.cell hrl
          have hf := HO.out.frozen r
          obtain ⟨s1, s2⟩ := HO.out.set r ((Q.getD r []).length : Int)
          have HS := hid (s1.congr fun j _ => shTo_next j)
          have hbx := hbo.trans (s2.below (by have := HGW.out; omega))
          clear s1 s2
          generalize (Q.getD r []).length = L at hRl HS hbx
          generalize ts.getD r rz = t at co hRl
          obtain ⟨g, k0, ct⟩ := t
          unfold rwV at co
          simp only at co hRl
          subst hRl
          have hlG : G0 < wr.heap.size := Nat.lt_of_lt_of_le hGl hbo.size
          clear hoc HO hbo
          go_wp2_with fail
          go_roundw
          case rel => exact ⟨r + 1, by omega, by go_num, HS, hbx⟩
          case measure => simp [intOf]; omega
        · obtain rfl : r = N := by omega
          have hI := NumAt.ints HO.out (n := r) (rowN_len r _)
          rw [shTo_all HQN.out, ← HSH.out] at hI
          have HI := hid hI
          have HLL := hid (show (shp l).length = r by rw [HSH.out, List.length_map]; exact HQN.out)
          clear hI HO
          go_wp2_with fail
          go_ret2
          exact ⟨some ⟨G, 0, none⟩, r, by rw [HLL.out]; rfl, by rw [HLL.out]; exact HI.out, HBO.out.trans (hbo.mono HBO.out.size)⟩
set_option maxRecDepth 100000 in
theorem sshape_bad (A : Option Addr) (n c : Nat) (l : List Int) (k : Int) (w : World) (hn : n ≤ maxLen) (hl : IsInts w w.heap.size A n l) (hk : BadR l k) :
    Calls Try.prog 12 #[.slice A n c] w fun e w' => e = .returned (.tuple #[.slice none 0 0, .iface 42 (.int .i64 k)]) ∧ Below w.heap.size w w' := by
  have HC := hid (scheck_bad A n c l k w hn hl hk)
  clear hl hk
  go_enter Try.func12, Try.ntmps12
  go_wp2_with fail
  refine HC.out.mono ?_
  rintro e w0 ⟨rfl, hb0⟩
  clear HC
  go_wp2_with fail
  go_ret2
  exact ⟨rfl, hb0⟩
end Go.Proofs.Ytmfpjbhgmcmceaa
