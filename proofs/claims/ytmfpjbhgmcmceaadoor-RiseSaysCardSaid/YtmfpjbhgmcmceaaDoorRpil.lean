/-
  Contract of letterbeckref2.Piles: the tops of the piles, in a slice of its own. Conditions: at most 20 numbers.
-/
import Derived.Test.YtmfpjbhgmcmceaaDoorBase
import Derived.Test.YtmfpjbhgmcmceaaDoorRpre
import Derived.Test.YtmfpjbhgmcmceaaDoorOwnSet
import Derived.Test.YtmfpjbhgmcmceaaDoorTlen
namespace Go.Proofs.YtmfpjbhgmcmceaaDoor
open Go.RowKit

/-- Where a number is put. -/
theorem pil_at : ∀ (T : List Int) (x : Int) (k : Nat), k ≤ T.length → (∀ j, j < k → T.getD j 0 < x) → (k < T.length → x ≤ T.getD k 0) → pil T x = if k < T.length then T.set k x else T ++ [x]
  | [], x, k, hk, _, _ => by
    obtain rfl : k = 0 := by simpa using hk
    rfl
  | t :: T, x, 0, _, _, h2 => by
    have : x ≤ t := h2 (by simp)
    rw [pil, if_neg (by omega), if_pos (by simp)]
    rfl
  | t :: T, x, k + 1, hk, h1, h2 => by
    have h0 : t < x := h1 0 (by omega)
    rw [pil, if_pos h0, pil_at T x k (by simpa using hk) (fun j hj => h1 (j + 1) (by omega)) (fun h => h2 (by simpa using h))]
    by_cases e : k < T.length
    · rw [if_pos e, if_pos (by simpa using e)]; rfl
    · rw [if_neg e, if_neg (by simpa using e)]; rfl
set_option maxHeartbeats 4000000 in
set_option maxRecDepth 100000 in
theorem rpiles_any (A : Option Addr) (n c : Nat) (l : List Int) (w : World) (hn : n ≤ 20) (hl : IsInts w w.heap.size A n l) :
    Calls Tryd.prog 8 #[.slice A n c] w fun e w' => ∃ v, e = .returned v ∧ OwnI w' w.heap.size 3 v (tops l.reverse) ∧ Below w.heap.size w w' := by
  obtain ⟨i0, hi, hz0, hz1, hz2⟩ := info_parts int_info
  have HL := hid hl
  have HLN := hid hl.1
  clear hl
  go_enter Tryd.func8, Tryd.ntmps8
  go_wp2_with fail
  go_loopw [3, 4] (fun v x wr => ∃ i : Nat, i ≤ n ∧ x = .int .i64 i ∧ Hid (OwnI wr w.heap.size 3 v (tops (pre l i))) ∧ Below w.heap.size w wr) (fun _ x _ => n - (intOf x).toNat)
  case atStart => exact ⟨0, by omega, rfl, hid (OwnI.nil _ _ _), Below.refl _ _⟩
  case round =>
    obtain ⟨i, hin, rfl, HO, hbw⟩ := hrel
    by_cases hlt : i < n
    · obtain ⟨g, off, rfl, hg, hc⟩ := HL.out.2 (by omega)
      have xi : wr.cell? ⟨g, off + i, none⟩ = some (.int .i64 (l.getD i 0)) := (hbw.cell hg).trans (hc i hlt)
      have hgr : g < wr.heap.size := Nat.lt_of_lt_of_le hg hbw.size
      have HNX := hid (show tops (pre l (i + 1)) = pil (tops (pre l i)) (l.getD i 0) by rw [pre_succ (by rw [HLN.out]; exact hlt)]; rfl)
      have HPA := hid (pil_at (tops (pre l i)) (l.getD i 0))
      have hlen : (tops (pre l i)).length ≤ 20 := by
        have := tops_len (pre l i)
        rw [pre_len (by rw [HLN.out]; exact hin)] at this
        omega
      obtain ⟨T, hT⟩ : ∃ T, T = tops (pre l i) := ⟨_, rfl⟩
      obtain ⟨X, hX⟩ : ∃ X, X = l.getD i 0 := ⟨_, rfl⟩
      rw [← hT, ← hX] at HPA HNX
      rw [← hT] at HO hlen
      rw [← hX] at xi
      clear hT hX hc HL
      obtain ⟨w0, hw0⟩ : ∃ z, z = wr := ⟨_, rfl⟩
      subst hw0
      obtain ⟨A3, c3, rfl, hmc, hI⟩ := IsInts.of_own HO.out
      obtain ⟨m, hm⟩ : ∃ m, m = T.length := ⟨_, rfl⟩
      rw [← hm] at hI HPA hlen hmc
      rw [← hm] at HO
      rw [← hm]
      have HTM := hid hm
      have HI := hid hI
      clear hI hm
      go_wp2_with fail
      go_loopw [5] (fun x wr => ∃ k : Nat, k ≤ m ∧ x = .int .i64 k ∧ Hid (∀ j, j < k → T.getD j 0 < X) ∧ Hid (∃ q, wr = w0.drewN q)) (fun x _ => m - (intOf x).toNat)
      case atStart => exact ⟨0, by omega, rfl, hid (fun j hj => absurd hj (by omega)), hid ⟨0, rfl⟩⟩
      case round =>
        obtain ⟨k, hkm, rfl, HK, HQ⟩ := hrel
        obtain ⟨q, hq⟩ := HQ.out
        have xi2 : wr.cell? ⟨g, off + i, none⟩ = some (.int .i64 X) := by rw [hq]; exact xi
        by_cases hlt2 : k < m
        · obtain ⟨g3, off3, rfl, hg3, hc3⟩ := HI.out.2 (by omega)
          have tk : wr.cell? ⟨g3, off3 + k, none⟩ = some (.int .i64 (T.getD k 0)) := by rw [hq]; exact hc3 k hlt2
          by_cases hX : T.getD k 0 < X
          · have HK2 : Hid (∀ j, j < k + 1 → T.getD j 0 < X) := hid fun j hj => by
              by_cases e : j = k
              · rw [e]; exact hX
              · exact HK.out j (by omega)
            have HQ2 : ∀ q', Hid (∃ q, wr.drewN q' = w0.drewN q) := fun q' => hid (by
              rw [hq]
              first | exact ⟨_, rfl⟩ | (simp only [World.drewN_drewN]; exact ⟨_, rfl⟩))
            clear hq HK HQ
            generalize T.getD k 0 = Z at tk hX
            have hd : decide (Z < X) = true := decide_eq_true hX
            go_wp2_with fail
            go_quiet (fail)
            go_wp2_with fail
            go_roundw
            case rel => exact ⟨k + 1, by omega, by go_num, HK2, HQ2 _⟩
            case measure => simp [intOf]; omega
          · have hset := HPA.out k (by omega) HK.out fun _ => by omega
            rw [if_pos hlt2] at hset
            have HOq := hid (HO.out.drewN q)
            have hbq := below_drewN hbw q
            rw [← hq] at HOq hbq
            have hoff : off3 = 0 ∧ w.heap.size ≤ g3 := by
              obtain ⟨g4, c4, e4, hb4, _⟩ := HO.out.cells (by rw [← HTM.out]; omega)
              injection e4 with e4 _ _
              injection e4 with e4
              injection e4 with e5 e6 _
              exact ⟨e6, by omega⟩
            obtain ⟨rfl, hbg⟩ := hoff
            rw [Nat.zero_add] at tk
            have HIQ : ∀ q', Hid ((wr.drewN q').cell? ⟨g, off + i, none⟩ = some (.int .i64 X)) := fun q' => hid xi2
            have hmi : ((k : Int) == (m : Int)) = false := beq_eq_false_iff_ne.2 (by omega)
            have hd : decide (T.getD k 0 < X) = false := decide_eq_false hX
            have HTX := hid hset
            clear hq HK HQ HI hset hX hc3 HO
            generalize T.getD k 0 = Z at tk hd
            go_wp2_with fail
            go_quiet (fail)
            rename_i nq _
            have HO2 := hid (HOq.out.drewN nq)
            have hb2 := below_drewN hbq nq
            have xi3 := (HIQ nq).out
            clear xi2 tk HIQ HOq hbq xi
            generalize wr.drewN nq = wz at HO2 hb2 xi3 ⊢
            have hf := HO2.out.frozen HTM.out.symm k
            have hck := HO2.out.at_ HTM.out.symm hlt2
            have HO3 := hid (HO2.out.set HTM.out.symm k X).1
            have hb3 := hb2.trans (HO2.out.below_set (j := k) (u := .int .i64 X))
            clear HO2 hb2
            go_wp2_with fail
            go_roundw
            case rel => exact ⟨i + 1, by omega, by go_num, hid (by rw [HNX.out, HTX.out]; exact HO3.out), hb3⟩
            case measure => simp [intOf]; omega
        · obtain rfl : k = m := by omega
          have hset := HPA.out k (by omega) HK.out fun h => absurd h hlt2
          rw [if_neg hlt2] at hset
          have HTX := hid hset
          have HOq := hid (HO.out.drewN q)
          have hbq := below_drewN hbw q
          rw [← hq] at HOq hbq
          have hdd : decide (k < k) = false := decide_eq_false (by omega)
          have HIQ : ∀ q', Hid ((wr.drewN q').cell? ⟨g, off + i, none⟩ = some (.int .i64 X)) := fun q' => hid xi2
          have hlen2 : T.length ≤ 1099511627776 := by rw [← HTM.out]; omega
          clear hq HK HQ HI hset HO hlt2
          go_wp2_with fail
          go_quiet (fail)
          rename_i nq _
          have HO2 := hid (HOq.out.drewN nq)
          have hb2 := below_drewN hbq nq
          have xi3 := (HIQ nq).out
          clear xi2 HIQ HOq hbq xi
          generalize wr.drewN nq = wz at HO2 hb2 xi3 ⊢
          have hsz := hb2.size
          go_wp2_with (at_builtin; refine wpList_append_int _ rfl (.tmp 33) (.tmp 38) 22 rfl w.heap.size 3 i0 Tryd.underlying22 hi hz0 hz1 hz2 _ T rfl HO2.out X rfl hlen2 hsz ?_)
          intro v' w6 hown6 hb6
          have HO6 := hid hown6
          have hbZ := hb2.trans hb6
          clear hown6 hb6 HO2 hb2
          go_wp2_with fail
          go_roundw
          case rel => exact ⟨i + 1, by omega, by go_num, hid (by rw [HNX.out, HTX.out]; exact HO6.out), hbZ⟩
          case measure => simp [intOf]; omega
    · obtain rfl : i = n := by omega
      have HR := hid (pre_all (l := l) (i := i) (by rw [HLN.out]; exact Nat.le_refl _))
      have hd : decide (i < i) = false := decide_eq_false (by omega)
      have HO2 := HO
      rw [HR.out] at HO2
      clear HO HL hlt HR
      obtain ⟨A3, c3, rfl, _, _⟩ := IsInts.of_own HO2.out
      have HLT := hid (rfl : (tops l.reverse).length = (tops l.reverse).length)
      obtain ⟨m, hm⟩ : ∃ m, m = (tops l.reverse).length := ⟨_, rfl⟩
      rw [← hm] at HO2 ⊢
      clear hm HLT
      go_wp2_with fail
      go_ret
      exact ⟨_, rfl, HO2.out, hbw⟩
end Go.Proofs.YtmfpjbhgmcmceaaDoor
