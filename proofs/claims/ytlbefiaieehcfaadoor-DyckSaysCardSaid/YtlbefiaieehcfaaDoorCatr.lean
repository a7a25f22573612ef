/-
  Contract of letterbeckref3.Catalan: Catalan's number, by sums. Conditions: at most eight.
-/
import Derived.Test.YtlbefiaieehcfaaDoorBase
import Derived.Test.YtlbefiaieehcfaaDoorDyckM
import Derived.Test.YtlbefiaieehcfaaDoorApart
namespace Go.Proofs.YtlbefiaieehcfaaDoor
open Go.RowKit

/-- The first k numbers. -/
def catL (k : Nat) : List Int := (List.range k).map fun t => (cat t : Int)
theorem catL_len (k : Nat) : (catL k).length = k := by simp [catL]
theorem catL_at {k t : Nat} (h : t < k) : (catL k).getD t 0 = (cat t : Int) := by simp [catL, h]
theorem catL_succ (k : Nat) : catL (k + 1) = catL k ++ [(cat k : Int)] := by
  unfold catL
  rw [List.range_succ, List.map_append]
  rfl
set_option maxHeartbeats 4000000 in
set_option maxRecDepth 100000 in
theorem rcat_any (n : Nat) (w : World) (hn : n ≤ 8) :
    Calls Tryd.prog 10 #[.int .i64 (n : Int)] w fun e w' => e = .returned (.int .i64 (cat n : Nat)) ∧ Below w.heap.size w w' := by
  obtain ⟨i0, hi, hz0, hz1, hz2⟩ := info_parts int_info
  have HO1 : Hid (OwnI (w.alloc (.cells #[.int .i64 1] 3)) w.heap.size 3 (.slice (some ⟨w.heap.size, 0, none⟩) 1 1) (catL 1)) :=
    hid (OwnI.mk_ (World.ownsRow_lit w #[.int .i64 1] 1 (Nat.le_refl _) (by unfold maxLen; omega) rfl))
  have hb1 : Below w.heap.size w (w.alloc (.cells #[.int .i64 1] 3)) := (Below.refl _ _).alloc (Nat.le_refl _) _
  go_enter Tryd.func10, Tryd.ntmps10
  go_wp2_with fail
  go_loopw [3, 4] (fun v x wr => ∃ (k : Nat) (z : Value), v = z ∧ 1 ≤ k ∧ k ≤ n + 1 ∧ x = .int .i64 k ∧ Hid (OwnI wr w.heap.size 3 z (catL k)) ∧ Below w.heap.size w wr) (fun _ x _ => n + 1 - (intOf x).toNat)
  case atStart => exact ⟨1, _, rfl, by omega, by omega, rfl, HO1, hb1⟩
  case round =>
    clear HO1 hb1
    obtain ⟨k, v, hv, hk1, hkn, rfl, HO, hb⟩ := hrel
    have hv := hv.symm
    subst hv
    obtain ⟨A, c, rfl, _, hI⟩ := IsInts.of_own HO.out
    rw [catL_len] at hI HO ⊢
    obtain ⟨g, off, rfl, hg, hc⟩ := hI.2 (by omega)
    have HC := hid hc
    clear hI hc
    by_cases hlt : k ≤ n
    · have hki : (k : Int) ≤ (n : Int) := by omega
      obtain ⟨w0, hw0⟩ : ∃ z, z = wr := ⟨_, rfl⟩
      subst hw0
      go_wp2_with fail
      go_loopw [5, 6] (fun v x wr => ∃ i : Nat, i ≤ k ∧ x = .int .i64 i ∧ v = .int .i64 (cats k i : Nat) ∧ Hid (∃ q, wr = w0.drewN q)) (fun _ x _ => k - (intOf x).toNat)
      case atStart => exact ⟨0, by omega, rfl, rfl, hid ⟨0, rfl⟩⟩
      case round =>
        obtain ⟨i, hik, rfl, rfl, HQ⟩ := hrel
        obtain ⟨q, hq⟩ := HQ.out
        by_cases hil : i < k
        · obtain ⟨K1, hK1⟩ : ∃ K, K = k - 1 := ⟨_, rfl⟩
          obtain ⟨J, hJ⟩ : ∃ J, J = k - 1 - i := ⟨_, rfl⟩
          have e1 : IntKind.i64.wrap ((k : Int) - 1) = (K1 : Int) := by rw [IntWalk.i64_in _ (by omega)]; omega
          have e2 : IntKind.i64.wrap ((K1 : Int) - (i : Int)) = (J : Int) := by rw [IntWalk.i64_in _ (by omega)]; omega
          have c1 : wr.cell? ⟨g, off + i, none⟩ = some (.int .i64 (cat i : Nat)) := by rw [hq]; have := HC.out i hil; rwa [catL_at hil] at this
          have c2 : wr.cell? ⟨g, off + J, none⟩ = some (.int .i64 (cat J : Nat)) := by
            rw [hq]; have := HC.out J (by omega); rwa [catL_at (by omega)] at this
          have hs := cats_succ k i
          rw [← hJ] at hs
          have l1 := cat_le i (by omega)
          have l2 := cat_le J (by omega)
          have l3 := cats_le k (by omega) i hik
          have hil2 : (i : Int) < (k : Int) := by omega
          have hJl : J < k := by omega
          have hJ2 : (J : Int) < (k : Int) := by omega
          have hM : cat i * cat J ≤ 1430 * 1430 := Nat.mul_le_mul l1 l2
          have e3 : IntKind.i64.wrap ((cat i : Int) * (cat J : Int)) = ((cat i * cat J : Nat) : Int) := by
            rw [← Int.natCast_mul, IntWalk.i64_in _ (by omega)]
          generalize cat i * cat J = M at hs hM e3
          have e4 : IntKind.i64.wrap ((cats k i : Int) + (M : Int)) = ((cats k (i + 1) : Nat) : Int) := by
            rw [IntWalk.i64_in _ (by omega), hs]; push_cast; rfl
          have HQ2 : ∀ q', Hid (∃ q, wr.drewN q' = w0.drewN q) := fun q' => hid (by
            rw [hq]
            first | exact ⟨_, rfl⟩ | (simp only [World.drewN_drewN]; exact ⟨_, rfl⟩))
          clear hs hM hK1 hJ HQ hq l1 l2 l3
          generalize cat i = X at c1 e3
          generalize cat J = Y at c2 e3
          generalize cats k i = Z at e4 ⊢
          obtain ⟨Z1, hZ1⟩ : ∃ z, z = cats k (i + 1) := ⟨_, rfl⟩
          rw [← hZ1] at e4
          have HZ1 := hid hZ1
          clear hZ1
          go_wp2_with fail
          go_quiet (fail)
          go_wp2_with fail
          go_roundw
          case rel => exact ⟨i + 1, by omega, by go_num, by rw [HZ1.out], HQ2 _⟩
          case measure => simp [intOf]; omega
        · obtain rfl : i = k := by omega
          have hcat := cats_all i (by omega) hk1
          rw [hcat]
          have hO2 : OwnI wr w.heap.size 3 (.slice (some ⟨g, off, none⟩) i c) (catL i) := by rw [hq]; exact HO.out.drewN q
          have hbq : Below w.heap.size w wr := by rw [hq]; exact below_drewN hb q
          have hlen : (catL i).length ≤ 1099511627776 := by rw [catL_len]; omega
          have hsz := hbq.size
          have hil2 : ¬ (i : Int) < (i : Int) := by omega
          have HSn := hid (catL_succ i)
          clear hcat HQ hq HO hb HC hg
          generalize hX : cat i = X at HSn ⊢
          clear hX
          go_wp2_with (at_builtin; refine wpList_append_int _ rfl (.tmp 32) (.tmp 34) 40 rfl w.heap.size 3 i0 Tryd.underlying40 hi hz0 hz1 hz2 _ (catL i) rfl hO2 (X : Int) rfl hlen hsz ?_)
          intro v' w' hown' hb'
          have HO2 := hid hown'
          rw [← HSn.out] at HO2
          have hbx := hbq.trans hb'
          clear hown' hb' hO2 hbq
          go_wp2_with fail
          go_roundw
          case rel => exact ⟨i + 1, _, rfl, by omega, by omega, by go_num, HO2, hbx⟩
          case measure => simp [intOf]; omega
    · obtain rfl : k = n + 1 := by omega
      have hki : ¬ ((n + 1 : Nat) : Int) ≤ (n : Int) := by omega
      have c1 := HC.out n (by omega)
      rw [catL_at (by omega)] at c1
      have hni : (n : Int) < ((n + 1 : Nat) : Int) := by omega
      clear HC HO
      go_wp2_with fail
      go_ret
      exact ⟨rfl, hb⟩
end Go.Proofs.YtlbefiaieehcfaaDoor
