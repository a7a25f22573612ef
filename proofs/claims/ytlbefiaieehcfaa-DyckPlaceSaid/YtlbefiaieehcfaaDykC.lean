/-
  Contract of dyck.Check: what is wrong with a text of brackets. Condition: the size that a row itself sets, for a text that is not fine.
-/
import Derived.Test.YtlbefiaieehcfaaSgnw
namespace Go.Proofs.Ytlbefiaieehcfaa
open Go.RowKit

/-- What is answered. -/
def brE (k : Int) : Value := if k = 0 then .nilIface else .iface 40 (.int .i64 k)
set_option maxHeartbeats 2000000 in
theorem dcheck_any (s : ByteArray) (w : World) (hs : s.size ≤ maxLen) :
    Calls Try.prog 13 #[.string s] w fun e w' => e = .returned (brE (brS s)) ∧ w' = w := by
  unfold maxLen at hs
  by_cases h : 16 < s.size
  · rw [brS_long h]
    go_enter Try.func13, Try.ntmps13
    go_wp2_with fail
    go_ret
    exact ⟨rfl, rfl⟩
  · have hB := hid (brS_short (s := s) (by omega))
    go_enter Try.func13, Try.ntmps13
    go_wp2_with fail
    go_loopw [3, 11] (fun v x wr => ∃ i o : Nat, i ≤ s.size ∧ x = .int .i64 i ∧ v = .int .i64 o ∧ o ≤ i ∧ Hid (BrTo s i o) ∧ wr = w) (fun _ x _ => s.size - (intOf x).toNat)
    case atStart => exact ⟨0, 0, by omega, rfl, rfl, Nat.le_refl _, hid (brTo_start s), rfl⟩
    case round =>
      obtain ⟨i, o, hin, rfl, rfl, hoi, HT, hwr⟩ := hrel
      subst hwr
      by_cases hlt : i < s.size
      · have hli : (i : Int) < (s.size : Int) := by omega
        rcases sign_ways hlt with ⟨c1, hc⟩ | ⟨c1, h1, ⟨c2, hc⟩ | ⟨c2, h2⟩⟩
        · have HT2 := hid (brTo_op HT.out hlt hc)
          have e2 : decide ((o : Int) + 1 < 0) = false := decide_eq_false (by omega)
          clear hc HT
          go_wp2_with fail
          go_roundw
          case rel => exact ⟨i + 1, o + 1, by omega, by go_num, by go_num, by omega, HT2, by first | rfl | trivial⟩
          case measure => simp [intOf]; omega
        · rcases o with _ | o
          · have hb := hid (brTo_shut HT.out hlt hc)
            clear hc HT h1
            go_wp2_with fail
            go_ret
            exact ⟨by rw [hB.out, hb.out]; rfl, rfl⟩
          · have HT2 := hid (brTo_cl HT.out hlt hc)
            have e1 : ((o + 1 : Nat) : Int) - 1 = (o : Int) := by omega
            have e2 : decide ((o : Int) < 0) = false := decide_eq_false (by omega)
            clear hc HT h1
            go_wp2_with fail
            go_roundw
            case rel => exact ⟨i + 1, o, by omega, by go_num, by go_num, by omega, HT2, by first | rfl | trivial⟩
            case measure => simp [intOf]; omega
        · have hb := hid (brTo_sign HT.out hlt h1 h2)
          clear HT h1 h2
          go_wp2_with fail
          go_ret
          exact ⟨by rw [hB.out, hb.out]; rfl, rfl⟩
      · have hb := hid (brTo_end HT.out (by omega))
        clear HT
        by_cases h0 : 0 < o
        · rw [if_pos h0] at hb
          go_wp2_with fail
          go_ret
          exact ⟨by rw [hB.out, hb.out]; rfl, rfl⟩
        · rw [if_neg h0] at hb
          go_wp2_with fail
          go_ret
          exact ⟨by rw [hB.out, hb.out]; rfl, rfl⟩
theorem dcheck_ok (s : ByteArray) (w : World) (h : brS s = 0) :
    Calls Try.prog 13 #[.string s] w fun e w' => e = .returned .nilIface ∧ Below w.heap.size w w' :=
  (dcheck_any s w (by have := (brS_zero.1 h).1; unfold maxLen; omega)).mono fun e w' ⟨h1, h2⟩ => ⟨by rw [h1, h]; rfl, by subst h2; exact Below.refl _ _⟩
theorem dcheck_bad (s : ByteArray) (w : World) (hs : s.size ≤ maxLen) (h : brS s ≠ 0) :
    Calls Try.prog 13 #[.string s] w fun e w' => e = .returned (.iface 40 (.int .i64 (brS s))) ∧ Below w.heap.size w w' :=
  (dcheck_any s w hs).mono fun e w' ⟨h1, h2⟩ => ⟨by rw [h1, brE, if_neg h], by subst h2; exact Below.refl _ _⟩
end Go.Proofs.Ytlbefiaieehcfaa
