/-
  Contract of letterbeckref2.Ends: the ends of a text, by where they begin, in new memory. Conditions: a text of at most 1000 bytes.
-/
import Derived.Test.YtdkbgikniacekaaDoorEndsT
namespace Go.Proofs.YtdkbgikniacekaaDoor
open Go.RowKit

set_option maxRecDepth 100000 in
set_option maxHeartbeats 800000 in
theorem rends_any (s : ByteArray) (w : World) (h : s.size ≤ 1000) :
    Calls Tryd.prog 6 #[.string s] w fun e w' => ∃ v, e = .returned v ∧ OwnS w' w.heap.size 9 v (endsT s s.size) ∧ Below w.heap.size w w' := by
  obtain ⟨i0, hi, hz0, hz1, hz2⟩ := info_parts str_info
  go_enter Tryd.func6, Tryd.ntmps6
  go_wp2_with fail
  go_loopw [3, 4] (fun v x wr => ∃ i : Nat, i ≤ s.size ∧ x = .int .i64 i ∧ Hid (OwnS wr w.heap.size 9 v (endsT s i)) ∧ Below w.heap.size w wr) (fun _ x _ => s.size - (intOf x).toNat)
  case atStart => exact ⟨0, by omega, rfl, hid (OwnS.nil _ _ _), Below.refl _ _⟩
  case round =>
    obtain ⟨i, hi1, rfl, HV, hbr⟩ := hrel
    by_cases hlt : i < s.size
    · have hcut : ∀ W : World, Sem.run Tryd.prog (Instr.slice 9 (.string s) (some (.int .i64 (i : Int))) none none) W = .ok (.string (s.extract i s.size)) W := fun W =>
        run_slice_string_l W 9 s Tryd.underlying9 .i64 (i : Int) (by omega) (by omega)
      have HS := hid (endsT_succ s i)
      have hl := endsT_len s i
      have hv := HV.out
      generalize s.extract i s.size = t1 at hcut HS
      generalize endsT s i = ws at HS hl hv
      have hsr := hbr.size
      clear HV
      go_wp2_with (at_builtin; refine wpList_append_str _ rfl _ _ 25 rfl w.heap.size 9 i0 Tryd.underlying25 hi hz0 hz1 hz2 _ ws rfl hv t1 rfl (by omega) (by omega) ?_)
      intro v' w3 hown3 hb3
      clear hv
      go_wp2_with fail
      go_roundw
      case rel => exact ⟨i + 1, by omega, by go_num, hid (by rw [HS.out]; exact hown3), hbr.trans hb3⟩
      case measure => simp [intOf]; omega
    · obtain rfl : i = s.size := by omega
      go_wp2_with fail
      go_ret
      exact ⟨_, rfl, HV.out, hbr⟩
end Go.Proofs.YtdkbgikniacekaaDoor
