/-
  Contract of letterbeckref1.Edges: it tells all borders of a text. Conditions: texts of at most 2^40 bytes.
-/
import Derived.Test.YtgpailgadpndjaaDoorBase
import Derived.Test.YtgpailgadpndjaaDoorStr
namespace Go.Proofs.YtgpailgadpndjaaDoor
open Go.RowKit

set_option maxHeartbeats 800000 in
theorem refEdges_any (s : ByteArray) (w : World) (h : s.size ≤ 1099511627776) :
    Calls Tryd.prog 6 #[.string s] w fun e w' => ∃ v, e = .returned v ∧ OwnI w' w.heap.size 3 v (allL s) ∧ Below w.heap.size w w' := by
  obtain ⟨i0, hi, hz0, hz1, hz2⟩ := info_parts int_info
  go_enter Tryd.func6, Tryd.ntmps6
  go_wp2
  go_loopw [3, 4] (fun v t wr => ∃ k : Nat, 1 ≤ k ∧ (k ≤ s.size ∨ k = 1) ∧ t = .int .i64 k ∧ OwnI wr w.heap.size 3 v (edsTo (sg s) s.size k) ∧ Below w.heap.size w wr) (fun _ t _ => s.size - (intOf t).toNat)
  case atStart => exact ⟨1, by omega, by omega, rfl, by rw [edsTo_one]; exact OwnI.nil _ _ _, Below.refl _ _⟩
  case round =>
    obtain ⟨k, hk1, hk2, rfl, hown, hb⟩ := hrel
    by_cases hlt : k < s.size
    · have hlen := edsTo_len (sg s) s.size k
      have hsz := hb.size
      by_cases hbd : Bd (sg s) s.size k
      · have hq := same_yes ((bd_text s k hlt).1 hbd)
        have HE := hid (edsTo_yes (f := sg s) (m := s.size) (k := k) (by omega) hbd)
        generalize edsTo (sg s) s.size k = cs at hown hlen HE
        clear hbd
        go_wp2
        go_quiet (fail)
        have hown2 := hown.drewN nq
        have hb2 := below_drewN hb nq
        have hsz2 : w.heap.size ≤ (wr.drewN nq).heap.size := hsz
        generalize wr.drewN nq = w1 at hown2 hb2 hsz2 ⊢
        clear hown hb hsz
        go_wp2_with (at_builtin; refine wpList_append_int _ rfl (.tmp 21) (.tmp 23) 23 rfl w.heap.size 3 i0 Tryd.underlying23 hi hz0 hz1 hz2 _ cs rfl hown2 (k : Int) rfl (by omega) (by omega) ?_)
        intro v' w2 hown3 hb3
        go_wp2
        go_roundw
        case rel => exact ⟨k + 1, by omega, by omega, by go_num, by rw [HE.out]; exact hown3, hb2.trans hb3⟩
        case measure => simp [intOf]; omega
      · have hq := same_no (fun e => hbd ((bd_text s k hlt).2 e))
        have HE := hid (edsTo_no hbd)
        generalize edsTo (sg s) s.size k = cs at hown hlen HE
        clear hbd
        go_wp2
        go_quiet (fail)
        go_wp2
        go_roundw
        case rel => exact ⟨k + 1, by omega, by omega, by go_num, by rw [HE.out]; exact hown.drewN _, below_drewN hb _⟩
        case measure => simp [intOf]; omega
    · have he : edsTo (sg s) s.size k = allL s := edsTo_end s k hk2 hlt
      rw [he] at hown
      clear he
      go_wp2
      go_ret
      exact ⟨_, rfl, hown, hb⟩
end Go.Proofs.YtgpailgadpndjaaDoor
