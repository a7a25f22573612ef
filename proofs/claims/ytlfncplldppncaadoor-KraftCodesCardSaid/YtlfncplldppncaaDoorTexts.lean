/-
  Contract of letterbecksame.Texts where two lists of texts are the same: it says yes, and changes nothing. Conditions: at most a thousand texts.
-/
import Derived.Test.YtlfncplldppncaaDoorBase
import Derived.Test.YtlfncplldppncaaDoorStrs
namespace Go.Proofs.YtlfncplldppncaaDoor
open Go.RowKit

set_option maxHeartbeats 1000000 in
theorem texts_yes (A B : Option Addr) (n c d : Nat) (ws : List ByteArray) (w : World) (hn : n ≤ 1000) (ha : IsStrs w w.heap.size A n ws) (hb : IsStrs w w.heap.size B n ws) :
    Calls Tryd.prog 12 #[.slice A n c, .slice B n d] w fun e w' => e = .returned (.bool true) ∧ ∃ q, w' = w.drewN q := by
  have HA := hid ha
  have HB := hid hb
  clear ha hb
  go_enter Tryd.func12, Tryd.ntmps12
  go_wp2_with fail
  go_loopw [5] (fun x wr => ∃ i q : Nat, i ≤ n ∧ x = .int .i64 i ∧ wr = w.drewN q) (fun x _ => n - (intOf x).toNat)
  case atStart => exact ⟨0, 0, by omega, rfl, rfl⟩
  case round =>
    obtain ⟨i, q, hin, rfl, hwr⟩ := hrel
    subst wr
    by_cases hlt : i < n
    · obtain ⟨g, off, rfl, _, hc⟩ := HA.out.2 (by omega)
      obtain ⟨g', off', rfl, _, hc'⟩ := HB.out.2 (by omega)
      have c1 : w.cell? ⟨g, off + i, none⟩ = some (.string (wat ws i)) := hc i hlt
      have c2 : w.cell? ⟨g', off' + i, none⟩ = some (.string (wat ws i)) := hc' i hlt
      have i1 : (i : Int) < (n : Int) := by omega
      generalize wat ws i = X at c1 c2
      have hq := same_yes (rfl : X = X)
      clear hc hc'
      go_wp2_with fail
      go_quiet (fail)
      go_wp2_with fail
      go_roundw
      case rel => exact ⟨i + 1, _, by omega, by go_num, by first | rfl | exact World.drewN_drewN _ _ _⟩
      case measure => simp [intOf]; omega
    · obtain rfl : i = n := by omega
      go_wp2_with fail
      go_ret
      exact ⟨rfl, _, rfl⟩
end Go.Proofs.YtlfncplldppncaaDoor
