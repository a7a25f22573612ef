/-
  Contract of letterbeckref1.Turn: it answers the rotation at a place of the text. Conditions: a text of at most 2^40 bytes.
-/
import Derived.Test.YtldhcmoecmfigaaBase
import Derived.Test.YtldhcmoecmfigaaRot
import Derived.Laws.Concat
namespace Go.Proofs.Ytldhcmoecmfigaa
open Go.RowKit

set_option maxHeartbeats 400000 in
theorem rturn_any (s : ByteArray) (b : Nat) (w : World) (h : s.size ≤ 1099511627776) (hb : b ≤ s.size) :
    Calls Try.prog 11 #[.string s, .int .i64 b] w fun e w' => e = .returned (.string (turnS s b)) ∧ ∃ q, w' = w.drewN q := by
  have hc1 : ∀ W : World, Sem.run Try.prog (Instr.slice 9 (.string s) (some (.int .i64 (b : Int))) none none) W = .ok (.string (s.extract b s.size)) W := fun W =>
    run_slice_string_l W 9 s Try.underlying9 .i64 (b : Int) (by omega) (by omega)
  have hc2 : ∀ W : World, Sem.run Try.prog (Instr.slice 9 (.string s) none (some (.int .i64 (b : Int))) none) W = .ok (.string (s.extract 0 b)) W := fun W =>
    run_slice_string_h W 9 s Try.underlying9 .i64 (b : Int) (by omega) (by omega)
  have hadd := fun W => run_string_add_sum (P := Try.prog) W (s.extract b s.size) (s.extract 0 b) (by rw [ByteArray.size_extract, ByteArray.size_extract]; omega)
  have HT : Hid (s.extract b s.size ++ s.extract 0 b = turnS s b) := hid rfl
  generalize s.extract b s.size ++ s.extract 0 b = t at hadd HT
  generalize s.extract b s.size = u at hc1 hadd
  generalize s.extract 0 b = v at hc2 hadd
  go_enter Try.func11, Try.ntmps11
  go_wp2
  go_quiet (fail)
  go_wp2
  go_ret
  exact ⟨by rw [← HT.out]; rfl, by first | exact ⟨_, rfl⟩ | (simp only [World.drewN_drewN]; exact ⟨_, rfl⟩)⟩
end Go.Proofs.Ytldhcmoecmfigaa
