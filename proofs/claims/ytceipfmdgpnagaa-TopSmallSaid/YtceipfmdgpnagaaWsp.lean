/-
  Texts as lists of signs, and a text's rotations as lists. No condition.
-/
import Derived.Test.YtceipfmdgpnagaaStrs
import Derived.Test.YtceipfmdgpnagaaRot
import Derived.Test.YtceipfmdgpnagaaBwt
namespace Go.Proofs.Ytceipfmdgpnagaa

theorem bs_turn (s : ByteArray) (i : Nat) : bs (turnS s i) = spin (bs s) i := by
  unfold turnS spin
  rw [wb_app, wb_ext, wb_ext, List.drop_zero, ← bs_len s, List.take_length]
theorem turn_txt (s : ByteArray) (i : Nat) : turnS s i = txt (spin (bs s) i) := bs_inj (by rw [bs_turn, bs_txt])
end Go.Proofs.Ytceipfmdgpnagaa
