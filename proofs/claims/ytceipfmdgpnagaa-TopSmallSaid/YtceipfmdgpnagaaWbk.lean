/-
  The way back from a transform: wheel.Back answers the rotation that stands at the place. No condition but the size.
-/
import Derived.Test.YtceipfmdgpnagaaWback
namespace Go.Proofs.Ytceipfmdgpnagaa
open Go.RowKit

/-- The rotation that stands at a place, of any list. -/
theorem wheel_at {l : List UInt8} {o : List Nat} (h : Stb (wheelT l) o) {r : Nat} (hr : 0 < l.length → r < l.length) : wlk (wheelT l) o l.length r = (wheelM l).getD r [] ∧ wheelT ((wheelM l).getD r []) = wheelT l := by
  rcases Nat.eq_zero_or_pos l.length with e | e
  · obtain rfl := List.length_eq_zero_iff.1 e
    have : wheelM [] = [] := List.length_eq_zero_iff.1 (by rw [wheelM_len]; rfl)
    rw [this]
    exact ⟨rfl, rfl⟩
  · refine ⟨wheel_back h (hr e), ?_⟩
    obtain ⟨i, hi, he⟩ := wheelM_row (hr e)
    rw [he, wheelT_spin (by omega)]
theorem back_wheel (l : List UInt8) (r : Nat) (w : World) (h : l.length ≤ 24) (hr : (0 < l.length → r < l.length) ∧ (l.length = 0 → r = 0)) :
    Calls Try.prog 15 #[.string (txt (wheelT l)), .int .i64 r] w fun e w' => e = .returned (.tuple #[.string (txt ((wheelM l).getD r [])), .nilIface]) ∧ Below w.heap.size w w' := by
  have hs : (txt (wheelT l)).size = l.length := by rw [txt_size, wheelT_len]
  refine (back_any (txt (wheelT l)) r w (by rw [hs]; exact h) (by rw [hs]; exact hr)).mono ?_
  rintro e w' ⟨o, hO, hcase, hb⟩
  rw [bs_txt] at hO hcase
  rw [hs] at hcase
  obtain ⟨e1, e2⟩ := wheel_at hO hr.1
  rw [e1] at hcase
  rcases hcase with ⟨_, h2⟩ | ⟨h1, _⟩
  · exact ⟨h2, hb⟩
  · exact absurd e2 h1
end Go.Proofs.Ytceipfmdgpnagaa
