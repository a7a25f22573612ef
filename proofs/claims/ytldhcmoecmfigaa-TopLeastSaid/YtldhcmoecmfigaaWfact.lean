/-
  The way back from a transform: wheel.Back answers the rotation that stands at the place; and the closed fact of the wheel's laws: wheelFact returns true. No condition but the size.
-/
import Derived.Test.YtldhcmoecmfigaaWback
namespace Go.Proofs.Ytldhcmoecmfigaa
open Go.RowKit

/-- The rotation that stands at a place, of any list. -/
theorem wheel_at {l : List UInt8} {o : List Nat} (h : Stb (wheelT l) o) {r : Nat} (hr : 0 < l.length → r < l.length) : wlk (wheelT l) o l.length r = (wheelM l).getD r [] ∧ wheelT ((wheelM l).getD r []) = wheelT l := by
  rcases Nat.eq_zero_or_pos l.length with e | e
  · obtain rfl := List.length_eq_zero_iff.1 e
    have : wheelM [] = [] := List.length_eq_zero_iff.1 (by rw [wheelM_len]; rfl)
    rw [this]
    exact ⟨rfl, rfl⟩
  · refine ⟨wheel_back h (hr e), ?_⟩
    obtain ⟨i, hi, he⟩ := wheelM_row (hr e)
    rw [he, wheelT_spin (by omega)]
theorem back_wheel (l : List UInt8) (r : Nat) (w : World) (h : l.length ≤ 24) (hr : (0 < l.length → r < l.length) ∧ (l.length = 0 → r = 0)) :
    Calls Try.prog 9 #[.string (txt (wheelT l)), .int .i64 r] w fun e w' => e = .returned (.tuple #[.string (txt ((wheelM l).getD r [])), .nilIface]) ∧ Below w.heap.size w w' := by
  have hs : (txt (wheelT l)).size = l.length := by rw [txt_size, wheelT_len]
  refine (back_any (txt (wheelT l)) r w (by rw [hs]; exact h) (by rw [hs]; exact hr)).mono ?_
  rintro e w' ⟨o, hO, hcase, hb⟩
  rw [bs_txt] at hO hcase
  rw [hs] at hcase
  obtain ⟨e1, e2⟩ := wheel_at hO hr.1
  rw [e1] at hcase
  rcases hcase with ⟨_, h2⟩ | ⟨h1, _⟩
  · exact ⟨h2, hb⟩
  · exact absurd e2 h1

def bananaL : List UInt8 := [98, 97, 110, 97, 110, 97]
theorem banana_rows : wheelM bananaL = [[97, 98, 97, 110, 97, 110], [97, 110, 97, 98, 97, 110], [97, 110, 97, 110, 97, 98], [98, 97, 110, 97, 110, 97], [110, 97, 98, 97, 110, 97], [110, 97, 110, 97, 98, 97]] :=
  sort_one (by unfold Asc; decide +kernel) (List.isPerm_iff.1 (by decide +kernel))
theorem banana_T : wheelT bananaL = [110, 110, 98, 97, 97, 97] := by unfold wheelT; rw [banana_rows]; rfl
theorem banana_N : wheelN bananaL = 3 := by unfold wheelN; rw [banana_rows]; decide +kernel
theorem there_banana (w : World) : Calls Try.prog 8 #[.string ⟨#[98, 97, 110, 97, 110, 97]⟩] w fun e w' => e = .returned (.tuple #[.string ⟨#[110, 110, 98, 97, 97, 97]⟩, .int .i64 3, .nilIface]) ∧ Below w.heap.size w w' := by
  have := there_any ⟨#[98, 97, 110, 97, 110, 97]⟩ w (by decide)
  rw [show bs ⟨#[98, 97, 110, 97, 110, 97]⟩ = bananaL from rfl, banana_T, banana_N] at this
  exact this
theorem back_banana (w : World) : Calls Try.prog 9 #[.string ⟨#[110, 110, 98, 97, 97, 97]⟩, .int .i64 3] w fun e w' => e = .returned (.tuple #[.string ⟨#[98, 97, 110, 97, 110, 97]⟩, .nilIface]) ∧ Below w.heap.size w w' := by
  have := back_wheel bananaL 3 w (by decide) (by decide)
  rw [banana_T, banana_rows] at this
  exact this

set_option maxHeartbeats 800000 in
theorem wfact_any (w : World) : Calls Try.prog 7 #[] w fun e w' => e = .returned (.bool true) ∧ Below w.heap.size w w' := by
  go_enter Try.func7, Try.ntmps7
  go_wp2_with fail
  refine (there_banana _).mono ?_
  rintro e w1 ⟨rfl, hb1⟩
  go_wp2_with fail
  refine (back_banana _).mono ?_
  rintro e w2 ⟨rfl, hb2⟩
  have hbB := hb1.trans (hb2.mono hb1.size)
  clear hb1 hb2
  go_wp2
  go_ret
  exact ⟨rfl, hbB⟩
end Go.Proofs.Ytldhcmoecmfigaa
