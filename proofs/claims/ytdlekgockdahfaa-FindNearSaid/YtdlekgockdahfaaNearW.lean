/-
  The walk of FindNear: it returns true for every text and word, and leaves the old memory alone. No condition but the row's own sizes.
-/
import Derived.Test.YtdlekgockdahfaaFfact
import Derived.Test.YtdlekgockdahfaaPeriod
namespace Go.Proofs.Ytdlekgockdahfaa
open Go.RowKit

theorem near_bad (t u : ByteArray) (k : Int) (w : World) (h : BadW t u k) (ht : t.size ≤ maxLen) (hu : u.size ≤ maxLen) :
    Calls Try.prog 3 #[.string t, .string u] w fun e w' => e = .returned (.bool true) ∧ Below w.heap.size w w' := by
  have HL := fun w => hid (fall_bad t u k w h ht hu)
  unfold maxLen at ht hu
  clear h
  go_enter Try.func3, Try.ntmps3
  go_wp2_with fail
  refine (ffact_any _).mono ?_
  rintro e w1 ⟨rfl, hb1⟩
  go_wp2_with fail
  refine (HL _).out.mono ?_
  rintro e w2 ⟨rfl, rfl⟩
  go_wp2
  go_ret
  exact ⟨rfl, hb1⟩

set_option maxHeartbeats 800000 in
theorem near_any (t u : ByteArray) (w : World) (h1 : t.size ≤ 24) (h2 : u.size ≤ 24) (h0 : 0 < u.size) :
    Calls Try.prog 3 #[.string t, .string u] w fun e w' => e = .returned (.bool true) ∧ Below w.heap.size w w' := by
  have HL := fun w => hid (fall_any t u w h1 h2 h0)
  have hlen := occL_len t u
  have HB : Hid (∀ i, 1 ≤ i → i < (occL t u).length → ∃ p q : Nat, (occL t u).getD (i - 1) 0 = (p : Int) ∧ (occL t u).getD i 0 = (q : Int) ∧ p < q ∧ q < 24 ∧ Pd (sg u) u.size (q - p)) := hid fun i hi hlt => by
    obtain ⟨p, e1, hp, ho1⟩ := occ_at (t := t) (u := u) (i := i - 1) (by omega)
    obtain ⟨q, e2, hq, ho2⟩ := occ_at (t := t) (u := u) (i := i) (by omega)
    have := occ_rise hlt (show i - 1 < i by omega)
    have hpq : p < q := by omega
    exact ⟨p, q, e1, e2, hpq, by omega, near ho1 ho2 hpq⟩
  generalize occL t u = xs at HL HB hlen
  go_enter Try.func3, Try.ntmps3
  go_wp2_with fail
  refine (ffact_any _).mono ?_
  rintro e w1 ⟨rfl, hb1⟩
  have hs1 := hb1.size
  go_wp2_with fail
  refine (HL _).out.mono ?_
  rintro e w2 ⟨v, rfl, ho2, hb2⟩
  obtain ⟨A, c, rfl, _, hI⟩ := IsInts.of_own ho2
  have hb2 := hb1.trans (hb2.mono hs1)
  have HI := hid hI
  clear ho2 hb1 hI hs1 HL
  go_wp2
  go_loopw [8] (fun v wr => ∃ i q : Nat, 1 ≤ i ∧ (i ≤ xs.length ∨ i = 1) ∧ v = .int .i64 i ∧ wr = w2.drewN q) (fun v _ => xs.length - (intOf v).toNat)
  case atStart => exact ⟨1, 0, by omega, by omega, rfl, rfl⟩
  case round =>
    obtain ⟨i, q, hi0, hi1, rfl, rfl⟩ := hrel
    by_cases hlt : i < xs.length
    · obtain ⟨g, off, rfl, _, hca⟩ := HI.out.2 (by omega)
      have hx := hca i hlt
      have hy := hca (i - 1) (by omega)
      obtain ⟨p, r, ep, er, hpr, hr, hpd⟩ := HB.out i hi0 hlt
      rw [er] at hx
      rw [ep] at hy
      have e1 : ((i : Int) - 1).toNat = i - 1 := by omega
      have e2 : 0 ≤ (i : Int) - 1 := by omega
      have e3 : (i : Int) - 1 < xs.length := by omega
      have HP := hid hpd
      clear hca ep er hpd
      by_cases hle : r - p ≤ u.size
      · have HQ := fun w => hid (period_any u (r - p) w (by omega) (by omega) hle)
        rw [pdB_iff.2 HP.out] at HQ
        have e4 : ((r - p : Nat) : Int) = (r : Int) - (p : Int) := by omega
        have d1 : ¬ ((r : Int) - (p : Int) < 1) := by omega
        have d2 : (r : Int) - (p : Int) ≤ (u.size : Int) := by omega
        rw [e4] at HQ
        clear e4
        go_wp2
        go_quiet (fail)
        go_wp2_with fail
        refine (HQ _).out.mono ?_
        rintro e w3 ⟨rfl, q3, rfl⟩
        go_wp2
        go_roundw
        case rel => exact ⟨i + 1, _, by omega, by omega, by go_num, by first | rfl | (simp only [World.drewN_drewN]; rfl)⟩
        case measure => simp [intOf]; omega
      · have d1 : ¬ ((r : Int) - (p : Int) < 1) := by omega
        have d2 : (u.size : Int) < (r : Int) - (p : Int) := by omega
        go_wp2
        go_quiet (fail)
        go_wp2
        go_roundw
        case rel => exact ⟨i + 1, _, by omega, by omega, by go_num, by first | rfl | (simp only [World.drewN_drewN]; rfl)⟩
        case measure => simp [intOf]; omega
    · go_wp2
      go_ret
      exact ⟨rfl, below_drewN hb2 _⟩
end Go.Proofs.Ytdlekgockdahfaa
