/-
  Contracts of runs.runEnd and runs.Write: the runs of a text, and an error for a text of more than 1000 bytes; the old memory stays as it was. Conditions: none but the sizes that a row itself sets.
-/
import Derived.Test.YtkpjflfhegejpaaBase
import Derived.Test.YtkpjflfhegejpaaBs
import Derived.Test.YtkpjflfhegejpaaRle
import Derived.Test.YtkpjflfhegejpaaRmem
namespace Go.Proofs.Ytkpjflfhegejpaa
open Go.RowKit

theorem runI : (Try.prog.info? 39).map (fun i => (i.zero, i.size, i.bytes)) = some (some (.agg #[.int .u8 0, .int .i64 0]), 2, 16) := by kernel_rfl

set_option maxHeartbeats 1000000 in
theorem runEnd_any (s : ByteArray) (b : Nat) (w : World) (hb : b < s.size) (h : s.size ≤ 1000) :
    Calls Try.prog 21 #[.string s, .int .i64 (b : Int)] w fun e w' => ∃ k : Nat, e = .returned (.int .i64 (k : Int)) ∧ b < k ∧ k ≤ s.size ∧ (∀ j, b ≤ j → j < k → sg s j = sg s b) ∧ (k < s.size → sg s k ≠ sg s b) ∧ ∃ q, w' = w.drewN q := by
  go_enter Try.func21, Try.ntmps21
  go_wp2
  go_loopw [5] (fun i wr => ∃ k q : Nat, i = .int .i64 k ∧ b < k ∧ k ≤ s.size ∧ Hid (∀ j, b ≤ j → j < k → sg s j = sg s b) ∧ wr = w.drewN q) (fun i _ => s.size - (intOf i).toNat)
  case atStart => exact ⟨b + 1, 0, by go_num, by omega, by omega, hid (fun j h1 h2 => by rw [show j = b by omega]), rfl⟩
  case round =>
    obtain ⟨k, q, rfl, hbk, hk, HS, rfl⟩ := hrel
    by_cases hlt : k < s.size
    · have d1 : decide (k < s.size) = true := by simp; omega
      by_cases he : sg s k = sg s b
      · have hx := byte_eq s k b hlt hb he
        have HR : Hid (∀ j, b ≤ j → j < k + 1 → sg s j = sg s b) := hid (fun j h1 h2 => by
          by_cases e : j = k
          · rw [e]; exact he
          · exact HS.out j h1 (by omega))
        clear he HS
        go_wp2
        go_quiet (fail)
        go_wp2
        go_roundw
        case rel => exact ⟨k + 1, _, by go_num, by omega, by omega, HR, by first | rfl | rw [World.drewN_drewN]⟩
        case measure => simp [intOf]; omega
      · have hx := byte_eq_false s k b hlt hb he
        have HE := hid he
        clear he
        go_wp2
        go_quiet (fail)
        go_wp2
        go_ret
        exact ⟨k, rfl, hbk, hk, HS.out, fun _ => HE.out, by first | exact ⟨_, rfl⟩ | (simp only [World.drewN_drewN]; exact ⟨_, rfl⟩)⟩
    · have d1 : decide (k < s.size) = false := by simp; omega
      go_wp2
      go_quiet (fail)
      go_wp2
      go_ret
      exact ⟨k, rfl, hbk, hk, HS.out, fun h => absurd h hlt, by first | exact ⟨_, rfl⟩ | (simp only [World.drewN_drewN]; exact ⟨_, rfl⟩)⟩

theorem write_long (s : ByteArray) (w : World) (h : 1000 < s.size) (hs : s.size ≤ maxLen) :
    Calls Try.prog 12 #[.string s] w fun e w' => e = .returned (.tuple #[.slice none 0 0, .iface 43 (.int .i64 4)]) ∧ w' = w := by
  unfold maxLen at hs
  go_enter Try.func12, Try.ntmps12
  go_wp2
  go_ret2
  exact ⟨rfl, rfl⟩

set_option maxHeartbeats 2000000 in
set_option maxRecDepth 100000 in
theorem write_any (s : ByteArray) (w : World) (h : s.size ≤ 1000) :
    Calls Try.prog 12 #[.string s] w fun e w' => ∃ A c l, e = .returned (.tuple #[.slice A (l.length : Nat) c, .nilIface]) ∧ Good l ∧ unr l = bs s ∧ IsRuns w' w'.heap.size A l.length l ∧ Below w.heap.size w w' := by
  obtain ⟨i0, hi, hz0, hz1, hz2⟩ := info_parts runI
  go_enter Try.func12, Try.ntmps12
  go_wp2_with fail
  go_loopw [4, 5] (fun v x wr => ∃ (b : Nat) (ds : List (UInt8 × Int)), b ≤ s.size ∧ x = .int .i64 b ∧ Hid (RunTo (bs s) b ds) ∧ OwnR wr w.heap.size 39 v ds ∧ Below w.heap.size w wr) (fun _ x _ => s.size - (intOf x).toNat)
  case atStart => exact ⟨0, [], by omega, rfl, hid (runTo_zero _), OwnR.nil _ _ _, Below.refl _ _⟩
  case round =>
    obtain ⟨b, ds, hb, rfl, HR, hown, hbw⟩ := hrel
    by_cases hlt : b < s.size
    · have H1 := hid (runEnd_any s b wr hlt h)
      go_wp2_with fail
      refine H1.out.mono ?_
      rintro e w1 ⟨k, rfl, hbk, hk, hsame, hdiff, q, hw1⟩
      have hl : (bs s).length = s.size := bs_len s
      have HN : Hid (RunTo (bs s) k (ds ++ [(sg s b, (k : Int) - b)])) := hid (runTo_next HR.out hbk (by omega) (fun j h1 h2 => hsame j h1 h2) (fun h1 => hdiff (by omega)))
      have hlen : ds.length ≤ 1099511627776 := by
        have := good_len HR.out.1
        rw [HR.out.2.1, List.length_take, hl] at this; omega
      have hown1 := hown.drewN q
      rw [← hw1] at hown1
      have hbw1 : Below w.heap.size w w1 := by rw [hw1]; exact below_drewN hbw q
      have hsz := hbw1.size
      have hcb := sg_eq s b hlt
      rw [hcb] at HN
      clear hw1 H1 HR hown hbw hsame hdiff hl hcb
      go_wp2_with (at_builtin; refine wpList_append_run _ rfl (.tmp 18) (.tmp 26) 32 rfl w.heap.size 39 i0 Try.underlying32 hi hz0 hz1 hz2 _ ds rfl hown1 (s[b], (k : Int) - b) rfl hlen (by omega) ?_)
      intro v' w6 hown6 hb6
      go_wp2_with fail
      go_roundw
      case rel => exact ⟨k, _, by omega, rfl, HN, hown6, hbw1.trans hb6⟩
      case measure => simp [intOf]; omega
    · obtain rfl : b = s.size := by omega
      have hR := HR.out
      rw [← bs_len s] at hR
      obtain ⟨hg, hu⟩ := runTo_all hR
      obtain ⟨A, c, rfl, _, hI⟩ := IsRuns.of_own hown
      have HI := hid hI
      have HG := hid hg
      have HU := hid hu
      clear hR hI hg hu hown HR
      go_wp2_with fail
      go_ret2
      exact ⟨A, c, ds, rfl, HG.out, HU.out, HI.out, hbw⟩
/-- The same where the runs are known. -/
theorem write_is (s : ByteArray) (l : List (UInt8 × Int)) (w : World) (h : s.size ≤ 1000) (hg : Good l) (hu : unr l = bs s) :
    Calls Try.prog 12 #[.string s] w fun e w' => ∃ A c, e = .returned (.tuple #[.slice A (l.length : Nat) c, .nilIface]) ∧ IsRuns w' w'.heap.size A l.length l ∧ Below w.heap.size w w' :=
  (write_any s w h).mono fun _ _ ⟨A, c, l', he, hg', hu', hI, hb⟩ => by
    obtain rfl := good_one hg' hg (hu'.trans hu.symm)
    exact ⟨A, c, he, hI, hb⟩
end Go.Proofs.Ytkpjflfhegejpaa
