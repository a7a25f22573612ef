/-
  The walk of LempelFresh: it returns true at every text. Conditions: the row's own sizes.
-/
import Derived.Test.YtgamegbmikbncaaLzfact
import Derived.Test.YtgamegbmikbncaaIn2
namespace Go.Proofs.Ytgamegbmikbncaa
open Go.RowKit

theorem lzfresh_long (s : ByteArray) (w : World) (h : 1000 < s.size) (hs : s.size ≤ maxLen) :
    Calls Try.prog 4 #[.string s] w fun e w' => e = .returned (.bool true) ∧ Below w.heap.size w w' := by
  have H1 := fun W => hid (lwrite_full s W h hs)
  have HF := fun W => hid (lfact_any W)
  unfold maxLen at hs
  go_enter Try.func4, Try.ntmps4
  go_wp2_with fail
  refine (HF _).out.mono ?_
  rintro e w1 ⟨rfl, hb1⟩
  go_wp2_with fail
  refine (H1 _).out.mono ?_
  rintro e w2 ⟨rfl, hb2⟩
  have hbw := hb1.trans (hb2.mono hb1.size)
  clear H1 HF hb1 hb2
  go_wp2_with fail
  go_ret
  exact ⟨rfl, hbw⟩
set_option maxHeartbeats 2000000 in
theorem lzfresh_any (s : ByteArray) (w : World) (hs : s.size ≤ maxLen) :
    Calls Try.prog 4 #[.string s] w fun e w' => e = .returned (.bool true) ∧ Below w.heap.size w w' := by
  by_cases h : 1000 < s.size
  · exact lzfresh_long s w h hs
  have H1 := fun W => hid (lwrite_any s W (by omega))
  have HF := fun W => hid (lfact_any W)
  clear hs
  go_enter Try.func4, Try.ntmps4
  go_wp2_with fail
  refine (HF _).out.mono ?_
  rintro e w1 ⟨rfl, hb1⟩
  go_wp2_with fail
  refine (H1 _).out.mono ?_
  rintro e w2 ⟨A, c, ps, rfl, hw, hI, hb2⟩
  have hbw := hb1.trans (hb2.mono hb1.size)
  have hlen := wr_len hw
  rw [bs_len] at hlen
  have HW := hid hw
  have HI := hid hI
  have HBK := hid (wr_back hw).2
  have HLN := hid (rfl : ps.length = ps.length)
  clear hb1 hb2 hI hw H1 HF
  obtain ⟨n, hn⟩ : ∃ n, n = ps.length := ⟨_, rfl⟩
  have HN := hid hn
  rw [← hn] at HI hlen
  rw [← hn]
  clear hn HLN
  go_wp2_with fail
  go_loopw [6] (fun x wr => ∃ i : Nat, i ≤ n ∧ x = .int .i64 i ∧ Hid (∃ q, wr = w2.drewN q)) (fun x _ => n - (intOf x).toNat)
  case atStart => exact ⟨0, by omega, rfl, hid ⟨0, rfl⟩⟩
  case round =>
    obtain ⟨i, hin, rfl, HQ⟩ := hrel
    by_cases hlt : i < n
    · obtain ⟨g, off, rfl, hg, hc⟩ := HI.out.2 (by omega)
      have hc : ∀ j, j < n → ∀ q, (w2.drewN q).cell? ⟨g, off + j * 2, none⟩ = some (.int .i64 ((ps.getD j (0, 0)).1 : Int)) ∧ (w2.drewN q).cell? ⟨g, off + j * 2 + 1, none⟩ = some (.int .u8 ((ps.getD j (0, 0)).2.toNat : Int)) := fun j hj q => by
        have := hc j hj
        rw [pcs_getD] at this
        exact this
      have c1 : wr.cell? ⟨g, off + i * 2, none⟩ = some (.int .i64 ((ps.getD i (0, 0)).1 : Int)) := by obtain ⟨q, hq⟩ := HQ.out; rw [hq]; exact (hc i hlt q).1
      have hbk : (ps.getD i (0, 0)).1 ≤ i := by
        have := HBK.out i (by rw [← HN.out]; exact hlt)
        rw [List.length_singleton] at this
        omega
      have HIN := fun W => hid (in_yes ((ps.getD i (0, 0)).1 : Int) 0 (i : Int) W (by omega) (by omega))
      have HC := hid hc
      have HB := hid (show ∃ b : Nat, (ps.getD i (0, 0)).1 = b from ⟨_, rfl⟩)
      obtain ⟨b, hb⟩ := HB.out
      have HBi := hid hb
      rw [hb] at c1 HIN
      clear hc hb HB hbk
      obtain ⟨w0, hw0⟩ : ∃ z, z = wr := ⟨_, rfl⟩
      subst hw0
      go_wp2_with fail
      refine (HIN _).out.mono ?_
      rintro e w5 ⟨rfl, hw5⟩
      subst w5
      clear HIN
      go_wp2_with fail
      go_loopw [7] (fun x wr => ∃ k : Nat, k ≤ i ∧ x = .int .i64 k ∧ Hid (∃ q, wr = w2.drewN q)) (fun x _ => i - (intOf x).toNat)
      case atStart => exact ⟨0, by omega, rfl, HQ⟩
      case round =>
        clear HQ c1
        obtain ⟨k, hki, rfl, HQ⟩ := hrel
        by_cases hgo : k < i ∧ i + 1 < n
        · obtain ⟨hki2, hin2⟩ := hgo
          obtain ⟨q, hq⟩ := HQ.out
          obtain ⟨x1, x2⟩ := HC.out i hlt q
          obtain ⟨y1, y2⟩ := HC.out k (by omega) q
          rw [← hq] at x1 x2 y1 y2
          have hne := wr_apart HW.out hki2 (by rw [← HN.out]; exact hin2)
          have HQ2 : Hid (∀ q', ∃ q'', wr.drewN q' = w2.drewN q'') := hid (fun q' => by rw [hq]; first | exact ⟨_, rfl⟩ | (simp only [World.drewN_drewN]; exact ⟨_, rfl⟩))
          clear hq HQ
          generalize ps.getD i (0, 0) = P at x1 x2 hne
          generalize ps.getD k (0, 0) = R at y1 y2 hne
          obtain ⟨p1, p2⟩ := P
          obtain ⟨r1, r2⟩ := R
          change wr.cell? ⟨g, off + i * 2, none⟩ = some (.int .i64 (p1 : Int)) at x1
          change wr.cell? ⟨g, off + i * 2 + 1, none⟩ = some (.int .u8 (p2.toNat : Int)) at x2
          change wr.cell? ⟨g, off + k * 2, none⟩ = some (.int .i64 (r1 : Int)) at y1
          change wr.cell? ⟨g, off + k * 2 + 1, none⟩ = some (.int .u8 (r2.toNat : Int)) at y2
          have hway : ((r1 : Int) == (p1 : Int)) = false ∨ ((r1 : Int) = (p1 : Int) ∧ ((r2.toNat : Int) == (p2.toNat : Int)) = false) := by
            by_cases e : (r1 : Int) = (p1 : Int)
            · exact .inr ⟨e, by simpa using byte_apart fun e2 => hne ⟨e, e2⟩⟩
            · exact .inl (by simpa using e)
          clear hne
          generalize (r1 : Int) = R1 at y1 hway
          generalize (p1 : Int) = P1 at x1 hway
          generalize (r2.toNat : Int) = R2 at y2 hway
          generalize (p2.toNat : Int) = P2 at x2 hway
          rcases hway with d1 | ⟨rfl, d2⟩
          all_goals (
            go_wp2_with fail
            go_quiet (fail)
            go_wp2_with fail
            go_roundw
            case rel => exact ⟨k + 1, by omega, by go_num, hid (HQ2.out _)⟩
            case measure => simp [intOf]; omega)
        · have hway : decide (k < i) = false ∨ (decide (k < i) = true ∧ decide ((i : Int) + 1 < (n : Int)) = false) := by
            by_cases e : k < i
            · exact .inr ⟨by simpa using e, decide_eq_false fun h => hgo ⟨e, by omega⟩⟩
            · exact .inl (by simpa using e)
          clear hgo
          rcases hway with d1 | ⟨d1, d2⟩
          all_goals (
            go_wp2_with fail
            go_roundw
            case rel => exact ⟨i + 1, by omega, by go_num, HQ⟩
            case measure => simp [intOf]; omega)
    · obtain rfl : i = n := by omega
      have hbx : Below w.heap.size w wr := by obtain ⟨q, hq⟩ := HQ.out; rw [hq]; exact below_drewN hbw q
      clear HI HQ
      go_wp2_with fail
      go_ret
      exact ⟨rfl, hbx⟩
end Go.Proofs.Ytgamegbmikbncaa
