/-
  The walk of LempelMore: it returns true at every two texts. Conditions: the row's own sizes.
-/
import Derived.Test.YtgamegbmikbncaaLzfact
import Derived.Test.YtgamegbmikbncaaJoin
import Derived.Laws.Concat
namespace Go.Proofs.Ytgamegbmikbncaa
open Go.RowKit

theorem lzmore_long (s m : ByteArray) (w : World) (h : 1000 < s.size + m.size) (hs : s.size ≤ 140737488351232) (hm : m.size ≤ 140737488351232) :
    Calls Try.prog 5 #[.string s, .string m] w fun e w' => e = .returned (.bool true) ∧ Below w.heap.size w w' := by
  have HF := fun W => hid (lfact_any W)
  have hsum := size_join s m
  have hadd := fun W => run_string_add_sum (P := Try.prog) W s m (by omega)
  have H2 := fun W => hid (lwrite_full (s ++ m) W (by omega) (by unfold maxLen; omega))
  by_cases hl : 1000 < s.size
  · have H1 := fun W => hid (lwrite_full s W hl (by unfold maxLen; omega))
    generalize s ++ m = t at hadd H2 hsum
    go_enter Try.func5, Try.ntmps5
    go_wp2_with fail
    refine (HF _).out.mono ?_
    rintro e w1 ⟨rfl, hb1⟩
    go_wp2_with fail
    refine (H1 _).out.mono ?_
    rintro e w2 ⟨rfl, hb2⟩
    have hbw := hb1.trans (hb2.mono hb1.size)
    clear H1 HF hb1 hb2
    go_wp2_with fail
    refine (H2 _).out.mono ?_
    rintro e w3 ⟨rfl, hb3⟩
    have hbx := hbw.trans (hb3.mono hbw.size)
    clear H2 hb3 hbw
    go_wp2_with fail
    go_ret
    exact ⟨rfl, hbx⟩
  · have H1 := fun W => hid (lwrite_any s W (by omega))
    generalize s ++ m = t at hadd H2 hsum
    go_enter Try.func5, Try.ntmps5
    go_wp2_with fail
    refine (HF _).out.mono ?_
    rintro e w1 ⟨rfl, hb1⟩
    go_wp2_with fail
    refine (H1 _).out.mono ?_
    rintro e w2 ⟨A, c, ps, rfl, _, _, hb2⟩
    generalize ps.length = n
    have hbw := hb1.trans (hb2.mono hb1.size)
    clear H1 HF hb1 hb2
    go_wp2_with fail
    refine (H2 _).out.mono ?_
    rintro e w3 ⟨rfl, hb3⟩
    have hbx := hbw.trans (hb3.mono hbw.size)
    clear H2 hb3 hbw
    go_wp2_with fail
    go_ret
    exact ⟨rfl, hbx⟩
set_option maxHeartbeats 2000000 in
theorem lzmore_any (s m : ByteArray) (w : World) (hs : s.size ≤ 140737488351232) (hm : m.size ≤ 140737488351232) :
    Calls Try.prog 5 #[.string s, .string m] w fun e w' => e = .returned (.bool true) ∧ Below w.heap.size w w' := by
  by_cases h : 1000 < s.size + m.size
  · exact lzmore_long s m w h hs hm
  have hsum := size_join s m
  have HF := fun W => hid (lfact_any W)
  have H1 := fun W => hid (lwrite_any s W (by omega))
  have H2 := fun W => hid (lwrite_any (s ++ m) W (by omega))
  have hadd := fun W => run_string_add_sum (P := Try.prog) W s m (by omega)
  rw [wb_app] at H2
  generalize s ++ m = t at hadd H2 hsum
  clear hs hm
  go_enter Try.func5, Try.ntmps5
  go_wp2_with fail
  refine (HF _).out.mono ?_
  rintro e w1 ⟨rfl, hb1⟩
  go_wp2_with fail
  refine (H1 _).out.mono ?_
  rintro e w2 ⟨A, c, ps, rfl, hw, hI, hb2⟩
  have hlen := wr_len hw
  rw [bs_len] at hlen
  have HW := hid hw
  have HI := hid hI
  obtain ⟨n, hn⟩ : ∃ n, n = ps.length := ⟨_, rfl⟩
  have HN := hid hn
  rw [← hn] at HI hlen
  rw [← hn]
  have hbw := hb1.trans (hb2.mono hb1.size)
  clear hn hb1 hb2 hI hw H1 HF
  go_wp2_with fail
  refine (H2 _).out.mono ?_
  rintro e w3 ⟨B, d, qs, rfl, hw3, hI3, hb3⟩
  have hlen3 := wr_len hw3
  rw [← wb_app, bs_len, size_join] at hlen3
  obtain ⟨hle, hall⟩ := wr_goes HW.out hw3
  have HI1 := hid (HI.out.on hb3)
  have HI3 := hid hI3
  obtain ⟨k, hk⟩ : ∃ k, k = qs.length := ⟨_, rfl⟩
  rw [← hk] at HI3 hlen3 hle
  rw [← hk]
  rw [← HN.out] at hle hall
  have HALL := hid hall
  have hbx := hbw.trans (hb3.mono hbw.size)
  have hnk : decide (k < n) = false := decide_eq_false (by omega)
  clear hk hb3 hI3 hw3 H2 HI HW hbw hall HN
  go_wp2_with fail
  go_loopw [10] (fun x wr => ∃ i : Nat, i ≤ n ∧ x = .int .i64 i ∧ Hid (∃ q, wr = w3.drewN q)) (fun x _ => n - (intOf x).toNat)
  case atStart => exact ⟨0, by omega, rfl, hid ⟨0, rfl⟩⟩
  case round =>
    obtain ⟨i, hin, rfl, HQ⟩ := hrel
    by_cases hlt : i + 1 < n
    · obtain ⟨g, off, rfl, _, hc⟩ := HI1.out.2 (by omega)
      obtain ⟨g', off', rfl, _, hc'⟩ := HI3.out.2 (by omega)
      obtain ⟨q, hq⟩ := HQ.out
      obtain ⟨x1, x2⟩ := hc i (by omega)
      obtain ⟨y1, y2⟩ := hc' i (by omega)
      have hsame : ∀ p, w3.cell? p = wr.cell? p := fun p => by rw [hq]; rfl
      rw [hsame] at x1 x2 y1 y2
      clear hsame
      rw [pcs_getD, ← HALL.out i hlt, ← pcs_getD] at y1 y2
      have HQ2 : Hid (∀ q', ∃ q'', wr.drewN q' = w3.drewN q'') := hid (fun q' => by rw [hq]; first | exact ⟨_, rfl⟩ | (simp only [World.drewN_drewN]; exact ⟨_, rfl⟩))
      have hli : i < n := by omega
      have hki : i < k := by omega
      clear hq HQ hc hc'
      generalize (pcs ps).getD i (0, 0) = P at x1 x2 y1 y2
      go_wp2_with fail
      go_quiet (fail)
      go_wp2_with fail
      go_roundw
      case rel => exact ⟨i + 1, by omega, by go_num, hid (HQ2.out _)⟩
      case measure => simp [intOf]; omega
    · have hby : Below w.heap.size w wr := by obtain ⟨q, hq⟩ := HQ.out; rw [hq]; exact below_drewN hbx q
      have hd : decide ((i : Int) + 1 < (n : Int)) = false := decide_eq_false (by omega)
      clear HI1 HI3 HQ hbx
      go_wp2_with fail
      go_ret
      exact ⟨rfl, hby⟩
end Go.Proofs.Ytgamegbmikbncaa
