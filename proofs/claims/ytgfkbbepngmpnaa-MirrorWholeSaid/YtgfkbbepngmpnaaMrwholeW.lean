/-
  The walk of MirrorWhole: it returns true for every text, and leaves the old memory alone. Conditions: the row's own size, and that twice the text's length is an int (the row's own reach).
-/
import Derived.Test.YtgfkbbepngmpnaaMrfact
import Derived.Test.YtgfkbbepngmpnaaRmir
import Derived.Test.YtgfkbbepngmpnaaIn
import Derived.Test.YtgfkbbepngmpnaaBack
import Derived.Test.YtgfkbbepngmpnaaEdges
import Derived.Test.YtgfkbbepngmpnaaJoin
import Derived.Laws.Concat
namespace Go.Proofs.Ytgfkbbepngmpnaa
open Go.RowKit

theorem whole_size (s : ByteArray) : (s ++ backS s s.size).size = 2 * s.size := by rw [size_join, backS_size _ _ (Nat.le_refl _)]; omega
/-- A text and itself from its end are a palindrome. -/
theorem whole_pal (s : ByteArray) : Pal (sg (s ++ backS s s.size)) 0 (s ++ backS s s.size).size := by
  rw [whole_size]
  have hbz := backS_size s s.size (Nat.le_refl _)
  have hr : ∀ y, s.size ≤ y → y < 2 * s.size → sg (s ++ backS s s.size) y = sg s (2 * s.size - 1 - y) := fun y h1 h2 => by
    rw [show y = s.size + (y - s.size) by omega, sg_right _ _ _ (by omega), sg_back s _ (by omega)]
    congr 1; omega
  refine pal_of fun x hx => ?_
  by_cases hlt : x < s.size
  · rw [sg_left _ _ _ hlt, hr _ (by omega) (by omega)]
    congr 1; omega
  · rw [hr x (by omega) hx, sg_left _ _ _ (by omega)]
theorem all_at {s : ByteArray} {i : Nat} (h : i < (allL s).length) : ∃ k : Nat, (allL s).getD i 0 = (k : Int) ∧ 0 < k ∧ Bd (sg s) s.size k := by
  have h' : i < (eds (sg s) s.size).length := by simpa [allL] using h
  refine ⟨(eds (sg s) s.size)[i], by simp [allL, List.getD_eq_getElem?_getD, h'], ?_⟩
  exact mem_eds.1 (List.getElem_mem h')

set_option maxHeartbeats 400000 in
theorem mwhole_long (s : ByteArray) (w : World) (h : 12 < s.size) (hs : s.size ≤ 140737488351232) :
    Calls Try.prog 5 #[.string s] w fun e w' => e = .returned (.bool true) ∧ Below w.heap.size w w' := by
  have hz := whole_size s
  have hbz := backS_size s s.size (Nat.le_refl _)
  have H1 := fun w => hid (longest_long (s ++ backS s s.size) w (by omega) (by unfold maxLen; omega))
  have HB := fun w => hid (back_any s w (by unfold maxLen; omega))
  have hadd := fun w => run_string_add_sum (P := Try.prog) w s (backS s s.size) (by omega)
  clear hz hbz
  generalize s ++ backS s s.size = t at H1 hadd
  generalize backS s s.size = b at HB hadd
  go_enter Try.func5, Try.ntmps5
  go_wp2_with fail
  refine (mrfact_any _).mono ?_
  rintro e w1 ⟨rfl, hb1⟩
  go_wp2_with fail
  refine (HB _).out.mono ?_
  rintro e w2 ⟨rfl, hw2⟩
  subst w2
  go_wp2_with fail
  refine (H1 _).out.mono ?_
  rintro e w2 ⟨rfl, hb2⟩
  have hb3 := Below.on hb1 hb2 (Nat.le_refl _)
  go_wp2
  go_ret
  exact ⟨ret_bool (by first | rfl | (simp; omega)), hb3⟩

set_option maxHeartbeats 1600000 in
theorem mwhole_any (s : ByteArray) (w : World) (h : s.size ≤ 12) :
    Calls Try.prog 5 #[.string s] w fun e w' => e = .returned (.bool true) ∧ Below w.heap.size w w' := by
  have hz := whole_size s
  have hbz := backS_size s s.size (Nat.le_refl _)
  have H1 := fun w => hid (longest_any (s ++ backS s s.size) w (by omega))
  have H2 := fun w => hid (all_any (s ++ backS s s.size) w (by omega))
  have HB := fun w => hid (back_any s w (by unfold maxLen; omega))
  have hadd := fun w => run_string_add_sum (P := Try.prog) w s (backS s s.size) (by omega)
  have HP := hid (whole_pal s)
  have hlen := all_len (s ++ backS s s.size)
  have HE : Hid (∀ i, i < (allL (s ++ backS s s.size)).length → ∃ k : Nat, (allL (s ++ backS s s.size)).getD i 0 = (k : Int) ∧ 0 < k ∧ k < (s ++ backS s s.size).size ∧ Pal (sg (s ++ backS s s.size)) 0 k) := hid fun i hi => by
    obtain ⟨k, e, hk, hb⟩ := all_at hi
    exact ⟨k, e, hk, hb.1, pal_border HP.out hb⟩
  have HZ := hid hz
  have ht : (s ++ backS s s.size).size ≤ 24 := by omega
  generalize allL (s ++ backS s s.size) = xs at H2 hlen HE
  clear hz hbz
  generalize s ++ backS s s.size = t at H1 H2 hadd HP HE HZ ht hlen
  generalize backS s s.size = b at HB hadd
  go_enter Try.func5, Try.ntmps5
  go_wp2_with fail
  refine (mrfact_any _).mono ?_
  rintro e w1 ⟨rfl, hb1⟩
  go_wp2_with fail
  refine (HB _).out.mono ?_
  rintro e w2 ⟨rfl, hw2⟩
  subst w2
  go_wp2_with fail
  refine (H1 _).out.mono ?_
  rintro e w2 ⟨a, m, rfl, hl, hc2⟩
  obtain ⟨rfl, rfl⟩ := lgst_one hl (lgst_whole HP.out)
  have hb2 := Below.on hb1 hc2 (Nat.le_refl _)
  have hq : (((t.size : Nat) : Int) != 2 * (s.size : Int)) = false := by have := HZ.out; simp; omega
  clear H1 hl hc2 hb1
  go_wp2_with fail
  refine (HB _).out.mono ?_
  rintro e w3 ⟨rfl, hw3⟩
  subst w3
  go_wp2_with fail
  refine (H2 _).out.mono ?_
  rintro e w3 ⟨v3, rfl, ho3, hc3⟩
  obtain ⟨A3, c3, rfl, _, hI3⟩ := IsInts.of_own ho3
  have hb3 := Below.on hb2 hc3 (Nat.le_refl _)
  have HI := hid hI3
  clear H2 ho3 hc3 hI3 hb2
  generalize xs.length = n at HI HE hlen ⊢
  go_wp2_with fail
  refine (HB _).out.mono ?_
  rintro e w4 ⟨rfl, hw4⟩
  subst w4
  clear HB
  go_wp2_with fail
  go_loopw [9] (fun v wr => ∃ k q : Nat, v = .int .i64 k ∧ wr = w3.drewN q) (fun v _ => n - (intOf v).toNat)
  case atStart => exact ⟨0, 0, rfl, rfl⟩
  case round =>
    obtain ⟨i, q, rfl, rfl⟩ := hrel
    by_cases hlt : i < n
    · obtain ⟨g, off, rfl, _, hca⟩ := (HI.out.drewN q).2 (by omega)
      have hx := hca i hlt
      obtain ⟨k, hk, hk0, hkt, hkp⟩ := HE.out i hlt
      rw [hk] at hx
      have H1 := fun W => hid (in_yes (k : Int) 1 (t.size : Int) W (by omega) (by omega))
      have HM := fun W => hid (rmirror_yes t 0 k W (by omega) (by omega) (by omega) hkp)
      have hcut : ∀ W : World, Sem.run Try.prog (Instr.slice 9 (.string t) none (some (.int .i64 (k : Int))) none) W = .ok (.string (t.extract 0 k)) W := fun W =>
        run_slice_string_h W 9 t Try.underlying9 .i64 (k : Int) (by omega) (by omega)
      generalize t.extract 0 k = u at HM hcut
      clear hca hk hkp hadd
      go_wp2_with fail
      refine (H1 _).out.mono ?_
      rintro e w4 ⟨rfl, hw4⟩
      subst w4
      go_wp2_with fail
      refine (HM _).out.mono ?_
      rintro e w4 ⟨rfl, q4, rfl⟩
      go_wp2
      go_roundw
      case rel => exact ⟨i + 1, _, by go_num, by first | rfl | rw [World.drewN_drewN]⟩
      case measure => simp [intOf]; omega
    · go_wp2
      go_ret
      exact ⟨rfl, below_drewN hb3 _⟩
end Go.Proofs.Ytgfkbbepngmpnaa
