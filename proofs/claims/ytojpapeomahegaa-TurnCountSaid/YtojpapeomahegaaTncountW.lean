/-
  The walk of TurnCount: it returns true for every text, and leaves the old memory alone. No condition but the row's own size.
-/
import Derived.Test.YtojpapeomahegaaTnfact
import Derived.Test.YtojpapeomahegaaRturn
import Derived.Test.YtojpapeomahegaaAdded
namespace Go.Proofs.Ytojpapeomahegaa
open Go.RowKit

/-- The different rotations among the first i. -/
def rotL (s : ByteArray) (r i : Nat) : List ByteArray := (List.range (min i r)).map (turnS s)
theorem rotL_len (s : ByteArray) (r i : Nat) : (rotL s r i).length = min i r := by simp [rotL]
theorem rotL_get (s : ByteArray) (r i j : Nat) (h : j < min i r) : (rotL s r i).getD j ByteArray.empty = turnS s j := by
  simp [rotL, List.getD_eq_getElem?_getD, h]
theorem rotL_step {s : ByteArray} {r i : Nat} (h : Rt (cy s) s.size r) (hi : i < s.size) : addW (rotL s r i) (turnS s i) = rotL s r (i + 1) := by
  have hn : 0 < s.size := by omega
  have r0 := rt_pos hn h
  by_cases hlt : i < r
  · rw [addW_new]
    · unfold rotL
      rw [show min i r = i by omega, show min (i + 1) r = i + 1 by omega, List.range_succ, List.map_append]
      rfl
    · intro j hj
      rw [rotL_len] at hj
      rw [rotL_get _ _ _ _ hj]
      intro e
      have := Nat.le_of_dvd (by omega) ((rot_same hn h (by omega) (by omega)).1 e)
      omega
  · have hm := Nat.mod_lt i r0
    have e1 := Nat.mod_add_div i r
    rw [addW_in (k := i % r) (by rw [rotL_len]; omega)]
    · unfold rotL
      rw [show min i r = r by omega, show min (i + 1) r = r by omega]
    · rw [rotL_get _ _ _ _ (by omega)]
      exact (rot_same hn h (by omega) (by omega)).2 ⟨i / r, by omega⟩
theorem rotL_all {s : ByteArray} {r : Nat} (h : Rt (cy s) s.size r) : (rotL s r s.size).length = r := by
  have := rt_le (cy_pr s) h
  rw [rotL_len]; omega

set_option maxHeartbeats 400000 in
theorem count_long (s : ByteArray) (w : World) (h : 24 < s.size) (hs : s.size ≤ maxLen) :
    Calls Try.prog 6 #[.string s] w fun e w' => e = .returned (.bool true) ∧ Below w.heap.size w w' := by
  have H1 := fun w => hid (root_long s w h hs)
  unfold maxLen at hs
  go_enter Try.func6, Try.ntmps6
  go_wp2_with fail
  refine (tnfact_any _).mono ?_
  rintro e w1 ⟨rfl, hb1⟩
  go_wp2_with fail
  refine (H1 _).out.mono ?_
  rintro e w2 ⟨rfl, hw2⟩
  subst w2
  go_wp2
  go_ret
  exact ⟨rfl, hb1⟩

set_option maxHeartbeats 800000 in
theorem count_any (s : ByteArray) (w : World) (h : s.size ≤ 24) :
    Calls Try.prog 6 #[.string s] w fun e w' => e = .returned (.bool true) ∧ Below w.heap.size w w' := by
  have H1 := fun w => hid (root_any s w h)
  go_enter Try.func6, Try.ntmps6
  go_wp2_with fail
  refine (tnfact_any _).mono ?_
  rintro e w1 ⟨rfl, hb1⟩
  go_wp2_with fail
  refine (H1 _).out.mono ?_
  rintro e w3 ⟨r, rfl, hr, hc⟩
  have hb3 := Below.on hb1 hc (Nat.le_refl _)
  have HR := hid hr
  have hrs := rt_le (cy_pr s) hr
  clear hr hc hb1 H1
  go_wp2_with fail
  go_loopw [6, 7] (fun v t wr => ∃ i : Nat, t = .int .i64 i ∧ i ≤ s.size ∧ Hid (OwnS wr w3.heap.size 9 v (rotL s r i)) ∧ Below w3.heap.size w3 wr) (fun _ t _ => s.size - (intOf t).toNat)
  case atStart => exact ⟨0, rfl, by omega, hid (by simpa [rotL] using OwnS.nil _ _ _), Below.refl _ _⟩
  case round =>
    obtain ⟨i, rfl, hi, HO, hb⟩ := hrel
    by_cases hlt : i < s.size
    · have HE := hid (rotL_step HR.out hlt)
      have hl : (rotL s r i).length ≤ 24 := by rw [rotL_len]; omega
      have HT := fun W => hid (rturn_any s i W (by omega) (by omega))
      generalize rotL s r i = ws at HO HE hl
      generalize turnS s i = t at HE HT
      go_wp2_with fail
      refine (HT _).out.mono ?_
      rintro e w4 ⟨rfl, q, hw4⟩
      have HO4 : Hid (OwnS w4 w3.heap.size 9 _ ws) := hid (by rw [hw4]; exact HO.out.drewN q)
      have hb4 : Below w3.heap.size w3 w4 := by rw [hw4]; exact below_drewN hb _
      have hsz := hb4.size
      have HC := hid (added_any _ ws t w4 w3.heap.size HO4.out (by omega) (by omega))
      clear hw4 HO HT hb
      go_wp2_with fail
      refine HC.out.mono ?_
      rintro e w5 ⟨v5, rfl, ho5, hb5⟩
      rw [HE.out] at ho5
      clear HC HO4
      go_wp2
      go_roundw
      case rel => exact ⟨i + 1, by go_num, by omega, hid ho5, hb4.trans hb5⟩
      case measure => simp [intOf]; omega
    · obtain rfl : i = s.size := by omega
      obtain ⟨A, c, rfl, _⟩ := HO.out.read
      rw [rotL_all HR.out]
      clear HO HR
      go_wp2
      go_ret
      exact ⟨ret_bool (by first | rfl | simp), Below.on hb3 hb (Nat.le_refl _)⟩
theorem tncount_any (s : ByteArray) (w : World) (hs : s.size ≤ maxLen) :
    Calls Try.prog 6 #[.string s] w fun e w' => e = .returned (.bool true) ∧ Below w.heap.size w w' := by
  by_cases h : s.size ≤ 24
  · exact count_any s w h
  · exact count_long s w (by omega) hs
end Go.Proofs.Ytojpapeomahegaa
