/-
  The walk of EditBounds: it returns true at every three texts. Conditions: texts of at most 2^47 - 4096 bytes.
-/
import Derived.Test.YteeajhelnolfcaaEdfact
import Derived.Test.YteeajhelnolfcaaIn2
import Derived.Test.YteeajhelnolfcaaBack
import Derived.Laws.Concat
namespace Go.Proofs.Yteeajhelnolfcaa
open Go.RowKit

theorem bs_backS (s : ByteArray) : bs (backS s s.size) = (bs s).reverse := by
  show (s.data.toList.take s.size).reverse.toArray.toList = _
  rw [List.take_of_length_le (by rw [Array.length_toList]; exact Nat.le_refl _)]
  rfl
theorem ebnd_long (a b c : ByteArray) (w : World) (h : 24 < a.size ∨ 24 < b.size) (ha : a.size ≤ maxLen) (hb : b.size ≤ maxLen) :
    Calls Try.prog 5 #[.string a, .string b, .string c] w fun e w' => e = .returned (.bool true) ∧ Below w.heap.size w w' := by
  have HF := fun W => hid (efact_any W)
  have H1 := fun W => hid (efar_full a b W h ha hb)
  clear h ha hb
  go_enter Try.func5, Try.ntmps5
  go_wp2_with fail
  refine (HF _).out.mono ?_
  rintro e w1 ⟨rfl, hb1⟩
  go_wp2_with fail
  refine (H1 _).out.mono ?_
  rintro e w2 ⟨rfl, hb2⟩
  have hbw := hb1.trans (hb2.mono hb1.size)
  clear HF H1 hb1 hb2
  go_wp2_with fail
  go_ret
  exact ⟨rfl, hbw⟩
set_option maxHeartbeats 2000000 in
theorem ebnd_any (a b c : ByteArray) (w : World) (ha : a.size ≤ 140737488351232) (hb : b.size ≤ 140737488351232) (hc : c.size ≤ 140737488351232) :
    Calls Try.prog 5 #[.string a, .string b, .string c] w fun e w' => e = .returned (.bool true) ∧ Below w.heap.size w w' := by
  by_cases h : 24 < a.size ∨ 24 < b.size
  · exact ebnd_long a b c w h (by unfold maxLen; omega) (by unfold maxLen; omega)
  have ha2 : a.size ≤ 24 := by omega
  have hb2 : b.size ≤ 24 := by omega
  clear h ha hb
  have HF := fun W => hid (efact_any W)
  have H1 := fun W => hid (efar_any a b W ha2 hb2)
  obtain ⟨hlow1, hlow2⟩ := far_low (bs a) (bs b)
  have hhigh := far_high (bs a) (bs b)
  rw [bs_len, bs_len] at hlow1 hlow2 hhigh
  have hca := fun W => run_string_add_sum (P := Try.prog) W c a (by omega)
  have hcb := fun W => run_string_add_sum (P := Try.prog) W c b (by omega)
  have hac := fun W => run_string_add_sum (P := Try.prog) W a c (by omega)
  have hbc := fun W => run_string_add_sum (P := Try.prog) W b c (by omega)
  have s1 : (c ++ a).size = c.size + a.size := ByteArray.size_append
  have s2 : (c ++ b).size = c.size + b.size := ByteArray.size_append
  have s3 : (a ++ c).size = a.size + c.size := ByteArray.size_append
  have s4 : (b ++ c).size = b.size + c.size := ByteArray.size_append
  have HX : c.size + max a.size b.size ≤ 24 → ∀ W, Hid (Calls Try.prog 8 #[.string (c ++ a), .string (c ++ b)] W fun e w' => e = .returned (.tuple #[.int .i64 (far (bs a) (bs b) : Nat), .nilIface]) ∧ Below W.heap.size W w') := fun h W => by
    have := efar_any (c ++ a) (c ++ b) W (by omega) (by omega)
    rw [wb_app, wb_app, far_pre] at this
    exact hid this
  have HY : c.size + max a.size b.size ≤ 24 → ∀ W, Hid (Calls Try.prog 8 #[.string (a ++ c), .string (b ++ c)] W fun e w' => e = .returned (.tuple #[.int .i64 (far (bs a) (bs b) : Nat), .nilIface]) ∧ Below W.heap.size W w') := fun h W => by
    have := efar_any (a ++ c) (b ++ c) W (by omega) (by omega)
    rw [wb_app, wb_app, far_suf] at this
    exact hid this
  have HX2 := fun (h : 24 < c.size + max a.size b.size) W => hid (efar_full (c ++ a) (c ++ b) W (by omega) (by rw [s1]; unfold maxLen; omega) (by rw [s2]; unfold maxLen; omega))
  have HY2 := fun (h : 24 < c.size + max a.size b.size) W => hid (efar_full (a ++ c) (b ++ c) W (by omega) (by rw [s3]; unfold maxLen; omega) (by rw [s4]; unfold maxLen; omega))
  have HBA := fun W => hid (back_any a W (by unfold maxLen; omega))
  have HBB := fun W => hid (back_any b W (by unfold maxLen; omega))
  have HZ : ∀ W, Hid (Calls Try.prog 8 #[.string (backS a a.size), .string (backS b b.size)] W fun e w' => e = .returned (.tuple #[.int .i64 (far (bs a) (bs b) : Nat), .nilIface]) ∧ Below W.heap.size W w') := fun W => by
    have := efar_any (backS a a.size) (backS b b.size) W (by rw [backS_size _ _ (Nat.le_refl _)]; exact ha2) (by rw [backS_size _ _ (Nat.le_refl _)]; exact hb2)
    rw [bs_backS, bs_backS, far_rev] at this
    exact hid this
  clear s1 s2 s3 s4
  generalize c ++ a = ca at hca HX HX2
  generalize c ++ b = cb at hcb HX HX2
  generalize a ++ c = ac at hac HY HY2
  generalize b ++ c = bc at hbc HY HY2
  generalize backS a a.size = ra at HBA HZ
  generalize backS b b.size = rb at HBB HZ
  generalize far (bs a) (bs b) = X at H1 HX HY HZ hlow1 hlow2 hhigh
  go_enter Try.func5, Try.ntmps5
  go_wp2_with fail
  refine (HF _).out.mono ?_
  rintro e w1 ⟨rfl, hb1⟩
  go_wp2_with fail
  refine (H1 _).out.mono ?_
  rintro e w2 ⟨rfl, hb2'⟩
  have hbw := hb1.trans (hb2'.mono hb1.size)
  clear HF H1 hb1 hb2'
  by_cases hab : a.size < b.size
  focus
    have hd : (a.size : Int) - (b.size : Int) < 0 := by omega
    have HIN := fun W => hid (in_yes (X : Int) (-((a.size : Int) - (b.size : Int))) (b.size : Int) W (by omega) (by omega))
    go_wp2_with fail
    refine (HIN _).out.mono ?_
    rintro e w3 ⟨rfl, hw3⟩
    subst w3
    clear hd HIN
    obtain ⟨m, hm⟩ : ∃ m, m = b.size := ⟨_, rfl⟩
    have hmx : max a.size b.size = m := by omega
    have HM := hid (show m ≤ 24 by omega)
  rotate_left
  focus
    have hd : ¬ (a.size : Int) - (b.size : Int) < 0 := by omega
    have HIN := fun W => hid (in_yes (X : Int) ((a.size : Int) - (b.size : Int)) (a.size : Int) W (by omega) (by omega))
    go_wp2_with fail
    refine (HIN _).out.mono ?_
    rintro e w3 ⟨rfl, hw3⟩
    subst w3
    clear hd HIN
    obtain ⟨m, hm⟩ : ∃ m, m = a.size := ⟨_, rfl⟩
    have hmx : max a.size b.size = m := by omega
    have HM := hid (show m ≤ 24 by omega)
  rotate_left
  all_goals (
    rw [hmx] at HX HX2 HY HY2
    have HMM := hid hm
    clear hm hmx hab hlow1 hlow2 hhigh
    by_cases h : 24 < c.size + m
    · have HXX := HX2 h
      have HYY := HY2 h
      rw [HMM.out] at h
      clear HX HY HX2 HY2 HZ HBA HBB
      go_wp2_with fail
      refine (HXX _).out.mono ?_
      rintro e w4 ⟨rfl, hb4⟩
      have hbx := hbw.trans (hb4.mono hbw.size)
      clear HXX hb4 hbw
      go_wp2_with fail
      refine (HYY _).out.mono ?_
      rintro e w5 ⟨rfl, hb5⟩
      have hby := hbx.trans (hb5.mono hbx.size)
      clear HYY hb5 hbx
      go_wp2_with fail
      go_ret
      exact ⟨ret_bool (decide_eq_true (by omega)), hby⟩
    · have HXX := HX (by omega)
      have HYY := HY (by omega)
      clear HX HY HX2 HY2 h
      go_wp2_with fail
      refine (HXX _).out.mono ?_
      rintro e w4 ⟨rfl, hb4⟩
      have hbx := hbw.trans (hb4.mono hbw.size)
      clear HXX hb4 hbw
      go_wp2_with fail
      refine (HYY _).out.mono ?_
      rintro e w5 ⟨rfl, hb5⟩
      have hby := hbx.trans (hb5.mono hbx.size)
      clear HYY hb5 hbx
      go_wp2_with fail
      refine (HBA _).out.mono ?_
      rintro e w6 ⟨rfl, hw6⟩
      subst w6
      go_wp2_with fail
      refine (HBB _).out.mono ?_
      rintro e w6 ⟨rfl, hw6⟩
      subst w6
      go_wp2_with fail
      refine (HZ _).out.mono ?_
      rintro e w6 ⟨rfl, hb6⟩
      have hbz := hby.trans (hb6.mono hby.size)
      clear HZ HBA HBB hb6 hby
      go_wp2_with fail
      go_ret
      exact ⟨rfl, hbz⟩)
end Go.Proofs.Yteeajhelnolfcaa
