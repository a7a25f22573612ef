/-
  The walk of EdgesTurned, and the contract of letterbecksame.Back: it returns true for every text, and leaves the old memory alone. No condition but the row's own size.
-/
import Derived.Test.YtkkgmkkhflaghaaFact
namespace Go.Proofs.Ytkkgmkkhflaghaa
open Go.RowKit

/-- The first k signs, turned round. -/
def backS (s : ByteArray) (k : Nat) : ByteArray := ⟨(s.data.toList.take k).reverse.toArray⟩
theorem backS_size (s : ByteArray) (k : Nat) (h : k ≤ s.size) : (backS s k).size = k := by
  have h' : k ≤ s.data.size := h
  show (s.data.toList.take k).reverse.toArray.size = k
  simp; omega
theorem backS_step (s : ByteArray) (k : Nat) (h : k < s.size) : s.extract k (k + 1) ++ backS s k = backS s (k + 1) := by
  have h' : k < s.data.size := h
  apply ByteArray.ext
  rw [ByteArray.data_append, ByteArray.data_extract]
  apply Array.toList_inj.1
  rw [Array.toList_append, Array.toList_extract]
  simp only [backS, List.toList_toArray]
  rw [List.take_succ_eq_append_getElem (by simpa using h'), List.reverse_append]
  congr 1
  apply List.ext_getElem?
  intro j
  rcases j with _ | j
  · simp
  · simp
    omega
theorem sg_back (s : ByteArray) (i : Nat) (h : i < s.size) : sg (backS s s.size) i = sg s (s.size - 1 - i) := by
  have h' : i < s.data.size := h
  have e : s.size = s.data.size := rfl
  simp only [sg, backS, e]
  rw [List.take_of_length_le (by simp), List.getD_eq_getElem?_getD, List.getD_eq_getElem?_getD, List.toList_toArray, List.getElem?_reverse (by simpa using h')]
  simp

theorem ret_str {a b : ByteArray} (h : a = b) : Ending.returned (.string a) = .returned (.string b) := by rw [h]

set_option maxHeartbeats 400000 in
theorem back_any (s : ByteArray) (w : World) (hs : s.size ≤ maxLen) :
    Calls Try.prog 13 #[.string s] w fun e w' => e = .returned (.string (backS s s.size)) ∧ w' = w := by
  unfold maxLen at hs
  go_enter Try.func13, Try.ntmps13
  go_wp2
  go_loop [3, 4] (fun o i => ∃ (k : Nat) (b : ByteArray), k ≤ s.size ∧ i = .int .i64 k ∧ o = .string b ∧ Hid (b = backS s k)) (fun _ i => s.size - (intOf i).toNat)
  case atStart => exact ⟨0, _, Nat.zero_le _, rfl, rfl, hid (by rfl)⟩
  case round =>
    obtain ⟨k, b, hk, rfl, rfl, HB⟩ := hrel
    have hb : b.size ≤ k := by rw [HB.out, backS_size _ _ hk]; exact Nat.le_refl _
    by_cases hlt : k < s.size
    · have HS : Hid (s.extract k (k + 1) ++ b = backS s (k + 1)) := hid (by rw [HB.out, backS_step _ _ hlt])
      clear HB
      have hcut : Sem.run Try.prog (Instr.slice 9 (.string s) (some (.int .i64 (k : Int))) (some (.int .i64 ((k : Int) + 1))) none) w = .ok (.string (s.extract k (k + 1))) w :=
        run_slice_string w 9 s .i64 .i64 (k : Int) ((k : Int) + 1) Try.underlying9 (by omega) (by omega) (by omega)
      have hxs : (s.extract k (k + 1)).size ≤ 1 := by rw [ByteArray.size_extract]; omega
      generalize s.extract k (k + 1) = x at hcut hxs HS
      go_wp2
      go_round
      case rel => exact ⟨k + 1, _, by omega, by go_num, rfl, HS⟩
      case measure => simp [intOf]; omega
    · have he : k = s.size := by omega
      have HR : Hid (b = backS s s.size) := hid (by rw [HB.out, he])
      clear HB he
      go_wp2
      go_ret
      exact ⟨ret_str HR.out, rfl⟩
theorem all_back (s : ByteArray) : allL (backS s s.size) = allL s := by
  unfold allL
  rw [backS_size _ _ (Nat.le_refl _), eds_back fun i hi => sg_back s i hi]

theorem ints_yes (A B : Option Addr) (n m c d : Nat) (xs : List Int) (w : World) (K L : Nat) (hn : n ≤ 1099511627776) (hm : m ≤ 1099511627776) (ha : IsInts w K A n xs) (hb : IsInts w L B m xs) :
    Calls Try.prog 11 #[.slice A n c, .slice B m d] w fun e w' => e = .returned (.bool true) ∧ ∃ q, w' = w.drewN q :=
  (ints_any A B n m c d xs xs w K L hn hm ha hb).mono fun _ _ ⟨he, hw⟩ => ⟨by rw [he, sameInts_true rfl], hw⟩

set_option maxHeartbeats 400000 in
theorem turned_long (s : ByteArray) (w : World) (h : 24 < s.size) (hs : s.size ≤ maxLen) :
    Calls Try.prog 6 #[.string s] w fun e w' => e = .returned (.bool true) ∧ Below w.heap.size w w' := by
  have HL := fun w => hid (all_long s w h hs)
  have HM := fun w => hid (all_long (backS s s.size) w (by rw [backS_size _ _ (Nat.le_refl _)]; exact h) (by rw [backS_size _ _ (Nat.le_refl _)]; exact hs))
  have HB := fun w => hid (back_any s w hs)
  unfold maxLen at hs
  go_enter Try.func6, Try.ntmps6
  go_wp2_with fail
  refine (fact_any _).mono ?_
  rintro e w1 ⟨rfl, hb1⟩
  go_wp2_with fail
  refine (HL _).out.mono ?_
  rintro e w2 ⟨rfl, rfl⟩
  go_wp2_with fail
  refine (HB _).out.mono ?_
  rintro e w3 ⟨rfl, rfl⟩
  go_wp2_with fail
  refine (HM _).out.mono ?_
  rintro e w4 ⟨rfl, rfl⟩
  have HI := fun w => hid (ints_yes none none 0 0 0 0 [] w 0 0 (by omega) (by omega) IsInts.nil IsInts.nil)
  have hd : decide ((s.size : Int) ≤ 24) = false := by simp; omega
  clear HL HM HB
  go_wp2
  go_quiet ((go_at_call 11; exact Calls.quiet_of ((HI _).out)))
  go_wp2
  go_ret
  exact ⟨rfl, below_drewN hb1 _⟩
set_option maxHeartbeats 400000 in
theorem turned_any (s : ByteArray) (w : World) (h : s.size ≤ 24) :
    Calls Try.prog 6 #[.string s] w fun e w' => e = .returned (.bool true) ∧ Below w.heap.size w w' := by
  have HL := fun w => hid (all_any s w h)
  have HM := fun w => hid (all_any (backS s s.size) w (by rw [backS_size _ _ (Nat.le_refl _)]; exact h))
  rw [all_back] at HM
  have HB := fun w => hid (back_any s w (by unfold maxLen; omega))
  have hlen : (allL s).length ≤ 24 := Nat.le_trans (all_len s) h
  generalize allL s = xs at HL HM hlen
  go_enter Try.func6, Try.ntmps6
  go_wp2_with fail
  refine (fact_any _).mono ?_
  rintro e w1 ⟨rfl, hb1⟩
  go_wp2_with fail
  refine (HL _).out.mono ?_
  rintro e w2 ⟨v, rfl, ho2, hb2⟩
  obtain ⟨A, c, rfl, _, hI⟩ := IsInts.of_own ho2
  have hs1 := hb1.size
  have hb12 : Below w.heap.size w w2 := hb1.trans (hb2.mono hs1)
  have HI2 := hid hI
  clear ho2 hb1 hb2 hI hs1
  go_wp2_with fail
  refine (HB _).out.mono ?_
  rintro e w3 ⟨rfl, rfl⟩
  go_wp2_with fail
  refine (HM _).out.mono ?_
  rintro e w4 ⟨v, rfl, ho4, hb4⟩
  obtain ⟨A4, c4, rfl, _, hI4⟩ := IsInts.of_own ho4
  have HI := fun q => hid (ints_yes A A4 xs.length xs.length c c4 xs (w4.drewN q) _ _ (by omega) (by omega) ((HI2.out.below hb4).drewN q) (hI4.drewN q))
  have hb14 : Below w.heap.size w w4 := hb12.trans (hb4.mono hb12.size)
  have hd : decide ((s.size : Int) ≤ 24) = true := by simp; omega
  clear HL HM HB hI4 HI2 ho4 hb4 hb12
  generalize xs.length = n at HI hlen ⊢
  go_wp2
  go_quiet ((go_at_call 11; exact Calls.quiet_of ((HI _).out)))
  go_wp2
  go_ret
  exact ⟨rfl, below_drewN hb14 _⟩
end Go.Proofs.Ytkkgmkkhflaghaa
