/-
  Contract of letterbecksame.Back: it answers the text from its end, and changes nothing. No condition but the row's own size.
-/
import Derived.Test.YtaodocdddfkglaaBase
namespace Go.Proofs.Ytaodocdddfkglaa
open Go.RowKit

/-- The first k signs, turned round. -/
def backS (s : ByteArray) (k : Nat) : ByteArray := ⟨(s.data.toList.take k).reverse.toArray⟩
theorem backS_size (s : ByteArray) (k : Nat) (h : k ≤ s.size) : (backS s k).size = k := by
  have h' : k ≤ s.data.size := h
  show (s.data.toList.take k).reverse.toArray.size = k
  simp; omega
theorem backS_step (s : ByteArray) (k : Nat) (h : k < s.size) : s.extract k (k + 1) ++ backS s k = backS s (k + 1) := by
  have h' : k < s.data.size := h
  apply ByteArray.ext
  rw [ByteArray.data_append, ByteArray.data_extract]
  apply Array.toList_inj.1
  rw [Array.toList_append, Array.toList_extract]
  simp only [backS, List.toList_toArray]
  rw [List.take_succ_eq_append_getElem (by simpa using h'), List.reverse_append]
  congr 1
  apply List.ext_getElem?
  intro j
  rcases j with _ | j
  · simp
  · simp
    omega
theorem sg_back (s : ByteArray) (i : Nat) (h : i < s.size) : sg (backS s s.size) i = sg s (s.size - 1 - i) := by
  have h' : i < s.data.size := h
  have e : s.size = s.data.size := rfl
  simp only [sg, backS, e]
  rw [List.take_of_length_le (by simp), List.getD_eq_getElem?_getD, List.getD_eq_getElem?_getD, List.toList_toArray, List.getElem?_reverse (by simpa using h')]
  simp

theorem ret_str {a b : ByteArray} (h : a = b) : Ending.returned (.string a) = .returned (.string b) := by rw [h]

set_option maxHeartbeats 400000 in
theorem back_any (s : ByteArray) (w : World) (hs : s.size ≤ maxLen) :
    Calls Try.prog 15 #[.string s] w fun e w' => e = .returned (.string (backS s s.size)) ∧ w' = w := by
  unfold maxLen at hs
  go_enter Try.func15, Try.ntmps15
  go_wp2
  go_loop [3, 4] (fun o i => ∃ (k : Nat) (b : ByteArray), k ≤ s.size ∧ i = .int .i64 k ∧ o = .string b ∧ Hid (b = backS s k)) (fun _ i => s.size - (intOf i).toNat)
  case atStart => exact ⟨0, _, Nat.zero_le _, rfl, rfl, hid (by rfl)⟩
  case round =>
    obtain ⟨k, b, hk, rfl, rfl, HB⟩ := hrel
    have hb : b.size ≤ k := by rw [HB.out, backS_size _ _ hk]; exact Nat.le_refl _
    by_cases hlt : k < s.size
    · have HS : Hid (s.extract k (k + 1) ++ b = backS s (k + 1)) := hid (by rw [HB.out, backS_step _ _ hlt])
      clear HB
      have hcut : Sem.run Try.prog (Instr.slice 9 (.string s) (some (.int .i64 (k : Int))) (some (.int .i64 ((k : Int) + 1))) none) w = .ok (.string (s.extract k (k + 1))) w :=
        run_slice_string w 9 s .i64 .i64 (k : Int) ((k : Int) + 1) Try.underlying9 (by omega) (by omega) (by omega)
      have hxs : (s.extract k (k + 1)).size ≤ 1 := by rw [ByteArray.size_extract]; omega
      generalize s.extract k (k + 1) = x at hcut hxs HS
      go_wp2
      go_round
      case rel => exact ⟨k + 1, _, by omega, by go_num, rfl, HS⟩
      case measure => simp [intOf]; omega
    · have he : k = s.size := by omega
      have HR : Hid (b = backS s s.size) := hid (by rw [HB.out, he])
      clear HB he
      go_wp2
      go_ret
      exact ⟨ret_str HR.out, rfl⟩
end Go.Proofs.Ytaodocdddfkglaa
