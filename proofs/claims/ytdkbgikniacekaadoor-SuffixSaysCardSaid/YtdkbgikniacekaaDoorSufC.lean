/-
  Contracts of strings.Compare, of the function with which suffix.Order compares two ends of a text, and of suffix.common. Conditions: texts of at most 24 bytes for the ends, of at most 2^40 bytes else.
-/
import Derived.Test.YtdkbgikniacekaaDoorLc
import Derived.Test.YtdkbgikniacekaaDoorEnds
import Derived.Lib.Bytealg
namespace Go.Proofs.YtdkbgikniacekaaDoor
open Go.RowKit

theorem cmpB_lt : ∀ x y : List UInt8, Lib.compareBytes x y < 0 ↔ x < y
  | [], [] => by simp [Lib.compareBytes]
  | [], _ :: _ => by simp [Lib.compareBytes]
  | _ :: _, [] => by simp [Lib.compareBytes]
  | a :: x, b :: y => by
    rw [Lib.compareBytes, List.cons_lt_cons_iff]
    by_cases h : a < b
    · simp [h]
    · rw [if_neg h]
      by_cases h' : b < a
      · rw [if_pos h']
        constructor
        · intro e; omega
        · rintro (e | ⟨e, _⟩)
          · exact absurd e h
          · subst e; exact absurd h' (UInt8.lt_irrefl _)
      · rw [if_neg h', cmpB_lt x y]
        have : a = b := UInt8.le_antisymm (UInt8.not_lt.1 h') (UInt8.not_lt.1 h)
        simp [this]
theorem bs_drop (s : ByteArray) (i : Nat) : bs (s.extract i s.size) = (bs s).drop i := by
  unfold bs
  rw [ByteArray.data_extract, Array.toList_extract, List.extract_eq_take_drop, List.take_of_length_le]
  rw [List.length_drop, Array.length_toList]
  exact Nat.le_refl _

set_option maxHeartbeats 400000 in
theorem cmpstr_any (a b : ByteArray) (w : World) :
    Calls Tryd.prog 25 #[.string a, .string b] w fun e w' => e = .returned (.int .i64 (Lib.compareBytes (bs a) (bs b))) ∧ w' = w := by
  go_enter Tryd.func25, Tryd.ntmps25
  go_wp2
  rw [run_callFunc_extern Tryd.func38 (by kernel_rfl) (by kernel_rfl) (by kernel_rfl) (e := Extern.BytealgCompare.compare) (by kernel_rfl), Lib.run_compareString]
  simp only [Result.andThen]
  rw [Oper.upon_value]
  go_wp2
  go_ret
  exact ⟨rfl, rfl⟩
theorem scompare_any (a b : ByteArray) (w : World) :
    Calls Tryd.prog 18 #[.string a, .string b] w fun e w' => e = .returned (.int .i64 (Lib.compareBytes (bs a) (bs b))) ∧ w' = w := by
  have H := fun W => hid (cmpstr_any a b W)
  generalize Lib.compareBytes (bs a) (bs b) = k at H ⊢
  go_enter Tryd.func18, Tryd.ntmps18
  go_wp2_with fail
  refine (H _).out.mono ?_
  rintro e w1 ⟨rfl, hw1⟩
  subst w1
  go_wp2
  go_ret
  exact ⟨rfl, rfl⟩

/-- How the ends at two places compare. -/
def cmpE (s : ByteArray) (a b : Nat) : Int := Lib.compareBytes ((bs s).drop a) ((bs s).drop b)
set_option maxHeartbeats 400000 in
theorem order_fn (s : ByteArray) (B a b : Nat) (w : World) (hB : w.cell? ⟨B, 0, none⟩ = some (.string s)) (ha : a ≤ s.size) (hb : b ≤ s.size) :
    Calls Tryd.prog 17 #[.int .i64 a, .int .i64 b, .pointer (some ⟨B, 0, none⟩)] w fun e w' => e = .returned (.int .i64 (cmpE s a b)) ∧ ∃ q, w' = w.drewN q := by
  have hc1 : ∀ W : World, Sem.run Tryd.prog (Instr.slice 9 (.string s) (some (.int .i64 (a : Int))) none none) W = .ok (.string (s.extract a s.size)) W := fun W =>
    run_slice_string_l W 9 s Tryd.underlying9 .i64 (a : Int) (by omega) (by omega)
  have hc2 : ∀ W : World, Sem.run Tryd.prog (Instr.slice 9 (.string s) (some (.int .i64 (b : Int))) none none) W = .ok (.string (s.extract b s.size)) W := fun W =>
    run_slice_string_l W 9 s Tryd.underlying9 .i64 (b : Int) (by omega) (by omega)
  have H := fun W => hid (scompare_any (s.extract a s.size) (s.extract b s.size) W)
  rw [bs_drop, bs_drop] at H
  unfold cmpE
  generalize Lib.compareBytes ((bs s).drop a) ((bs s).drop b) = k at H ⊢
  generalize s.extract a s.size = x at hc1 H
  generalize s.extract b s.size = y at hc2 H
  go_enter Tryd.func17, Tryd.ntmps17
  go_wp2_with fail
  go_quiet ((go_at_call 18; exact Calls.quiet_of_same (H _).out))
  go_wp2_with fail
  go_ret
  exact ⟨rfl, _, rfl⟩

set_option maxHeartbeats 400000 in
theorem scommon_any (a b : ByteArray) (w : World) (ha : a.size ≤ 1099511627776) (hb : b.size ≤ 1099511627776) :
    Calls Tryd.prog 21 #[.string a, .string b] w fun e w' => e = .returned (.int .i64 (alikeN a b : Nat)) ∧ ∃ q, w' = w.drewN q := by
  go_enter Tryd.func21, Tryd.ntmps21
  go_wp2
  go_loopw [5] (fun v wr => ∃ l q : Nat, l ≤ a.size ∧ l ≤ b.size ∧ v = .int .i64 l ∧ Hid (∀ j, j < l → sg a j = sg b j) ∧ wr = w.drewN q) (fun v _ => a.size - (intOf v).toNat)
  case atStart => exact ⟨0, 0, by omega, by omega, rfl, hid (fun j hj => absurd hj (by omega)), rfl⟩
  case round =>
    obtain ⟨l, q, hla, hlb, rfl, HK, rfl⟩ := hrel
    by_cases h1 : l < a.size
    · by_cases h2 : l < b.size
      · have d1 : decide (l < a.size) = true := by simp; omega
        have d2 : decide (l < b.size) = true := by simp; omega
        by_cases he : sg a l = sg b l
        · have hq1 := byte2_eq a b l l h1 h2 he
          have HR : Hid (∀ j, j < l + 1 → sg a j = sg b j) := hid fun j hj => by
            by_cases e : j = l
            · subst e; exact he
            · exact HK.out j (by omega)
          clear he HK
          go_wp2
          go_quiet (fail)
          go_wp2
          go_roundw
          case rel => exact ⟨l + 1, _, by omega, by omega, by go_num, HR, by first | rfl | rw [World.drewN_drewN]⟩
          case measure => simp [intOf]; omega
        · have hq1 := byte2_eq_false a b l l h1 h2 he
          have HR : Hid (alikeN a b = l) := hid (al_eq (by omega) HK.out fun _ => he)
          clear he HK
          go_wp2
          go_quiet (fail)
          go_wp2
          go_ret
          exact ⟨ret_int (by rw [HR.out]), by first | exact ⟨_, rfl⟩ | (simp only [World.drewN_drewN]; exact ⟨_, rfl⟩)⟩
      · have HR : Hid (alikeN a b = l) := hid (al_eq (by omega) HK.out fun hh => absurd hh (by omega))
        have d1 : decide (l < a.size) = true := by simp; omega
        have d2 : decide (l < b.size) = false := by simp; omega
        clear HK
        go_wp2
        go_quiet (fail)
        go_wp2
        go_ret
        exact ⟨ret_int (by rw [HR.out]), by first | exact ⟨_, rfl⟩ | (simp only [World.drewN_drewN]; exact ⟨_, rfl⟩)⟩
    · have HR : Hid (alikeN a b = l) := hid (al_eq (by omega) HK.out fun hh => absurd hh (by omega))
      have d1 : decide (l < a.size) = false := by simp; omega
      clear HK
      go_wp2
      go_quiet (fail)
      go_wp2
      go_ret
      exact ⟨ret_int (by rw [HR.out]), by first | exact ⟨_, rfl⟩ | (simp only [World.drewN_drewN]; exact ⟨_, rfl⟩)⟩
end Go.Proofs.YtdkbgikniacekaaDoor
