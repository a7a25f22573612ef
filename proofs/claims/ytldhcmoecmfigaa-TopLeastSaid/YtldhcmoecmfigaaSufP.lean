/-
  Contracts of strings.Compare and of the function with which suffix.Order compares two ends of a text. Conditions: texts of at most 24 bytes for the ends.
-/
import Derived.Test.YtldhcmoecmfigaaBase
import Derived.Test.YtldhcmoecmfigaaStrs
import Derived.Test.YtldhcmoecmfigaaEnds
import Derived.Lib.Bytealg
namespace Go.Proofs.Ytldhcmoecmfigaa
open Go.RowKit

theorem cmpB_lt : ∀ x y : List UInt8, Lib.compareBytes x y < 0 ↔ x < y
  | [], [] => by simp [Lib.compareBytes]
  | [], _ :: _ => by simp [Lib.compareBytes]
  | _ :: _, [] => by simp [Lib.compareBytes]
  | a :: x, b :: y => by
    rw [Lib.compareBytes, List.cons_lt_cons_iff]
    by_cases h : a < b
    · simp [h]
    · rw [if_neg h]
      by_cases h' : b < a
      · rw [if_pos h']
        constructor
        · intro e; omega
        · rintro (e | ⟨e, _⟩)
          · exact absurd e h
          · subst e; exact absurd h' (UInt8.lt_irrefl _)
      · rw [if_neg h', cmpB_lt x y]
        have : a = b := UInt8.le_antisymm (UInt8.not_lt.1 h') (UInt8.not_lt.1 h)
        simp [this]
theorem bs_drop (s : ByteArray) (i : Nat) : bs (s.extract i s.size) = (bs s).drop i := by
  unfold bs
  rw [ByteArray.data_extract, Array.toList_extract, List.extract_eq_take_drop, List.take_of_length_le]
  rw [List.length_drop, Array.length_toList]
  exact Nat.le_refl _

set_option maxHeartbeats 400000 in
theorem cmpstr_any (a b : ByteArray) (w : World) :
    Calls Try.prog 42 #[.string a, .string b] w fun e w' => e = .returned (.int .i64 (Lib.compareBytes (bs a) (bs b))) ∧ w' = w := by
  go_enter Try.func42, Try.ntmps42
  go_wp2
  rw [run_callFunc_extern Try.func58 (by kernel_rfl) (by kernel_rfl) (by kernel_rfl) (e := Extern.BytealgCompare.compare) (by kernel_rfl), Lib.run_compareString]
  simp only [Result.andThen]
  rw [Oper.upon_value]
  go_wp2
  go_ret
  exact ⟨rfl, rfl⟩
theorem scompare_any (a b : ByteArray) (w : World) :
    Calls Try.prog 30 #[.string a, .string b] w fun e w' => e = .returned (.int .i64 (Lib.compareBytes (bs a) (bs b))) ∧ w' = w := by
  have H := fun W => hid (cmpstr_any a b W)
  generalize Lib.compareBytes (bs a) (bs b) = k at H ⊢
  go_enter Try.func30, Try.ntmps30
  go_wp2_with fail
  refine (H _).out.mono ?_
  rintro e w1 ⟨rfl, hw1⟩
  subst w1
  go_wp2
  go_ret
  exact ⟨rfl, rfl⟩

/-- How the ends at two places compare. -/
def cmpE (s : ByteArray) (a b : Nat) : Int := Lib.compareBytes ((bs s).drop a) ((bs s).drop b)
set_option maxHeartbeats 400000 in
theorem order_fn (s : ByteArray) (B a b : Nat) (w : World) (hB : w.cell? ⟨B, 0, none⟩ = some (.string s)) (ha : a ≤ s.size) (hb : b ≤ s.size) :
    Calls Try.prog 29 #[.int .i64 a, .int .i64 b, .pointer (some ⟨B, 0, none⟩)] w fun e w' => e = .returned (.int .i64 (cmpE s a b)) ∧ ∃ q, w' = w.drewN q := by
  have hc1 : ∀ W : World, Sem.run Try.prog (Instr.slice 9 (.string s) (some (.int .i64 (a : Int))) none none) W = .ok (.string (s.extract a s.size)) W := fun W =>
    run_slice_string_l W 9 s Try.underlying9 .i64 (a : Int) (by omega) (by omega)
  have hc2 : ∀ W : World, Sem.run Try.prog (Instr.slice 9 (.string s) (some (.int .i64 (b : Int))) none none) W = .ok (.string (s.extract b s.size)) W := fun W =>
    run_slice_string_l W 9 s Try.underlying9 .i64 (b : Int) (by omega) (by omega)
  have H := fun W => hid (scompare_any (s.extract a s.size) (s.extract b s.size) W)
  rw [bs_drop, bs_drop] at H
  unfold cmpE
  generalize Lib.compareBytes ((bs s).drop a) ((bs s).drop b) = k at H ⊢
  generalize s.extract a s.size = x at hc1 H
  generalize s.extract b s.size = y at hc2 H
  go_enter Try.func29, Try.ntmps29
  go_wp2_with fail
  go_quiet ((go_at_call 30; exact Calls.quiet_of_same (H _).out))
  go_wp2_with fail
  go_ret
  exact ⟨rfl, _, rfl⟩
end Go.Proofs.Ytldhcmoecmfigaa
