/-
  Contract of letterbeckref2.Within: whether a text stands within another one, with gaps. Conditions: texts of at most 2^40 bytes.
-/
import Derived.Test.YtaodocdddfkglaaDoorBase
import Derived.Test.YtaodocdddfkglaaDoorBs
import Derived.Test.YtaodocdddfkglaaDoorLcs
namespace Go.Proofs.YtaodocdddfkglaaDoor
open Go.RowKit

theorem bs_one_more {a : ByteArray} (h : 0 < a.size) : bs a = sg a 0 :: bs (a.extract 1 a.size) := by
  rw [wb_ext, List.take_of_length_le (by rw [bs_len]; exact Nat.le_refl _)]
  cases e : bs a with
  | nil => have := bs_len a; rw [e] at this; simp at this; omega
  | cons x r =>
    have : sg a 0 = x := by
      have := bs_sg a 0
      rw [e] at this
      simpa using this.symm
    rw [this]; rfl
theorem rwithin_len (n : Nat) : ∀ (a b : ByteArray) (w : World), b.size = n → a.size ≤ 1099511627776 → b.size ≤ 1099511627776 →
    Calls Tryd.prog 10 #[.string a, .string b] w fun e w' => e = .returned (.bool (wiB (bs a) (bs b))) ∧ ∃ q, w' = w.drewN q := by
  induction n with
  | zero =>
    intro a b w hb ha hb2
    have hbs : bs b = [] := List.length_eq_zero_iff.1 (by rw [bs_len]; exact hb)
    rw [hbs]
    by_cases h0 : a.size = 0
    · have has : bs a = [] := List.length_eq_zero_iff.1 (by rw [bs_len]; exact h0)
      rw [has, show wiB [] [] = true from rfl]
      go_enter Tryd.func10, Tryd.ntmps10
      go_wp2_with fail
      go_ret
      exact ⟨rfl, 0, rfl⟩
    · have has : wiB (bs a) [] = false := by
        cases e : bs a with
        | nil => have := bs_len a; rw [e] at this; simp at this; omega
        | cons x r => rfl
      rw [has]
      have h1 : 0 < a.size := by omega
      go_enter Tryd.func10, Tryd.ntmps10
      go_wp2_with fail
      go_ret
      exact ⟨rfl, 0, rfl⟩
  | succ n ih =>
    intro a b w hb ha hb2
    by_cases h0 : a.size = 0
    · have has : bs a = [] := List.length_eq_zero_iff.1 (by rw [bs_len]; exact h0)
      rw [has, show wiB [] (bs b) = true by cases bs b <;> rfl]
      clear ih
      go_enter Tryd.func10, Tryd.ntmps10
      go_wp2_with fail
      go_ret
      exact ⟨rfl, 0, rfl⟩
    · have h1 : 0 < a.size := by omega
      have h2 : 0 < b.size := by omega
      have hx1 : ∀ W : World, Sem.run Tryd.prog (Instr.slice 9 (.string a) (some (.int .i64 1)) none none) W = .ok (.string (a.extract 1 a.size)) W := fun W =>
        run_slice_string_l W 9 a Tryd.underlying9 .i64 1 (by omega) (by omega)
      have hx2 : ∀ W : World, Sem.run Tryd.prog (Instr.slice 9 (.string b) (some (.int .i64 1)) none none) W = .ok (.string (b.extract 1 b.size)) W := fun W =>
        run_slice_string_l W 9 b Tryd.underlying9 .i64 1 (by omega) (by omega)
      have sa : (a.extract 1 a.size).size ≤ 1099511627776 := by rw [ByteArray.size_extract]; omega
      have sb : (b.extract 1 b.size).size = n := by rw [ByteArray.size_extract]; omega
      by_cases he : sg a 0 = sg b 0
      · have hw : wiB (bs a) (bs b) = wiB (bs (a.extract 1 a.size)) (bs (b.extract 1 b.size)) := by rw [bs_one_more h1, bs_one_more h2, wiB, if_pos he]
        rw [hw]
        have hq : ((a[0].toNat : Int) == (b[0].toNat : Int)) = true := by rw [sg_eq a 0 h1, sg_eq b 0 h2] at he; simp [he]
        have IH := fun W => hid (ih (a.extract 1 a.size) (b.extract 1 b.size) W sb sa (by omega))
        clear ih hw he sa sb
        generalize a.extract 1 a.size = a1 at hx1 IH ⊢
        generalize b.extract 1 b.size = b1 at hx2 IH ⊢
        go_enter Tryd.func10, Tryd.ntmps10
        go_wp2_with fail
        go_quiet (fail)
        rename_i nq _
        obtain ⟨w1, hw1⟩ : ∃ z, z = w.drewN nq := ⟨_, rfl⟩
        rw [← hw1]
        have HW := hid hw1
        clear hw1
        go_wp2_with fail
        go_quiet ((go_at_call 10; exact Calls.quiet_of (IH _).out))
        go_wp2_with fail
        go_ret
        exact ⟨rfl, by rw [HW.out]; first | exact ⟨_, rfl⟩ | (simp only [World.drewN_drewN]; exact ⟨_, rfl⟩)⟩
      · have hw : wiB (bs a) (bs b) = wiB (bs a) (bs (b.extract 1 b.size)) := by rw [bs_one_more h1, bs_one_more h2, wiB, if_neg he]
        rw [hw]
        have hq : ((a[0].toNat : Int) == (b[0].toNat : Int)) = false := by rw [sg_eq a 0 h1, sg_eq b 0 h2] at he; simpa using byte_apart he
        have IH := fun W => hid (ih a (b.extract 1 b.size) W sb ha (by omega))
        clear ih hw he sa sb hx1
        generalize b.extract 1 b.size = b1 at hx2 IH ⊢
        go_enter Tryd.func10, Tryd.ntmps10
        go_wp2_with fail
        go_quiet (fail)
        rename_i nq _
        go_wp2_with fail
        refine (IH _).out.mono ?_
        rintro e w1 ⟨rfl, q, hw1⟩
        have HW : Hid (∃ q, w1 = w.drewN q) := hid (by rw [hw1]; first | exact ⟨_, rfl⟩ | (simp only [World.drewN_drewN]; exact ⟨_, rfl⟩))
        clear hw1 IH
        go_wp2_with fail
        go_ret
        exact ⟨rfl, HW.out⟩
theorem rwithin_any (a b : ByteArray) (w : World) (ha : a.size ≤ 1099511627776) (hb : b.size ≤ 1099511627776) :
    Calls Tryd.prog 10 #[.string a, .string b] w fun e w' => e = .returned (.bool (wiB (bs a) (bs b))) ∧ ∃ q, w' = w.drewN q := rwithin_len b.size a b w rfl ha hb
end Go.Proofs.YtaodocdddfkglaaDoor
