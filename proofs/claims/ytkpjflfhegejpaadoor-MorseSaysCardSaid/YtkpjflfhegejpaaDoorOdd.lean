/-
  Contracts of letterbeckref3.Odd and Morse: has a number an odd number of ones; the Thue-Morse word. Conditions: at most a thousand.
-/
import Derived.Test.YtkpjflfhegejpaaDoorBase
import Derived.Test.YtkpjflfhegejpaaDoorThueM
import Derived.Test.YtkpjflfhegejpaaDoorRmem
import Derived.Test.YtkpjflfhegejpaaDoorConv
import Derived.Test.YtkpjflfhegejpaaDoorByteI
namespace Go.Proofs.YtkpjflfhegejpaaDoor
open Go.RowKit

theorem odd_step (n : Nat) (w : World) (hn : n ≤ 1000) (ih : n ≠ 0 → Calls Tryd.prog 11 #[.int .i64 ((n / 2 : Nat) : Int)] w fun e w' => e = .returned (.bool (tm (n / 2))) ∧ w' = w) :
    Calls Tryd.prog 11 #[.int .i64 (n : Int)] w fun e w' => e = .returned (.bool (tm n)) ∧ w' = w := by
  by_cases h0 : n = 0
  · subst h0
    rw [tm_zero]
    clear ih hn
    go_enter Tryd.func11, Tryd.ntmps11
    go_wp2
    go_ret
    exact ⟨rfl, rfl⟩
  · have H := hid (ih h0)
    have hn0 : ((n : Int) == 0) = false := beq_eq_false_iff_ne.2 (by omega)
    have hd : Hid ((n : Int) / 2 = ((n / 2 : Nat) : Int)) := hid (by omega)
    have hr : (n : Int) % 2 = ((n % 2 : Nat) : Int) := by omega
    have hs := hid (tm_step h0)
    have h2 : n % 2 < 2 := Nat.mod_lt _ (by decide)
    generalize n / 2 = q at H hd hs
    generalize n % 2 = r at hr hs h2
    clear ih
    go_enter Tryd.func11, Tryd.ntmps11
    go_wp2_with fail
    rw [hd.out]
    refine H.out.mono ?_
    rintro e w1 ⟨rfl, hw1⟩
    subst w1
    go_wp2_with fail
    go_ret
    refine ⟨ret_bool ?_, rfl⟩
    rw [hs.out]
    rcases (by omega : r = 0 ∨ r = 1) with rfl | rfl <;> cases tm q <;> rfl
theorem odd_any : ∀ (n : Nat) (w : World), n ≤ 1000 → Calls Tryd.prog 11 #[.int .i64 (n : Int)] w fun e w' => e = .returned (.bool (tm n)) ∧ w' = w := by
  intro n
  induction n using Nat.strongRecOn with
  | _ n ih => exact fun w hn => odd_step n w hn fun h0 => ih (n / 2) (by omega) w (by omega)

set_option maxHeartbeats 2000000 in
set_option maxRecDepth 100000 in
theorem rmorse_any (n : Nat) (w : World) (hn : n ≤ 1000) :
    Calls Tryd.prog 5 #[.int .i64 (n : Int)] w fun e w' => e = .returned (.string (txt (mw n))) ∧ Below w.heap.size w w' := by
  obtain ⟨i0, hi, hz0, hz1, hz2⟩ := info_parts byteI
  go_enter Tryd.func5, Tryd.ntmps5
  go_wp2_with fail
  go_loopw [3, 4] (fun v x wr => ∃ (i : Nat) (z : Value), v = z ∧ i ≤ n ∧ x = .int .i64 i ∧ Hid (OwnB wr w.heap.size 5 z (mw i)) ∧ Below w.heap.size w wr) (fun _ x _ => n - (intOf x).toNat)
  case atStart => exact ⟨0, _, rfl, by omega, rfl, hid (OwnB.nil _ _ _), Below.refl _ _⟩
  case round =>
    obtain ⟨i, v, hv, hin, rfl, HO, hb⟩ := hrel
    have hv := hv.symm
    subst hv
    by_cases hlt : i < n
    · have HN := fun W => hid (odd_any i W (by omega))
      have hlt1 : (i : Int) < (n : Int) := by omega
      have hlen : (mw i).length ≤ 1099511627776 := by rw [mw_len]; omega
      have hout : Out v 0 0 := fun b _ => .inr (Nat.zero_le _)
      have hsz := hb.size
      have HS := hid (mw_snoc i)
      go_wp2_with fail
      refine (HN _).out.mono ?_
      rintro e w1 ⟨rfl, hw1⟩
      subst w1
      clear HN
      cases ht : tm i with
      | true =>
        rw [ht] at HS
        clear ht
        go_wp2_with (at_builtin; refine wpList_append_byte _ rfl (.tmp 12) (.tmp 13) 34 rfl w.heap.size 5 i0 Tryd.underlying34 hi hz0 hz1 hz2 _ (mw i) rfl HO.out (49 : UInt8) rfl hlen hsz 0 0 hout (Nat.zero_le _) ?_)
        intro v' w6 hown6 hb6 _ _
        have HO6 := hid hown6
        rw [show mw i ++ [(49 : UInt8)] = mw (i + 1) from HS.out.symm] at HO6
        have hbx := hb.trans hb6
        clear hown6 hb6 HO hb hout
        go_wp2_with fail
        go_roundw
        case rel => exact ⟨i + 1, _, rfl, by omega, by go_num, HO6, hbx⟩
        case measure => simp [intOf]; omega
      | false =>
        rw [ht] at HS
        clear ht
        go_wp2_with (at_builtin; refine wpList_append_byte _ rfl (.tmp 15) (.tmp 16) 34 rfl w.heap.size 5 i0 Tryd.underlying34 hi hz0 hz1 hz2 _ (mw i) rfl HO.out (48 : UInt8) rfl hlen hsz 0 0 hout (Nat.zero_le _) ?_)
        intro v' w6 hown6 hb6 _ _
        have HO6 := hid hown6
        rw [show mw i ++ [(48 : UInt8)] = mw (i + 1) from HS.out.symm] at HO6
        have hbx := hb.trans hb6
        clear hown6 hb6 HO hb hout
        go_wp2_with fail
        go_roundw
        case rel => exact ⟨i + 1, _, rfl, by omega, by go_num, HO6, hbx⟩
        case measure => simp [intOf]; omega
    · obtain rfl : i = n := by omega
      have hconv := conv_own HO.out
      go_wp2_with fail
      go_ret
      exact ⟨rfl, hb⟩
end Go.Proofs.YtkpjflfhegejpaaDoor
