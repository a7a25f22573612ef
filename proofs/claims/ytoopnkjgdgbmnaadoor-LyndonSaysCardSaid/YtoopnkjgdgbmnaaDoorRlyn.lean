/-
  Contract of letterbeckref1.Lyndon: whether a text is a Lyndon word. Conditions: texts of at most 2^40 bytes.
-/
import Derived.Test.YtoopnkjgdgbmnaaDoorLynx
namespace Go.Proofs.YtoopnkjgdgbmnaaDoor
open Go.RowKit

set_option maxHeartbeats 800000 in
set_option maxRecDepth 100000 in
theorem rlyn_any (s : ByteArray) (w : World) (h : s.size ≤ 1099511627776) :
    Calls Tryd.prog 10 #[.string s] w fun e w' => e = .returned (.bool (lynB s)) ∧ ∃ q, w' = w.drewN q := by
  go_enter Tryd.func10, Tryd.ntmps10
  go_wp2
  go_loopw [3] (fun v wr => ∃ i : Nat, v = .int .i64 i ∧ 0 < i ∧ (i ≤ s.size ∨ i = 1) ∧ Hid (∀ j, 0 < j → j < i → Upl (sg s) s.size j) ∧ Hid (∃ q, wr = w.drewN q)) (fun v _ => s.size - (intOf v).toNat)
  case atStart => exact ⟨1, rfl, by omega, by omega, hid (fun j h1 h2 => absurd h2 (by omega)), hid ⟨0, rfl⟩⟩
  case round =>
    obtain ⟨i, rfl, hi0, hi, HK, HW⟩ := hrel
    by_cases hlt : i < s.size
    · have hcut : ∀ W : World, Sem.run Tryd.prog (Instr.slice 9 (.string s) (some (.int .i64 (i : Int))) none none) W = .ok (.string (s.extract i s.size)) W := fun W =>
        run_slice_string_l W 9 s Tryd.underlying9 .i64 (i : Int) (by omega) (by omega)
      have hz : (s.extract i s.size).size = s.size - i := by rw [ByteArray.size_extract]; omega
      have HB := fun W => hid (before_any s (s.extract i s.size) W h (by omega))
      have HX := hid (lx_tail hi0 hlt)
      by_cases hl : Upl (sg s) s.size i
      · have hq := lxB_yes (HX.out.2 hl)
        rw [hq] at HB
        have HR : Hid (∀ j, 0 < j → j < i + 1 → Upl (sg s) s.size j) := hid fun j h1 h2 => by
          by_cases e : j = i
          · subst e; exact hl
          · exact HK.out j h1 (by omega)
        clear hl hq HX HK
        generalize s.extract i s.size = t at hcut HB hz
        go_wp2_with fail
        refine (HB _).out.mono ?_
        rintro e w1 ⟨rfl, q1, hw1⟩
        have HV : Hid (∃ q, w1 = w.drewN q) := hid (by
          obtain ⟨q, hw⟩ := HW.out
          rw [hw1, hw, World.drewN_drewN]
          exact ⟨_, rfl⟩)
        clear hw1 HW HB
        go_wp2
        go_roundw
        case rel => exact ⟨i + 1, by go_num, by omega, by omega, HR, HV⟩
        case measure => simp [intOf]; omega
      · have hq := lxB_no (fun hx => hl (HX.out.1 hx))
        rw [hq] at HB
        have HR := hid (lynB_no (s := s) fun hy => hl (hy.2 i hi0 hlt))
        clear hl hq HX HK
        generalize s.extract i s.size = t at hcut HB hz
        go_wp2_with fail
        refine (HB _).out.mono ?_
        rintro e w1 ⟨rfl, q1, hw1⟩
        have HV : Hid (∃ q, w1 = w.drewN q) := hid (by
          obtain ⟨q, hw⟩ := HW.out
          rw [hw1, hw, World.drewN_drewN]
          exact ⟨_, rfl⟩)
        clear hw1 HW HB
        go_wp2
        go_ret
        exact ⟨ret_bool HR.out.symm, HV.out⟩
    · have HR : Hid (decide (0 < s.size) = lynB s) := hid (lynB_iff ⟨fun h0 => ⟨h0, fun j h1 h2 => HK.out j h1 (by omega)⟩, fun hy => hy.1⟩)
      clear HK
      go_wp2
      go_ret
      exact ⟨ret_bool (by rw [← HR.out]), HW.out⟩
end Go.Proofs.YtoopnkjgdgbmnaaDoor
