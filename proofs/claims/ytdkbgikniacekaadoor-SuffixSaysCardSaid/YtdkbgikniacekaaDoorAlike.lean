/-
  Contract of letterbeckref1.Alike: how many signs two texts have in common from their beginnings on. Conditions: texts of at most 2^40 bytes.
-/
import Derived.Test.YtdkbgikniacekaaDoorAl
namespace Go.Proofs.YtdkbgikniacekaaDoor
open Go.RowKit

set_option maxHeartbeats 400000 in
theorem alike_any (a b : ByteArray) (w : World) (ha : a.size ≤ 1099511627776) (hb : b.size ≤ 1099511627776) :
    Calls Tryd.prog 7 #[.string a, .string b] w fun e w' => e = .returned (.int .i64 (alikeN a b : Nat)) ∧ ∃ q, w' = w.drewN q := by
  go_enter Tryd.func7, Tryd.ntmps7
  go_wp2
  go_loopw [5] (fun v wr => ∃ l q : Nat, l ≤ a.size ∧ l ≤ b.size ∧ v = .int .i64 l ∧ Hid (∀ j, j < l → sg a j = sg b j) ∧ wr = w.drewN q) (fun v _ => a.size - (intOf v).toNat)
  case atStart => exact ⟨0, 0, by omega, by omega, rfl, hid (fun j hj => absurd hj (by omega)), rfl⟩
  case round =>
    obtain ⟨l, q, hla, hlb, rfl, HK, rfl⟩ := hrel
    by_cases h1 : l < a.size
    · by_cases h2 : l < b.size
      · have d1 : decide (l < a.size) = true := by simp; omega
        have d2 : decide (l < b.size) = true := by simp; omega
        by_cases he : sg a l = sg b l
        · have hq1 := byte2_eq a b l l h1 h2 he
          have HR : Hid (∀ j, j < l + 1 → sg a j = sg b j) := hid fun j hj => by
            by_cases e : j = l
            · subst e; exact he
            · exact HK.out j (by omega)
          clear he HK
          go_wp2
          go_quiet (fail)
          go_wp2
          go_roundw
          case rel => exact ⟨l + 1, _, by omega, by omega, by go_num, HR, by first | rfl | rw [World.drewN_drewN]⟩
          case measure => simp [intOf]; omega
        · have hq1 := byte2_eq_false a b l l h1 h2 he
          have HR : Hid (alikeN a b = l) := hid (al_eq (by omega) HK.out fun _ => he)
          clear he HK
          go_wp2
          go_quiet (fail)
          go_wp2
          go_ret
          exact ⟨ret_int (by rw [HR.out]), by first | exact ⟨_, rfl⟩ | (simp only [World.drewN_drewN]; exact ⟨_, rfl⟩)⟩
      · have HR : Hid (alikeN a b = l) := hid (al_eq (by omega) HK.out fun hh => absurd hh (by omega))
        have d1 : decide (l < a.size) = true := by simp; omega
        have d2 : decide (l < b.size) = false := by simp; omega
        clear HK
        go_wp2
        go_quiet (fail)
        go_wp2
        go_ret
        exact ⟨ret_int (by rw [HR.out]), by first | exact ⟨_, rfl⟩ | (simp only [World.drewN_drewN]; exact ⟨_, rfl⟩)⟩
    · have HR : Hid (alikeN a b = l) := hid (al_eq (by omega) HK.out fun hh => absurd hh (by omega))
      have d1 : decide (l < a.size) = false := by simp; omega
      clear HK
      go_wp2
      go_quiet (fail)
      go_wp2
      go_ret
      exact ⟨ret_int (by rw [HR.out]), by first | exact ⟨_, rfl⟩ | (simp only [World.drewN_drewN]; exact ⟨_, rfl⟩)⟩
end Go.Proofs.YtdkbgikniacekaaDoor
