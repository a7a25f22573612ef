/-
  The order of texts by their signs (Lx), of rotations too; contract of letterbeckref1.Before: whether a text stands ahead of another one. Conditions: texts of at most 2^40 bytes.
-/
import Derived.Test.YtoopnkjgdgbmnaaDoorBase
import Derived.Test.YtoopnkjgdgbmnaaDoorRot
namespace Go.Proofs.YtoopnkjgdgbmnaaDoor
open Go.RowKit

/-- a stands ahead of b. -/
def Lx (a b : ByteArray) : Prop := ∃ k, k ≤ a.size ∧ k ≤ b.size ∧ (∀ l, l < k → sg a l = sg b l) ∧ ((k < a.size ∧ k < b.size ∧ sg a k < sg b k) ∨ (k = a.size ∧ k < b.size))
theorem lx_at {a b : ByteArray} {l : Nat} (ha : l < a.size) (hb : l < b.size) (h : ∀ x, x < l → sg a x = sg b x) (hne : sg a l ≠ sg b l) : Lx a b ↔ sg a l < sg b l := by
  constructor
  · rintro ⟨k, k1, k2, k3, k4⟩
    rcases Nat.lt_trichotomy k l with e | e | e
    · rcases k4 with ⟨_, _, k4⟩ | ⟨k4, _⟩
      · rw [h k e] at k4; exact absurd k4 (UInt8.lt_irrefl _)
      · omega
    · subst e
      rcases k4 with ⟨_, _, k4⟩ | ⟨k4, _⟩
      · exact k4
      · omega
    · exact absurd (k3 l e) hne
  · exact fun hl => ⟨l, by omega, by omega, h, .inl ⟨ha, hb, hl⟩⟩
theorem lx_end {a b : ByteArray} {l : Nat} (ha : l ≤ a.size) (hb : l ≤ b.size) (h : ∀ x, x < l → sg a x = sg b x) (he : l = a.size ∨ l = b.size) : Lx a b ↔ a.size < b.size := by
  constructor
  · rintro ⟨k, k1, k2, k3, k4⟩
    rcases k4 with ⟨k5, k6, k4⟩ | ⟨k4, k5⟩
    · rw [h k (by omega)] at k4; exact absurd k4 (UInt8.lt_irrefl _)
    · omega
  · exact fun hl => ⟨l, ha, hb, h, .inr ⟨by omega, by omega⟩⟩
theorem lx_same {a b : ByteArray} (hs : a.size = b.size) : Lx a b ↔ Less (sg a) (sg b) a.size := by
  constructor
  · rintro ⟨k, k1, k2, k3, ⟨k4, _, k5⟩ | ⟨k4, k5⟩⟩
    · exact ⟨k, k4, k3, k5⟩
    · omega
  · rintro ⟨k, k1, k2, k3⟩
    exact ⟨k, by omega, by omega, k2, .inl ⟨k1, by omega, k3⟩⟩
theorem lx_turn {s : ByteArray} {i j : Nat} (hi : i ≤ s.size) (hj : j ≤ s.size) : Lx (turnS s i) (turnS s j) ↔ Ls (cy s) s.size i j := by
  rw [lx_same (by rw [turn_size s i hi, turn_size s j hj]), turn_size s i hi]
  constructor
  · exact fun h => less_left (fun x hx => turn_sg s i x hi hx) (less_right (fun x hx => turn_sg s j x hj hx) h)
  · exact fun h => less_left (fun x hx => (turn_sg s i x hi hx).symm) (less_right (fun x hx => (turn_sg s j x hj hx).symm) h)
/-- Does a stand ahead of b? -/
noncomputable def lxB (a b : ByteArray) : Bool := @decide (Lx a b) (Classical.propDecidable _)
theorem lxB_yes {a b : ByteArray} (h : Lx a b) : lxB a b = true := @decide_eq_true _ (Classical.propDecidable _) h
theorem lxB_no {a b : ByteArray} (h : ¬ Lx a b) : lxB a b = false := @decide_eq_false _ (Classical.propDecidable _) h
theorem lxB_iff {a b : ByteArray} {p : Prop} [Decidable p] (h : Lx a b ↔ p) : decide p = lxB a b := by
  by_cases hp : p
  · rw [lxB_yes (h.2 hp), decide_eq_true hp]
  · rw [lxB_no (fun hx => hp (h.1 hx)), decide_eq_false hp]
theorem lxB_at {a b : ByteArray} {l : Nat} (ha : l < a.size) (hb : l < b.size) (h : ∀ x, x < l → sg a x = sg b x) (hne : sg a l ≠ sg b l) : decide (a[l].toNat < b[l].toNat) = lxB a b := by
  refine lxB_iff ?_
  rw [lx_at ha hb h hne, sg_eq a l ha, sg_eq b l hb, UInt8.lt_iff_toNat_lt]

set_option maxHeartbeats 400000 in
theorem before_any (a b : ByteArray) (w : World) (ha : a.size ≤ 1099511627776) (hb : b.size ≤ 1099511627776) :
    Calls Tryd.prog 13 #[.string a, .string b] w fun e w' => e = .returned (.bool (lxB a b)) ∧ ∃ q, w' = w.drewN q := by
  go_enter Tryd.func13, Tryd.ntmps13
  go_wp2
  go_loopw [5] (fun v wr => ∃ l q : Nat, l ≤ a.size ∧ l ≤ b.size ∧ v = .int .i64 l ∧ Hid (∀ x, x < l → sg a x = sg b x) ∧ wr = w.drewN q) (fun v _ => a.size - (intOf v).toNat)
  case atStart => exact ⟨0, 0, by omega, by omega, rfl, hid (fun x hx => absurd hx (by omega)), rfl⟩
  case round =>
    obtain ⟨l, q, hla, hlb, rfl, HK, rfl⟩ := hrel
    by_cases h1 : l < a.size
    · by_cases h2 : l < b.size
      · have d1 : decide (l < a.size) = true := by simp; omega
        have d2 : decide (l < b.size) = true := by simp; omega
        by_cases he : sg a l = sg b l
        · have HR : Hid (∀ x, x < l + 1 → sg a x = sg b x) := hid (fun x hx => by
            by_cases hxl : x = l
            · subst hxl; exact he
            · exact HK.out x (by omega))
          have hq : ((a[l].toNat : Int) != (b[l].toNat : Int)) = false := by rw [sg_eq a l h1, sg_eq b l h2] at he; simp [he]
          clear he HK
          go_wp2
          go_quiet (fail)
          go_wp2
          go_roundw
          case rel => exact ⟨l + 1, _, by omega, by omega, by go_num, HR, rfl⟩
          case measure => simp [intOf]; omega
        · have HR := hid (lxB_at h1 h2 HK.out he)
          have hq : ((a[l].toNat : Int) != (b[l].toNat : Int)) = true := by rw [sg_eq a l h1, sg_eq b l h2] at he; simpa using byte_apart he
          clear he HK
          go_wp2
          go_quiet (fail)
          go_wp2
          go_quiet (fail)
          go_wp2
          go_ret
          exact ⟨ret_bool HR.out, by first | exact ⟨_, rfl⟩ | (simp only [World.drewN_drewN]; exact ⟨_, rfl⟩)⟩
      · have HR := hid (lxB_iff (lx_end hla hlb HK.out (.inr (by omega))))
        have d1 : decide (l < a.size) = true := by simp; omega
        have d2 : decide (l < b.size) = false := by simp; omega
        clear HK
        go_wp2
        go_ret
        exact ⟨ret_bool HR.out, by first | exact ⟨_, rfl⟩ | (simp only [World.drewN_drewN]; exact ⟨_, rfl⟩)⟩
    · have HR := hid (lxB_iff (lx_end hla hlb HK.out (.inl (by omega))))
      have d1 : decide (l < a.size) = false := by simp; omega
      clear HK
      go_wp2
      go_ret
      exact ⟨ret_bool HR.out, by first | exact ⟨_, rfl⟩ | (simp only [World.drewN_drewN]; exact ⟨_, rfl⟩)⟩
end Go.Proofs.YtoopnkjgdgbmnaaDoor
