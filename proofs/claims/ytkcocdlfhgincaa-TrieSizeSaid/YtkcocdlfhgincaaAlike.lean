/-
  Contract of letterbeckref1.Alike: how many signs two texts have in common from their beginnings on. Conditions: texts of at most 2^40 bytes.
-/
import Derived.Test.YtkcocdlfhgincaaBase
import Derived.Test.YtkcocdlfhgincaaZed
namespace Go.Proofs.Ytkcocdlfhgincaa
open Go.RowKit

/-- Of the first k signs of two texts, how many are common from the beginning on. -/
def al (f g : Nat → UInt8) : Nat → Nat
  | 0 => 0
  | k + 1 => if al f g k = k ∧ f k = g k then k + 1 else al f g k
theorem al_le (f g : Nat → UInt8) (k : Nat) : al f g k ≤ k := by
  induction k with
  | zero => exact Nat.le_refl _
  | succ k ih => unfold al; split <;> omega
theorem al_go {f g : Nat → UInt8} (k : Nat) : ∀ j, j < al f g k → f j = g j := by
  induction k with
  | zero => intro j hj; simp [al] at hj
  | succ k ih =>
    intro j hj
    unfold al at hj
    split at hj
    · rename_i h
      by_cases e : j = k
      · subst e; exact h.2
      · exact ih j (by omega)
    · exact ih j hj
theorem al_stop {f g : Nat → UInt8} (k : Nat) (h : al f g k < k) : f (al f g k) ≠ g (al f g k) := by
  induction k with
  | zero => omega
  | succ k ih =>
    unfold al at h ⊢
    split at h
    · omega
    · rename_i hn
      rw [if_neg hn]
      by_cases e : al f g k = k
      · rw [e]; exact fun e' => hn ⟨e, e'⟩
      · exact ih (by have := al_le f g k; omega)
theorem al_eq {f g : Nat → UInt8} {k m : Nat} (hm : m ≤ k) (h : ∀ j, j < m → f j = g j) (hs : m < k → f m ≠ g m) : al f g k = m := by
  rcases Nat.lt_trichotomy (al f g k) m with hlt | he | hgt
  · exact absurd (h _ hlt) (al_stop _ (by omega))
  · exact he
  · exact absurd (al_go k m hgt) (hs (by have := al_le f g k; omega))
/-- What two texts have in common from their beginnings on. -/
def alikeN (a b : ByteArray) : Nat := al (sg a) (sg b) (min a.size b.size)
theorem alikeN_le (a b : ByteArray) : alikeN a b ≤ a.size ∧ alikeN a b ≤ b.size := by have := al_le (sg a) (sg b) (min a.size b.size); unfold alikeN; omega
theorem alikeN_end (s : ByteArray) (i : Nat) (h : i ≤ s.size) : alikeN s (s.extract i s.size) = zl (sg s) s.size i := by
  have e : (s.extract i s.size).size = s.size - i := by rw [ByteArray.size_extract]; omega
  have hz := zl_le (sg s) s.size i
  refine al_eq (by rw [e]; omega) (fun j hj => ?_) (fun hlt => ?_)
  · rw [sg_cut s i s.size j (Nat.le_refl _) (by omega)]; exact zl_go j hj
  · rw [sg_cut s i s.size _ (Nat.le_refl _) (by omega)]
    exact zt_stop (f := sg s) (i := i) _ (by unfold zl at hlt; omega)

theorem byte2_eq (s t : ByteArray) (a b : Nat) (ha : a < s.size) (hb : b < t.size) (h : sg s a = sg t b) : ((s[a].toNat : Int) == (t[b].toNat : Int)) = true := by
  rw [sg_eq s a ha, sg_eq t b hb] at h; simp [h]
theorem byte2_eq_false (s t : ByteArray) (a b : Nat) (ha : a < s.size) (hb : b < t.size) (h : sg s a ≠ sg t b) : ((s[a].toNat : Int) == (t[b].toNat : Int)) = false := by
  rw [sg_eq s a ha, sg_eq t b hb] at h; simpa using byte_apart h

set_option maxHeartbeats 400000 in
theorem alike_any (a b : ByteArray) (w : World) (ha : a.size ≤ 1099511627776) (hb : b.size ≤ 1099511627776) :
    Calls Try.prog 11 #[.string a, .string b] w fun e w' => e = .returned (.int .i64 (alikeN a b : Nat)) ∧ ∃ q, w' = w.drewN q := by
  go_enter Try.func11, Try.ntmps11
  go_wp2
  go_loopw [5] (fun v wr => ∃ l q : Nat, l ≤ a.size ∧ l ≤ b.size ∧ v = .int .i64 l ∧ Hid (∀ j, j < l → sg a j = sg b j) ∧ wr = w.drewN q) (fun v _ => a.size - (intOf v).toNat)
  case atStart => exact ⟨0, 0, by omega, by omega, rfl, hid (fun j hj => absurd hj (by omega)), rfl⟩
  case round =>
    obtain ⟨l, q, hla, hlb, rfl, HK, rfl⟩ := hrel
    by_cases h1 : l < a.size
    · by_cases h2 : l < b.size
      · have d1 : decide (l < a.size) = true := by simp; omega
        have d2 : decide (l < b.size) = true := by simp; omega
        by_cases he : sg a l = sg b l
        · have hq1 := byte2_eq a b l l h1 h2 he
          have HR : Hid (∀ j, j < l + 1 → sg a j = sg b j) := hid fun j hj => by
            by_cases e : j = l
            · subst e; exact he
            · exact HK.out j (by omega)
          clear he HK
          go_wp2
          go_quiet (fail)
          go_wp2
          go_roundw
          case rel => exact ⟨l + 1, _, by omega, by omega, by go_num, HR, by first | rfl | rw [World.drewN_drewN]⟩
          case measure => simp [intOf]; omega
        · have hq1 := byte2_eq_false a b l l h1 h2 he
          have HR : Hid (alikeN a b = l) := hid (al_eq (by omega) HK.out fun _ => he)
          clear he HK
          go_wp2
          go_quiet (fail)
          go_wp2
          go_ret
          exact ⟨ret_int (by rw [HR.out]), by first | exact ⟨_, rfl⟩ | (simp only [World.drewN_drewN]; exact ⟨_, rfl⟩)⟩
      · have HR : Hid (alikeN a b = l) := hid (al_eq (by omega) HK.out fun hh => absurd hh (by omega))
        have d1 : decide (l < a.size) = true := by simp; omega
        have d2 : decide (l < b.size) = false := by simp; omega
        clear HK
        go_wp2
        go_quiet (fail)
        go_wp2
        go_ret
        exact ⟨ret_int (by rw [HR.out]), by first | exact ⟨_, rfl⟩ | (simp only [World.drewN_drewN]; exact ⟨_, rfl⟩)⟩
    · have HR : Hid (alikeN a b = l) := hid (al_eq (by omega) HK.out fun hh => absurd hh (by omega))
      have d1 : decide (l < a.size) = false := by simp; omega
      clear HK
      go_wp2
      go_quiet (fail)
      go_wp2
      go_ret
      exact ⟨ret_int (by rw [HR.out]), by first | exact ⟨_, rfl⟩ | (simp only [World.drewN_drewN]; exact ⟨_, rfl⟩)⟩
end Go.Proofs.Ytkcocdlfhgincaa
