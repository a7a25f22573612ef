/-
  How many signs two texts have in common from their beginnings on (alikeN), and comparisons of two texts' signs as the walk spells them. No condition.
-/
import Derived.Test.YtdkbgikniacekaaDoorBase
import Derived.Test.YtdkbgikniacekaaDoorZed
namespace Go.Proofs.YtdkbgikniacekaaDoor
open Go.RowKit

/-- Of the first k signs of two texts, how many are common from the beginning on. -/
def al (f g : Nat → UInt8) : Nat → Nat
  | 0 => 0
  | k + 1 => if al f g k = k ∧ f k = g k then k + 1 else al f g k
theorem al_le (f g : Nat → UInt8) (k : Nat) : al f g k ≤ k := by
  induction k with
  | zero => exact Nat.le_refl _
  | succ k ih => unfold al; split <;> omega
theorem al_go {f g : Nat → UInt8} (k : Nat) : ∀ j, j < al f g k → f j = g j := by
  induction k with
  | zero => intro j hj; simp [al] at hj
  | succ k ih =>
    intro j hj
    unfold al at hj
    split at hj
    · rename_i h
      by_cases e : j = k
      · subst e; exact h.2
      · exact ih j (by omega)
    · exact ih j hj
theorem al_stop {f g : Nat → UInt8} (k : Nat) (h : al f g k < k) : f (al f g k) ≠ g (al f g k) := by
  induction k with
  | zero => omega
  | succ k ih =>
    unfold al at h ⊢
    split at h
    · omega
    · rename_i hn
      rw [if_neg hn]
      by_cases e : al f g k = k
      · rw [e]; exact fun e' => hn ⟨e, e'⟩
      · exact ih (by have := al_le f g k; omega)
theorem al_eq {f g : Nat → UInt8} {k m : Nat} (hm : m ≤ k) (h : ∀ j, j < m → f j = g j) (hs : m < k → f m ≠ g m) : al f g k = m := by
  rcases Nat.lt_trichotomy (al f g k) m with hlt | he | hgt
  · exact absurd (h _ hlt) (al_stop _ (by omega))
  · exact he
  · exact absurd (al_go k m hgt) (hs (by have := al_le f g k; omega))
/-- What two texts have in common from their beginnings on. -/
def alikeN (a b : ByteArray) : Nat := al (sg a) (sg b) (min a.size b.size)
theorem alikeN_le (a b : ByteArray) : alikeN a b ≤ a.size ∧ alikeN a b ≤ b.size := by have := al_le (sg a) (sg b) (min a.size b.size); unfold alikeN; omega
theorem alikeN_end (s : ByteArray) (i : Nat) (h : i ≤ s.size) : alikeN s (s.extract i s.size) = zl (sg s) s.size i := by
  have e : (s.extract i s.size).size = s.size - i := by rw [ByteArray.size_extract]; omega
  have hz := zl_le (sg s) s.size i
  refine al_eq (by rw [e]; omega) (fun j hj => ?_) (fun hlt => ?_)
  · rw [sg_cut s i s.size j (Nat.le_refl _) (by omega)]; exact zl_go j hj
  · rw [sg_cut s i s.size _ (Nat.le_refl _) (by omega)]
    exact zt_stop (f := sg s) (i := i) _ (by unfold zl at hlt; omega)

theorem byte2_eq (s t : ByteArray) (a b : Nat) (ha : a < s.size) (hb : b < t.size) (h : sg s a = sg t b) : ((s[a].toNat : Int) == (t[b].toNat : Int)) = true := by
  rw [sg_eq s a ha, sg_eq t b hb] at h; simp [h]
theorem byte2_eq_false (s t : ByteArray) (a b : Nat) (ha : a < s.size) (hb : b < t.size) (h : sg s a ≠ sg t b) : ((s[a].toNat : Int) == (t[b].toNat : Int)) = false := by
  rw [sg_eq s a ha, sg_eq t b hb] at h; simpa using byte_apart h

end Go.Proofs.YtdkbgikniacekaaDoor
