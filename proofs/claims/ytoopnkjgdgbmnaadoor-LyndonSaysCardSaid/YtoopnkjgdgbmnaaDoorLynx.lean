/-
  Lyndon words and the order of texts: what the reference asks of one (Before), two of them joined, cut out of a text. No condition.
-/
import Derived.Test.YtoopnkjgdgbmnaaDoorLyn
import Derived.Test.YtoopnkjgdgbmnaaDoorLess
namespace Go.Proofs.YtoopnkjgdgbmnaaDoor

/-- Less than the end from i on. -/
theorem lx_tail {s : ByteArray} {i : Nat} (h : 0 < i) (hi : i < s.size) : Lx s (s.extract i s.size) ↔ Upl (sg s) s.size i := by
  have hz : (s.extract i s.size).size = s.size - i := by rw [ByteArray.size_extract]; omega
  have key : ∀ x, i + x < s.size → sg (s.extract i s.size) x = sg s (i + x) := fun x hx => by rw [sg_cut _ _ _ _ (by omega) (by omega)]
  constructor
  · rintro ⟨k, k1, k2, k3, ⟨k4, k5, k6⟩ | ⟨k4, k5⟩⟩
    · exact ⟨k, by omega, fun l hl => by rw [k3 l hl, key l (by omega)], by rw [← key k (by omega)]; exact k6⟩
    · omega
  · rintro ⟨k, k1, k2, k3⟩
    exact ⟨k, by omega, by omega, fun l hl => by rw [k2 l hl, key l (by omega)], .inl ⟨by omega, by omega, by rw [key k k1]; exact k3⟩⟩
/-- Two texts joined are a Lyndon word just if the first one is less. -/
theorem lyn_pair {a b : ByteArray} (ha : Lyn (sg a) a.size) (hb : Lyn (sg b) b.size) : Lyn (sg (a ++ b)) (a ++ b).size ↔ Lx a b := by
  have hl : ∀ x, x < a.size → sg (a ++ b) x = sg a x := fun x hx => sg_left a b x hx
  have hr : ∀ x, x < b.size → sg (a ++ b) (a.size + x) = sg b x := fun x hx => sg_right a b x hx
  have hx : Lx0 (sg (a ++ b)) a.size b.size ↔ Lx a b := by
    constructor
    · rintro ⟨k, k1, k2, k3, k4⟩
      refine ⟨k, k1, k2, fun l hl' => by rw [← hl l (by omega), k3 l hl', hr l (by omega)], ?_⟩
      rcases k4 with ⟨c1, c2, c3⟩ | c
      · exact .inl ⟨c1, c2, by rw [← hl k c1, ← hr k c2]; exact c3⟩
      · exact .inr c
    · rintro ⟨k, k1, k2, k3, k4⟩
      refine ⟨k, k1, k2, fun l hl' => by rw [hl l (by omega), k3 l hl', hr l (by omega)], ?_⟩
      rcases k4 with ⟨c1, c2, c3⟩ | c
      · exact .inl ⟨c1, c2, by rw [hl k c1, hr k c2]; exact c3⟩
      · exact .inr c
  rw [size_join, ← hx]
  constructor
  · exact lyn_part ha.1 hb.1
  · exact lyn_join (lyn_congr (fun x h => (hl x h).symm) ha) (lyn_congr (fun x h => (hr x h).symm) hb)
/-- A part of a text. -/
theorem lyn_cut {s : ByteArray} {b n : Nat} (h : b + n ≤ s.size) : Lyn (sg (s.extract b (b + n))) (s.extract b (b + n)).size ↔ Lyn (fun x => sg s (b + x)) n := by
  rw [show (s.extract b (b + n)).size = n by rw [ByteArray.size_extract]; omega]
  exact lyn_same fun x hx => by rw [sg_cut _ _ _ _ (by omega) (by omega)]
/-- One factor is not less than the next one. -/
theorem fall_cut {s : ByteArray} {b p q : Nat} (h : Lgw (fun x => sg s (b + x)) (s.size - b) p) (h' : Lgw (fun x => sg s (b + p + x)) (s.size - (b + p)) q) : ¬ Lx (s.extract b (b + p)) (s.extract (b + p) (b + p + q)) := by
  have p1 := h.1
  have q1 := h'.1
  have q0 := h'.2.1.1
  have e1 : (s.extract b (b + p)).size = p := by rw [ByteArray.size_extract]; omega
  have e2 : (s.extract (b + p) (b + p + q)).size = q := by rw [ByteArray.size_extract]; omega
  have hl : ∀ x, x < p → sg (s.extract b (b + p)) x = sg s (b + x) := fun x hx => by rw [sg_cut _ _ _ _ (by omega) (by omega)]
  have hr : ∀ x, x < q → sg (s.extract (b + p) (b + p + q)) x = sg s (b + (p + x)) := fun x hx => by rw [sg_cut _ _ _ _ (by omega) (by omega), Nat.add_assoc]
  rintro ⟨k, k1, k2, k3, k4⟩
  rw [e1] at k1 k4
  rw [e2] at k2 k4
  refine lgw_fall h h' ⟨k, k1, k2, fun l hl' => ?_, ?_⟩
  · show sg s (b + l) = sg s (b + (p + l))
    rw [← hl l (by omega), k3 l hl', hr l (by omega)]
  · rcases k4 with ⟨c1, c2, c3⟩ | c
    · refine .inl ⟨c1, c2, ?_⟩
      show sg s (b + k) < sg s (b + (p + k))
      rw [← hl k c1, ← hr k c2]; exact c3
    · exact .inr c
end Go.Proofs.YtoopnkjgdgbmnaaDoor
