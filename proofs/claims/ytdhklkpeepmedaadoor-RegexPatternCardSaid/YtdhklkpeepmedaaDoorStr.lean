/-
  Plain facts on texts: two texts are the same just if they are as long and have the same signs; a text's beginning is its end just if it is a border. No condition.
-/
import Derived.Test.YtdhklkpeepmedaaDoorBorder
import Derived.WalkKit
namespace Go.Proofs.YtdhklkpeepmedaaDoor

theorem text_eq (a b : ByteArray) (hs : a.size = b.size) (h : ∀ i, i < a.size → sg a i = sg b i) : a = b := by
  apply ByteArray.ext
  apply Array.toList_inj.1
  apply List.ext_getElem?
  intro i
  have ha : a.size = a.data.toList.length := by rw [Array.length_toList]; rfl
  have hb : b.size = b.data.toList.length := by rw [Array.length_toList]; rfl
  by_cases hi : i < a.size
  · have := h i hi
    have h1 : i < a.data.toList.length := by omega
    have h2 : i < b.data.toList.length := by omega
    simp only [sg, List.getD_eq_getElem?_getD, List.getElem?_eq_getElem h1, List.getElem?_eq_getElem h2, Option.getD_some] at this
    rw [List.getElem?_eq_getElem h1, List.getElem?_eq_getElem h2, this]
  · rw [List.getElem?_eq_none (by omega), List.getElem?_eq_none (by omega)]
/-- The walk's own spelling of '==' on texts. -/
theorem same_yes {a b : ByteArray} (h : a = b) : (a.toList == b.toList) = true := by simp [h]
theorem same_no {a b : ByteArray} (h : a ≠ b) : (a.toList == b.toList) = false := by
  rw [beq_eq_false_iff_ne]
  intro e
  apply h
  rw [ByteArray.toList_eq, ByteArray.toList_eq] at e
  exact ByteArray.ext (Array.toList_inj.1 e)

theorem bd_text (s : ByteArray) (k : Nat) (h : k < s.size) : Bd (sg s) s.size k ↔ s.extract 0 k = s.extract (s.size - k) s.size := by
  have h1 : (s.extract 0 k).size = k := by rw [ByteArray.size_extract]; omega
  have h2 : (s.extract (s.size - k) s.size).size = k := by rw [ByteArray.size_extract]; omega
  constructor
  · intro hb
    refine text_eq _ _ (by omega) fun i hi => ?_
    rw [sg_cut s 0 k i (by omega) (by omega), sg_cut s _ _ i (by omega) (by omega), Nat.zero_add]
    exact hb.2 i (by omega)
  · intro e
    refine ⟨h, fun j hj => ?_⟩
    have : sg (s.extract 0 k) j = sg (s.extract (s.size - k) s.size) j := by rw [e]
    rwa [sg_cut s 0 k j (by omega) (by omega), sg_cut s _ _ j (by omega) (by omega), Nat.zero_add] at this
end Go.Proofs.YtdhklkpeepmedaaDoor
