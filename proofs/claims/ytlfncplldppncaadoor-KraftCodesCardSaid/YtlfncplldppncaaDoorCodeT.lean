/-
  Plain facts: the codes of lengths as texts. No condition.
-/
import Derived.Test.YtlfncplldppncaaDoorStrs
import Derived.Test.YtlfncplldppncaaDoorCode
namespace Go.Proofs.YtlfncplldppncaaDoor

/-- The codes as texts. -/
def codeT (l : List Nat) : List ByteArray := (codesL l).map txt
theorem codeT_len (E : List Nat) : (codeT E).length = E.length := by simp [codeT, codesL]
theorem codeT_at {E : List Nat} {i : Nat} (hi : i < E.length) : wat (codeT E) i = txt (codeL E i) := by
  have h1 : i < (codesL E).length := by rw [codesL_len]; exact hi
  have h2 := codesL_at hi
  rw [List.getD_eq_getElem?_getD, List.getElem?_eq_getElem h1, Option.getD_some] at h2
  unfold wat codeT
  rw [List.getD_eq_getElem?_getD, List.getElem?_map, List.getElem?_eq_getElem h1, Option.map_some, Option.getD_some, h2]
/-- The codes of the places in a list, the others empty still. -/
def crow (E l : List Nat) : List ByteArray := (List.range E.length).map fun j => if l.contains j then txt (codeL E j) else ByteArray.empty
theorem crow_len (E l : List Nat) : (crow E l).length = E.length := by simp [crow]
theorem crow_nil (E : List Nat) : crow E [] = List.replicate E.length ByteArray.empty := by
  apply List.ext_getElem?
  intro j
  by_cases hj : j < E.length <;> simp [crow, hj]
theorem crow_set (E l : List Nat) (i : Nat) : (crow E l).set i (txt (codeL E i)) = crow E (l ++ [i]) := by
  apply List.ext_getElem?
  intro j
  by_cases hj : j < E.length
  · by_cases e : i = j
    · subst e; simp [crow, hj]
    · have e2 : ¬ j = i := fun h => e h.symm
      simp [crow, hj, e, e2]
  · rw [List.getElem?_eq_none (by rw [List.length_set, crow_len]; omega), List.getElem?_eq_none (by rw [crow_len]; omega)]
theorem crow_all {E o : List Nat} (h : ∀ j, j < E.length → j ∈ o) : crow E o = codeT E := by
  unfold crow codeT codesL
  rw [List.map_map]
  refine List.map_congr_left fun j hj => ?_
  simp [h j (List.mem_range.1 hj)]
end Go.Proofs.YtlfncplldppncaaDoor
