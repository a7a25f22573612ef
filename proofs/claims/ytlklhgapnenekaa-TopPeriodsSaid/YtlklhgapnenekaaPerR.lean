/-
  Plain mathematics of periods and primitive roots, without a program: the least period from the longest border, and the rotation at the root. No condition.
-/
import Derived.Test.YtlklhgapnenekaaPer
import Derived.Test.YtlklhgapnenekaaRot
namespace Go.Proofs.Ytlklhgapnenekaa

theorem allL_last {s : ByteArray} (h : 0 < lon (sg s) s.size) : (allL s).getD ((allL s).length - 1) 0 = ((lon (sg s) s.size : Nat) : Int) := by
  have e : allL s = (eds (sg s) (lon (sg s) s.size)).map (fun k => ((k : Nat) : Int)) ++ [((lon (sg s) s.size : Nat) : Int)] := by
    unfold allL; rw [eds_chain h]; simp
  rw [e, List.length_append, List.length_singleton, Nat.add_sub_cancel, List.getD_eq_getElem?_getD, List.getElem?_append_right (Nat.le_refl _), Nat.sub_self]
  rfl
/-- The least period: what the longest border leaves. -/
theorem perL_first {s : ByteArray} (h : s.size ≠ 0) : (perL s).getD 0 0 = ((s.size - lon (sg s) s.size : Nat) : Int) := by
  have hl := lon_lt (f := sg s) (m := s.size) (by omega)
  by_cases h0 : 0 < lon (sg s) s.size
  · have hp : 0 < (allL s).length := by
      unfold allL; rw [eds_chain h0]; simp
    rw [perL_at h 0 hp, Nat.sub_zero, allL_last h0]; omega
  · have e : allL s = [] := by unfold allL; rw [eds_none (by omega)]; rfl
    have := perL_last h
    rw [e, List.length_nil] at this
    rw [this]; omega
theorem turn_root {s : ByteArray} {r : Nat} (hn : 0 < s.size) (h : Rt (cy s) s.size r) : turnS s (r % s.size) = s := by
  have hp := rt_pr hn h
  have hm := Nat.mod_lt r hn
  conv => rhs; rw [← turn_zero s]
  refine (turn_eq rfl hn (by omega) (by omega)).2 fun x => ?_
  have h1 := hp x
  rw [← pr_at (cy_pr s), ← pr_at (cy_pr s) x] at h1
  rw [← pr_at (cy_pr s), ← pr_at (cy_pr s) (0 + x), Nat.zero_add, ← h1, Nat.mod_add_mod, Nat.add_comm r x]
end Go.Proofs.Ytlklhgapnenekaa
