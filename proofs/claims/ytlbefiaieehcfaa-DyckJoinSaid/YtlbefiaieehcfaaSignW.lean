/-
  The walk's own spelling of 's[i] == (a bracket)'. No condition.
-/
import Derived.Test.YtlbefiaieehcfaaBase
namespace Go.Proofs.Ytlbefiaieehcfaa

theorem byte_is40 {s : ByteArray} {i : Nat} (hi : i < s.size) : (((s[i].toNat : Int) == 40) = true ∧ sg s i = 40) ∨ (((s[i].toNat : Int) == 40) = false ∧ sg s i ≠ 40) := by
  rw [sg_eq s i hi]
  generalize s[i] = c
  by_cases h1 : c = 40
  · subst h1; exact .inl ⟨rfl, rfl⟩
  · exact .inr ⟨by simpa using byte_apart (y := 40) h1, h1⟩
end Go.Proofs.Ytlbefiaieehcfaa
