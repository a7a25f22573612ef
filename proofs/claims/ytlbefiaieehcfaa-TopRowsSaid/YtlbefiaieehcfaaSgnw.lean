/-
  Plain fact: a sign is '(', or ')', or neither; as the walk's tests say it. No condition.
-/
import Derived.Test.YtlbefiaieehcfaaBase
import Derived.Test.YtlbefiaieehcfaaDyckM
namespace Go.Proofs.Ytlbefiaieehcfaa

theorem sign_ways {s : ByteArray} {i : Nat} (hi : i < s.size) : (((s[i].toNat : Int) == 40) = true ∧ sg s i = 40) ∨ (((s[i].toNat : Int) == 40) = false ∧ sg s i ≠ 40 ∧ ((((s[i].toNat : Int) == 41) = true ∧ sg s i = 41) ∨ (((s[i].toNat : Int) == 41) = false ∧ sg s i ≠ 41))) := by
  rw [sg_eq s i hi]
  generalize s[i] = c
  have no : ∀ d : UInt8, c ≠ d → ((c.toNat : Int) == (d.toNat : Int)) = false := fun d h => by simpa using byte_apart h
  by_cases h1 : c = 40
  · subst h1; exact .inl ⟨rfl, rfl⟩
  · refine .inr ⟨no 40 h1, h1, ?_⟩
    by_cases h2 : c = 41
    · subst h2; exact .inl ⟨rfl, rfl⟩
    · exact .inr ⟨no 41 h2, h2⟩
end Go.Proofs.Ytlbefiaieehcfaa
