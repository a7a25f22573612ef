/-
  Contract of find.Check: nil, or the error of a search and which one. Conditions: none but the sizes that a row itself sets.
-/
import Derived.Test.YtdkbgikniacekaaBase
import Derived.Test.YtdkbgikniacekaaStr
namespace Go.Proofs.Ytdkbgikniacekaa
open Go.RowKit

/-- A search that is told an error, and which one. -/
def BadW (t u : ByteArray) (k : Int) : Prop := (k = 4 ∧ (24 < t.size ∨ 24 < u.size)) ∨ (k = 5 ∧ t.size ≤ 24 ∧ u.size = 0)
theorem bad_or (t u : ByteArray) : (t.size ≤ 24 ∧ u.size ≤ 24 ∧ 0 < u.size) ∨ ∃ k, BadW t u k := by
  by_cases h1 : t.size ≤ 24
  · by_cases h2 : u.size ≤ 24
    · by_cases h0 : 0 < u.size
      · exact .inl ⟨h1, h2, h0⟩
      · exact .inr ⟨5, .inr ⟨rfl, h1, by omega⟩⟩
    · exact .inr ⟨4, .inl ⟨rfl, .inr (by omega)⟩⟩
  · exact .inr ⟨4, .inl ⟨rfl, .inl (by omega)⟩⟩

theorem empty_no {u : ByteArray} (h : 0 < u.size) : u.toList.isEmpty = false := by
  have : u.toList.length = u.size := by rw [ByteArray.toList_eq, Array.length_toList]; rfl
  cases e : u.toList with
  | nil => rw [e] at this; simp at this; omega
  | cons => rfl
theorem check_ok (t u : ByteArray) (w : World) (h1 : t.size ≤ 24) (h2 : u.size ≤ 24) (h0 : 0 < u.size) :
    Calls Try.prog 31 #[.string t, .string u] w fun e w' => e = .returned .nilIface ∧ w' = w := by
  have hq : u.toList.isEmpty = false := empty_no h0
  go_enter Try.func31, Try.ntmps31
  go_wp2
  go_ret
  exact ⟨rfl, rfl⟩
theorem check_none (t u : ByteArray) (w : World) (h1 : t.size ≤ 24) (h0 : u.size = 0) :
    Calls Try.prog 31 #[.string t, .string u] w fun e w' => e = .returned (.iface 49 (.int .i64 5)) ∧ w' = w := by
  have e : u = ⟨#[]⟩ := text_eq _ _ h0 fun i hi => by omega
  subst e
  go_enter Try.func31, Try.ntmps31
  go_wp2
  go_ret
  exact ⟨rfl, rfl⟩
theorem check_full (t u : ByteArray) (w : World) (h : 24 < t.size ∨ 24 < u.size) (ht : t.size ≤ maxLen) (hu : u.size ≤ maxLen) :
    Calls Try.prog 31 #[.string t, .string u] w fun e w' => e = .returned (.iface 49 (.int .i64 4)) ∧ w' = w := by
  unfold maxLen at ht hu
  by_cases h1 : 24 < t.size
  · clear h
    go_enter Try.func31, Try.ntmps31
    go_wp2
    go_ret
    exact ⟨rfl, rfl⟩
  · have h2 : 24 < u.size := by omega
    have h1 : t.size ≤ 24 := by omega
    clear h
    go_enter Try.func31, Try.ntmps31
    go_wp2
    go_ret
    exact ⟨rfl, rfl⟩
theorem check_bad (t u : ByteArray) (k : Int) (w : World) (h : BadW t u k) (ht : t.size ≤ maxLen) (hu : u.size ≤ maxLen) :
    Calls Try.prog 31 #[.string t, .string u] w fun e w' => e = .returned (.iface 49 (.int .i64 k)) ∧ w' = w := by
  rcases h with ⟨rfl, h⟩ | ⟨rfl, h1, h2⟩
  · exact check_full t u w h ht hu
  · exact check_none t u w h1 h2
theorem byteC_eq (s : ByteArray) (a : Nat) (c : UInt8) (ha : a < s.size) (h : sg s a = c) : ((s[a].toNat : Int) == (c.toNat : Int)) = true ∧ ((s[a].toNat : Int) != (c.toNat : Int)) = false := by
  rw [sg_eq s a ha] at h; simp [h]
theorem byteC_ne (s : ByteArray) (a : Nat) (c : UInt8) (ha : a < s.size) (h : sg s a ≠ c) : ((s[a].toNat : Int) == (c.toNat : Int)) = false ∧ ((s[a].toNat : Int) != (c.toNat : Int)) = true := by
  rw [sg_eq s a ha] at h; simpa using byte_apart h
end Go.Proofs.Ytdkbgikniacekaa
