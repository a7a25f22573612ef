/-
  Plain mathematics, without a program: what is wrong with a text as a pattern; patterns that the laws name. No condition.
-/
import Derived.Test.YtdhklkpeepmedaaDoorPat2
import Derived.Test.YtdhklkpeepmedaaDoorBs
namespace Go.Proofs.YtdhklkpeepmedaaDoor

/-- k is what is wrong with a pattern's text. -/
def RgBad (p : ByteArray) (k : Int) : Prop := (12 < p.size ∧ k = 4) ∨ (p.size ≤ 12 ∧ prs (bs p) = none ∧ k = 2)
/-- Nothing is wrong with it: it means r. -/
def RgOk (p : ByteArray) (r : Re UInt8) : Prop := p.size ≤ 12 ∧ prs (bs p) = some r
theorem rg_or (p : ByteArray) : (∃ r, RgOk p r) ∨ ∃ k, RgBad p k := by
  by_cases h : p.size ≤ 12
  · cases e : prs (bs p) with
    | some r => exact .inl ⟨r, h, e⟩
    | none => exact .inr ⟨2, .inr ⟨h, e, rfl⟩⟩
  · exact .inr ⟨4, .inl ⟨by omega, rfl⟩⟩
theorem rg_num {p : ByteArray} {k : Int} (h : RgBad p k) : k = 2 ∨ k = 4 := by
  rcases h with ⟨_, h⟩ | ⟨_, _, h⟩
  · exact .inr h
  · exact .inl h
theorem rg_two {p : ByteArray} {k : Int} (h : RgBad p k) (hs : p.size ≤ 12) : k = 2 := by
  rcases h with ⟨h, _⟩ | ⟨_, _, h⟩
  · omega
  · exact h
theorem rg_not {p : ByteArray} {r : Re UInt8} {k : Int} (h : RgOk p r) (h' : RgBad p k) : False := by
  obtain ⟨h1, h2⟩ := h
  rcases h' with ⟨h3, _⟩ | ⟨_, h3, _⟩
  · omega
  · rw [h2] at h3; cases h3
theorem rg_read {l : List UInt8} {r : Re UInt8} (hs : l.length ≤ 12) (h : prs l = some r) : RgOk (txt l) r := ⟨by rw [txt_size]; exact hs, by rw [bs_txt]; exact h⟩
theorem rg_bad2 {l : List UInt8} (hs : l.length ≤ 12) (h : prs l = none) : RgBad (txt l) 2 := .inr ⟨by rw [txt_size]; exact hs, by rw [bs_txt]; exact h, rfl⟩
/-- 'a*|b', 'ba|a', '(a', '*' -/
theorem rg_one : RgOk (txt [97, 42, 124, 98]) (.alt (.star (.ch 97)) (.ch 98)) := rg_read (by decide) rfl
theorem rg_ba : RgOk (txt [98, 97, 124, 97]) (.alt (.cat (.ch 98) (.ch 97)) (.ch 97)) := rg_read (by decide) rfl
theorem rg_opena : RgBad (txt [40, 97]) 2 := rg_bad2 (by decide) rfl
theorem rg_stars : RgBad (txt [42]) 2 := rg_bad2 (by decide) rfl
end Go.Proofs.YtdhklkpeepmedaaDoor
