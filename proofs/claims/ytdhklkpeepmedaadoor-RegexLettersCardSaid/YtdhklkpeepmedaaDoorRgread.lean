/-
  letterbeckref3's Read by what is wrong with a text, and a pattern in a variable of the call's own. Conditions: a text of at most maxLen bytes.
-/
import Derived.Test.YtdhklkpeepmedaaDoorRgm
import Derived.Test.YtdhklkpeepmedaaDoorPfit
namespace Go.Proofs.YtdhklkpeepmedaaDoor
open Go.RowKit

/-- Read, by what is wrong. -/
theorem rgread_ok (p : ByteArray) (r : Re UInt8) (w : World) (h : RgOk p r) :
    Calls Tryd.prog 7 #[.string p] w fun e w' => ∃ (v : Value) (k : Nat) (N : List Nd), e = .returned (.tuple #[pvA v ByteArray.empty false (k : Nat), .int .i64 0]) ∧ RdX encN 4 w' v N ∧ TreeAt N r k ∧ Below w.heap.size w w' := by
  refine (read_any p w h.1).mono ?_
  rintro e w' ⟨hm, hb⟩
  rw [h.2] at hm
  obtain ⟨v, he, v', k, N, rfl, hN, hT⟩ := hm
  exact ⟨v', k, N, he, hN, hT, hb⟩
theorem rgread_bad (p : ByteArray) (k : Int) (w : World) (hp : p.size ≤ maxLen) (h : RgBad p k) :
    Calls Tryd.prog 7 #[.string p] w fun e w' => e = .returned (.tuple #[pvA (.slice none 0 0) ByteArray.empty false 0, .int .i64 k]) ∧ Below w.heap.size w w' := by
  rcases h with ⟨hs, rfl⟩ | ⟨hs, hn, rfl⟩
  · exact read_full p w hs hp
  · refine (read_any p w hs).mono ?_
    rintro e w' ⟨hm, hb⟩
    rw [hn] at hm
    exact ⟨hm, hb⟩
/-- A pattern in a variable of the call's own. -/
theorem pat_laid {w W : World} {v : Value} {s : ByteArray} {b : Bool} {k : Int} (h : w.alloc (.cells #[v, .string s, .bool b, .int .i64 k] 24) = W) : PatB W w.heap.size v s b k ∧ Below w.heap.size w W := by
  subst h
  exact ⟨heap_alloc_new w _, (Below.refl _ w).alloc (Nat.le_refl _) _⟩
end Go.Proofs.YtdhklkpeepmedaaDoor
