/-
  A slice of texts among a law's arguments: opened as a list of texts, and read again behind the call. No condition.
-/
import Derived.Test.YtlfncplldppncaaBase
import Derived.Test.YtlfncplldppncaaStrs
import Derived.SliceStrings
import Derived.Carry
import Derived.ProofKit
namespace Go.Proofs.Ytlfncplldppncaa
open Go.RowKit Go.ChangeShapes Go.WideShapes

set_option maxRecDepth 100000 in
theorem open_words {H : Type} {enc : TypeId × Value → H} {W : World} {base : Nat} {v : Value} {d : DataW H} {p : List MemPlace} (hv : Value.okWide Try.prog W .any base 22 v)
    (h : DataW.Trod enc Try.prog W 0 (fun _ => true) true 22 v d p) :
    ∃ (A : Option Addr) (n c : Nat) (ws : List ByteArray), v = .slice A n c ∧ n ≤ maxLen ∧ (∀ i, i < n → (wat ws i).size ≤ maxLen) ∧ IsStrs W W.heap.size A n ws := by
  obtain ⟨a0, len, cap, rfl⟩ := okWide_slice Try.underlying22 hv
  obtain ⟨fuel, hf⟩ := h
  rcases open_strings Try.underlying22 Try.underlying9 (by kernel_rfl) hf with ⟨hcs, _⟩ | ⟨a, len', cap', ss, hcs, _, hl, hm, hz, _, hcell, hsz⟩
  · have e : (Value.slice a0 len cap).cells.toList = [.slice a0 len cap] := rfl
    rw [e] at hcs
    simp only [List.cons.injEq, Value.slice.injEq, and_true] at hcs
    obtain ⟨rfl, rfl, rfl⟩ := hcs
    exact ⟨none, 0, 0, [], rfl, by unfold maxLen; omega, fun i hi => by omega, rfl, fun h => by omega⟩
  · have e : (Value.slice a0 len cap).cells.toList = [.slice a0 len cap] := rfl
    rw [e] at hcs
    simp only [List.cons.injEq, Value.slice.injEq, and_true] at hcs
    obtain ⟨rfl, rfl, rfl⟩ := hcs
    rw [if_pos rfl] at hz
    have hw : ∀ i, i < len → wat (ss.take len) i = ss.getD i ByteArray.empty := fun i hi => by
      simp [wat, List.getD_eq_getElem?_getD, hi]
    refine ⟨some a, len, cap, ss.take len, rfl, by omega, fun i hi => ?_, by rw [List.length_take]; omega, fun h0 => ?_⟩
    · rw [hw i hi]
      have hi' : i < ss.length := by omega
      rw [List.getD_eq_getElem?_getD, List.getElem?_eq_getElem hi']
      exact hsz _ (List.getElem_mem _)
    · have h1 := hcell 0 (by omega)
      have hsp : a.spot = none := by
        cases es : a.spot with
        | none => rfl
        | some x =>
          have : (a.add 0).spot = some x := by simp [Addr.add, es]
          simp [World.cell?, this] at h1
          split at h1 <;> simp at h1
      have ha : a = ⟨a.block, a.off, none⟩ := by cases a; simp at hsp; simp [hsp]
      refine ⟨a.block, a.off, by rw [← ha], ?_, fun j hj => ?_⟩
      · rcases Nat.lt_or_ge a.block W.heap.size with h' | h'
        · exact h'
        · simp [World.cell?, Addr.add, Array.getElem?_eq_none h'] at h1
      · have := hcell j (by omega)
        rw [ha] at this
        have e2 : (ss.take len).getD j ByteArray.empty = ss.getD j ByteArray.empty := hw j hj
        rw [show (⟨a.block, a.off, none⟩ : Addr).add j = ⟨a.block, a.off + j, none⟩ by by_cases e : j = 0 <;> simp [Addr.add, e]] at this
        rw [e2]
        exact this
theorem cap_words {H : Type} {enc : TypeId × Value → H} {W : World} {A : Option Addr} {n c : Nat} {d : DataW H} {p : List MemPlace} (h : DataW.Trod enc Try.prog W 0 (fun _ => true) true 22 (.slice A n c) d p) : n ≤ c := by
  obtain ⟨fuel, hf⟩ := h
  have e : (Value.slice A n c).cells.toList = [.slice A n c] := rfl
  rcases open_strings Try.underlying22 Try.underlying9 (by kernel_rfl) hf with ⟨hcs, _⟩ | ⟨a, len', cap', ss, hcs, _, hl, _⟩
  · rw [e] at hcs
    simp only [List.cons.injEq, Value.slice.injEq, and_true] at hcs
    omega
  · rw [e] at hcs
    simp only [List.cons.injEq, Value.slice.injEq, and_true] at hcs
    omega
set_option maxRecDepth 100000 in
theorem stay_words {H : Type} {enc : TypeId × Value → H} {W W' : World} {v : Value} {d : DataW H} {p : List MemPlace} (h : DataW.Trod enc Try.prog W 0 (fun _ => true) true 22 v d p) (hb : Below W.heap.size W W')
    (hlt : ∀ x ∈ p, x.block < W.heap.size) (sp : Nat → Bool) (hs : ∀ x ∈ p, sp x.block = true) : DataW.Trod enc Try.prog W' 0 sp true 22 v d p :=
  WideElems.Trod_stays (by kernel_rfl) (by kernel_rfl) (of_decide_eq_true (by kernel_rfl)) h (fun x hx => hb.same (hlt x hx)) hs
end Go.Proofs.Ytlfncplldppncaa
