/-
  A slice of numbers among a law's arguments: opened as a list of numbers, and read again behind the call. No condition.
-/
import Derived.Test.YtlbefiaieehcfaaBase
import Derived.ChangeSlices
import Derived.Carry
import Derived.ProofKit
namespace Go.Proofs.Ytlbefiaieehcfaa
open Go.RowKit Go.ChangeShapes Go.WideShapes

set_option maxRecDepth 100000 in
theorem open_nums {H : Type} {enc : TypeId × Value → H} {W : World} {base : Nat} {v : Value} {d : DataW H} {p : List MemPlace} (hv : Value.okWide Try.prog W .any base 35 v)
    (h : DataW.Trod enc Try.prog W 0 (fun _ => true) true 35 v d p) :
    ∃ (A : Option Addr) (n c : Nat) (l : List Int), v = .slice A n c ∧ n ≤ maxLen ∧ (∀ k ∈ l, (Lit.int .i64 k).wf = true) ∧ n ≤ c ∧ IsInts W W.heap.size A n l := by
  obtain ⟨a0, len, cap, rfl⟩ := okWide_slice Try.underlying35 hv
  obtain ⟨fuel, hf⟩ := h
  have e : (Value.slice a0 len cap).cells.toList = [.slice a0 len cap] := rfl
  rcases open_ints Try.underlying35 Try.underlying3 (by kernel_rfl) hf with ⟨hcs, _⟩ | ⟨a, len', cap', zs, hcs, _, hl, hm, hz, _, hcell, hwf⟩
  · rw [e] at hcs
    simp only [List.cons.injEq, Value.slice.injEq, and_true] at hcs
    obtain ⟨rfl, rfl, rfl⟩ := hcs
    exact ⟨none, 0, 0, [], rfl, by unfold maxLen; omega, fun k hk => (by cases hk), by omega, IsInts.nil⟩
  · rw [e] at hcs
    simp only [List.cons.injEq, Value.slice.injEq, and_true] at hcs
    obtain ⟨rfl, rfl, rfl⟩ := hcs
    rw [if_pos rfl] at hz
    have hw : ∀ i, i < len → (zs.take len).getD i 0 = zs.getD i 0 := fun i hi => by simp [List.getD_eq_getElem?_getD, hi]
    refine ⟨some a, len, cap, zs.take len, rfl, by omega, fun k hk => hwf k (List.mem_of_mem_take hk), by omega, by rw [List.length_take]; omega, fun h0 => ?_⟩
    have h1 := hcell 0 (by omega)
    have hsp : a.spot = none := by
      cases es : a.spot with
      | none => rfl
      | some x =>
        have : (a.add 0).spot = some x := by simp [Addr.add, es]
        simp [World.cell?, this] at h1
        split at h1 <;> simp at h1
    have ha : a = ⟨a.block, a.off, none⟩ := by cases a; simp at hsp; simp [hsp]
    refine ⟨a.block, a.off, by rw [← ha], ?_, fun j hj => ?_⟩
    · rcases Nat.lt_or_ge a.block W.heap.size with h' | h'
      · exact h'
      · simp [World.cell?, Addr.add, Array.getElem?_eq_none h'] at h1
    · have := hcell j (by omega)
      rw [ha] at this
      rw [show (⟨a.block, a.off, none⟩ : Addr).add j = ⟨a.block, a.off + j, none⟩ by by_cases e : j = 0 <;> simp [Addr.add, e]] at this
      rw [hw j hj]
      exact this
set_option maxRecDepth 100000 in
theorem stay_nums {H : Type} {enc : TypeId × Value → H} {W W' : World} {v : Value} {d : DataW H} {p : List MemPlace} (h : DataW.Trod enc Try.prog W 0 (fun _ => true) true 35 v d p) (hb : Below W.heap.size W W')
    (hlt : ∀ x ∈ p, x.block < W.heap.size) (sp : Nat → Bool) (hs : ∀ x ∈ p, sp x.block = true) : DataW.Trod enc Try.prog W' 0 sp true 35 v d p :=
  WideElems.Trod_stays (by kernel_rfl) (by kernel_rfl) (of_decide_eq_true (by kernel_rfl)) h (fun x hx => hb.same (hlt x hx)) hs
end Go.Proofs.Ytlbefiaieehcfaa
