/-
  A slice of pieces among a law's arguments: opened as a list of pieces, and read again behind the call. No condition.
-/
import Derived.Test.YtgamegbmikbncaaDoorBase
import Derived.Test.YtgamegbmikbncaaDoorPmem
import Derived.Deep.SlicePairs
import Derived.Carry
import Derived.ProofKit
namespace Go.Proofs.YtgamegbmikbncaaDoor
open Go.RowKit Go.ChangeShapes Go.WideShapes Go.Deep

set_option maxRecDepth 100000 in
theorem open_pieces {H : Type} {enc : TypeId × Value → H} {W : World} {base : Nat} {v : Value} {d : DataW H} {p : List MemPlace} (hv : Value.okWide Tryd.prog W .any base 22 v)
    (h : DataW.Trod enc Tryd.prog W 0 (fun _ => true) true 22 v d p) :
    ∃ (A : Option Addr) (n c : Nat) (l : List (Int × UInt8)), v = .slice A n c ∧ n ≤ maxLen ∧ IsPcs W W.heap.size A n l := by
  obtain ⟨a0, len, cap, rfl⟩ := okWide_slice Tryd.underlying22 hv
  obtain ⟨fuel, hf⟩ := h
  rcases open_slice_pairs Tryd.underlying22 Tryd.underlying39 (by kernel_rfl) rfl rfl (by kernel_rfl) (by kernel_rfl) hf with ⟨hcs, _⟩ | ⟨a, len', cap', m, nn, V0, V1, D0, D1, P0, P1, hcs, _, hl, hm, hmm, _, hcell⟩
  · have e : (Value.slice a0 len cap).cells.toList = [.slice a0 len cap] := rfl
    rw [e] at hcs
    simp only [List.cons.injEq, Value.slice.injEq, and_true] at hcs
    obtain ⟨rfl, rfl, rfl⟩ := hcs
    exact ⟨none, 0, 0, [], rfl, by unfold maxLen; omega, IsPcs.nil⟩
  · have e : (Value.slice a0 len cap).cells.toList = [.slice a0 len cap] := rfl
    rw [e] at hcs
    simp only [List.cons.injEq, Value.slice.injEq, and_true] at hcs
    obtain ⟨rfl, rfl, rfl⟩ := hcs
    rw [if_pos rfl] at hmm
    have each : ∀ i, i < len → ∃ q : Int × UInt8, W.cell? (a.add (i * 2)) = some (.int .i64 q.1) ∧ W.cell? (a.add (i * 2 + 1)) = some (.int .u8 (q.2.toNat : Int)) := by
      intro i hi
      obtain ⟨h0, h1, t0, t1⟩ := hcell i (by omega)
      obtain ⟨x, hx, _, _⟩ := DataW.trod_int Tryd.underlying3 t0
      obtain ⟨y, hy, _, hw⟩ := DataW.trod_int Tryd.underlying5 t1
      simp only [List.cons.injEq, and_true] at hx hy
      obtain ⟨ch, rfl⟩ := byte_of hw
      exact ⟨(x, ch), by rw [h0, hx], by rw [h1, hy]⟩
    obtain ⟨f, hf⟩ : ∃ f : Nat → Int × UInt8, ∀ i, i < len → W.cell? (a.add (i * 2)) = some (.int .i64 (f i).1) ∧ W.cell? (a.add (i * 2 + 1)) = some (.int .u8 ((f i).2.toNat : Int)) := by
      refine ⟨fun i => if h : i < len then Classical.choose (each i h) else (0, 0), fun i hi => ?_⟩
      simp only [hi, dite_true]
      exact Classical.choose_spec (each i hi)
    refine ⟨some a, len, cap, (List.range len).map f, rfl, by omega, by simp, fun h0 => ?_⟩
    have h1 := (hf 0 h0).1
    have hsp : a.spot = none := by
      cases es : a.spot with
      | none => rfl
      | some x =>
        have : (a.add (0 * 2)).spot = some x := by simp [Addr.add, es]
        simp [World.cell?, this] at h1
        split at h1 <;> simp at h1
    have ha : a = ⟨a.block, a.off, none⟩ := by cases a; simp at hsp; simp [hsp]
    have hadd : ∀ j, a.add j = ⟨a.block, a.off + j, none⟩ := fun j => by
      rw [ha]; by_cases e : j = 0 <;> simp [Addr.add, e]
    refine ⟨a.block, a.off, by rw [← ha], ?_, fun j hj => ?_⟩
    · rcases Nat.lt_or_ge a.block W.heap.size with h' | h'
      · exact h'
      · rw [hadd] at h1
        simp [World.cell?, Array.getElem?_eq_none h'] at h1
    · have := hf j hj
      rw [hadd, hadd] at this
      have e2 : ((List.range len).map f).getD j (0, 0) = f j := by simp [List.getD_eq_getElem?_getD, hj]
      rw [e2]
      exact this
set_option maxRecDepth 100000 in
theorem stay_pieces {H : Type} {enc : TypeId × Value → H} {W W' : World} {v : Value} {d : DataW H} {p : List MemPlace} (h : DataW.Trod enc Tryd.prog W 0 (fun _ => true) true 22 v d p) (hb : Below W.heap.size W W')
    (hlt : ∀ x ∈ p, x.block < W.heap.size) (sp : Nat → Bool) (hs : ∀ x ∈ p, sp x.block = true) : DataW.Trod enc Tryd.prog W' 0 sp true 22 v d p :=
  WideElems.Trod_stays (by kernel_rfl) (by kernel_rfl) (of_decide_eq_true (by kernel_rfl)) h (fun x hx => hb.same (hlt x hx)) hs
end Go.Proofs.YtgamegbmikbncaaDoor
