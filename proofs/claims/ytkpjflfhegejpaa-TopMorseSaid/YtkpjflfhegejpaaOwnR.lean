/-
  'append' onto a slice of the call's own of anything, as one step of a region that draws its order. No condition.
-/
import Derived.Test.YtkpjflfhegejpaaOwn
import Derived.Deep.RegionLaw
namespace Go.Proofs.Ytkpjflfhegejpaa
open Go.RowKit

theorem run_append_x {P : Program} (wr : World) (t ty : TypeId) (base : Nat) (e : TypeId) (i : TypeInfo)
    {α : Type} (enc : α → List Value) (sz : Nat) (z : Value) (bytes : Nat) (hs0 : ∀ x, (enc x).length = sz) (hone : ∀ x, ∀ u ∈ enc x, u.oneCell' = true) (hpos : 0 < sz) (hby0 : bytes ≤ 64)
    (ht : P.underlying t = some (.slice e)) (hi : P.info? e = some i) (hz : i.zero = some z) (hsize : i.size = sz) (hby : i.bytes = bytes) (hzs : z.cells.size = sz)
    (v : Value) (cs : List α) (hown : OwnX enc sz wr base e v cs) (k : α) (hlen : cs.length ≤ 1099511627776) (hbase : base ≤ wr.heap.size) :
    ∃ v' w', (Builtin.append_ #[t, t] ty #[v, .slice (some ⟨wr.heap.size, 0, none⟩) 1 1]).run P (wr.alloc (.cells (enc k).toArray e)) = .ok v' w' ∧ OwnX enc sz w' base e v' (cs ++ [k]) ∧ Turn wr w' v v' := by
  obtain ⟨v', w', hr, ho, hg, _, hat⟩ := run_append_own_at (P := P) (wr.alloc (.cells (enc k).toArray e)) base t ty e i z sz bytes ht hi hz hsize hby hzs hpos v _ _ (World.ownsRow.alloc hown _) ⟨wr.heap.size, 0, none⟩ 1 1 (enc k) (by rw [hs0]; omega) (fun j u hj => by
      have hadd : (⟨wr.heap.size, 0, none⟩ : Addr).add j = ⟨wr.heap.size, j, none⟩ := by
        by_cases h : j = 0 <;> simp [Addr.add, h]
      rw [hadd, cell_of_row _ _ j _ e (0, 0) (heap_alloc_new wr _)]
      simpa using hj) (hone k) (by unfold maxLen; omega) (by
      have h1 : (cs.length + 1) * bytes ≤ (1099511627776 + 1) * 64 := Nat.mul_le_mul (by omega) hby0
      omega) (by simp; omega)
  refine ⟨v', w', hr, ?_, hg.os, hg.tape, hg.output, Nat.le_trans (by simp) hg.size, fun j hj hne => (hg.block j (by simp; omega) hne).trans (Below.heap_alloc _ _ j hj), ?_⟩
  · unfold OwnX
    rw [List.flatMap_append, List.length_append]
    simpa using ho
  · rcases hat with hat | hat
    · exact .inl hat
    · exact .inr ⟨_, hat, by simp⟩
theorem step_append_x {P : Program} {ops : Array Oper} {o : Oper} {a : Act} {K : Act → World → Prop} {Q : Exit → Act → World → Prop} {E : Prop} (wr : World) (hg : o.guard = none) (s x : Operand) (t : TypeId)
    (hop : o.op = .call { callee := .builtin .append, args := #[s, x], argTypes := #[t, t] }) (base : Nat) (e : TypeId) (i : TypeInfo)
    {α : Type} (enc : α → List Value) (sz : Nat) (z : Value) (bytes : Nat) (hs0 : ∀ x, (enc x).length = sz) (hone : ∀ x, ∀ u ∈ enc x, u.oneCell' = true) (hpos : 0 < sz) (hby0 : bytes ≤ 64)
    (ht : P.underlying t = some (.slice e)) (hi : P.info? e = some i) (hz : i.zero = some z) (hsize : i.size = sz) (hby : i.bytes = bytes) (hzs : z.cells.size = sz)
    (v : Value) (cs : List α) (hs : a.eval s = v) (hown : OwnX enc sz wr base e v cs) (k : α) (hx : a.eval x = .slice (some ⟨wr.heap.size, 0, none⟩) 1 1)
    (hlen : cs.length ≤ 1099511627776) (hbase : base ≤ wr.heap.size)
    (hK : ∀ v' w', OwnX enc sz w' base e v' (cs ++ [k]) → Turn wr w' v v' → K (a.put o.dst v') w') :
    if Region.wanted o (yielded ops a.tmps) = true then Oper.wp P o a (wr.alloc (.cells (enc k).toArray e)) K Q else E := by
  have hw : Region.wanted o (yielded ops a.tmps) = true := by simp [Region.wanted, hg]
  rw [if_pos hw]
  obtain ⟨v', w', hr, h1, h2⟩ := run_append_x (P := P) wr t o.type base e i enc sz z bytes hs0 hone hpos hby0 ht hi hz hsize hby hzs v cs hown k hlen hbase
  unfold Oper.wp execOp
  simp only [hop, resolve, invoke, builtin, Sem.run_bind, Sem.run_pure, Result.andThen_ok, List.map_toArray, List.map_cons, List.map_nil, hs, hx, hr]
  exact hK v' w' h1 h2
end Go.Proofs.Ytkpjflfhegejpaa
