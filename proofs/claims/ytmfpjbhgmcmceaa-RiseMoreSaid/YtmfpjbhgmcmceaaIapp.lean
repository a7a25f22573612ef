/-
  Plain facts on memory: 'out = append(out, l...)', out nil or the call's own, l any slice of numbers with a place. No condition.
-/
import Derived.Test.YtmfpjbhgmcmceaaMem
namespace Go.Proofs.Ytmfpjbhgmcmceaa
open Go.RowKit

theorem wpList_append_nums {P : Program} (wr : World) {ops : Array Oper} {rest : List Oper} {o : Oper} {a : Act} {Q : Exit → Act → World → Prop} (hgd : o.guard = none) (s x : Operand) (t : TypeId)
    (ho : o.op = .call { callee := .builtin .append, args := #[s, x], argTypes := #[t, t] }) (base : Nat) (e : TypeId) (i : TypeInfo)
    (ht : P.underlying t = some (.slice e)) (hi : P.info? e = some i) (hz : i.zero = some (.int .i64 0)) (hsize : i.size = 1) (hby : i.bytes = 8)
    (v : Value) (cs : List Int) (hs : a.eval s = v) (hown : OwnI wr base e v cs) (ad : Addr) (m c B : Nat) (xs : List Int) (hI : IsInts wr B (some ad) m xs) (hx : a.eval x = .slice (some ad) m c)
    (hlen : cs.length + m ≤ 1099511627776) (hbase : base ≤ wr.heap.size)
    (h : ∀ v' w', OwnI w' base e v' (cs ++ xs) → Below base wr w' → wpList P ops Q rest (a.put o.dst v') w') :
    wpList P ops Q (o :: rest) a wr := by
  have hm := hI.1
  refine wpList_append_own _ hgd s x t ho base e i (.int .i64 0) 1 8 ht hi hz hsize hby rfl (by decide) v _ _ hs hown ad m c (xs.map (Value.int .i64)) hx (by simp [hm]) ?_ ?_ ?_ ?_ hbase ?_
  · intro j u hj
    have hl : j < xs.length := by
      have := (List.getElem?_eq_some_iff.1 hj).1
      simpa using this
    obtain ⟨g, off, e1, _, hxs⟩ := hI.2 (by omega)
    injection e1 with e1
    subst e1
    rw [Addr.add_lit, hxs j (by omega)]
    simp [hl] at hj
    simp [hl, hj]
  · intro u hu
    obtain ⟨_, _, rfl⟩ := List.mem_map.1 hu
    rfl
  · unfold maxLen; omega
  · omega
  · intro v' w' ho hg _
    refine h v' w' (OwnI.mk_ (by rw [List.map_append, List.length_append, hm]; exact ho)) ((Below.refl base wr).grown hg hbase fun b hb => ?_)
    exact (World.ownsRow.lt hown b hb).1
end Go.Proofs.Ytmfpjbhgmcmceaa
