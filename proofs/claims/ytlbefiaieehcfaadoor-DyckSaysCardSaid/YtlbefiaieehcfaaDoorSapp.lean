/-
  Plain facts on memory: 'out = append(out, l...)', out nil or the call's own, l any slice of texts with a place. No condition.
-/
import Derived.Test.YtlbefiaieehcfaaDoorOwnS
import Derived.Test.YtlbefiaieehcfaaDoorStrs
namespace Go.Proofs.YtlbefiaieehcfaaDoor
open Go.RowKit

theorem wpList_append_strs {P : Program} (wr : World) {ops : Array Oper} {rest : List Oper} {o : Oper} {a : Act} {Q : Exit → Act → World → Prop} (hgd : o.guard = none) (s x : Operand) (t : TypeId)
    (ho : o.op = .call { callee := .builtin .append, args := #[s, x], argTypes := #[t, t] }) (base : Nat) (e : TypeId) (i : TypeInfo)
    (ht : P.underlying t = some (.slice e)) (hi : P.info? e = some i) (hz : i.zero = some (.string ByteArray.empty)) (hsize : i.size = 1) (hby : i.bytes = 16)
    (v : Value) (cs : List ByteArray) (hs : a.eval s = v) (hown : OwnS wr base e v cs) (ad : Addr) (m c B : Nat) (xs : List ByteArray) (hI : IsStrs wr B (some ad) m xs) (hx : a.eval x = .slice (some ad) m c)
    (hlen : cs.length + m ≤ 1099511627776) (hbase : base ≤ wr.heap.size)
    (h : ∀ v' w', OwnS w' base e v' (cs ++ xs) → Below base wr w' → wpList P ops Q rest (a.put o.dst v') w') :
    wpList P ops Q (o :: rest) a wr := by
  have hm := hI.1
  refine wpList_append_own _ hgd s x t ho base e i (.string ByteArray.empty) 1 16 ht hi hz hsize hby rfl (by decide) v _ _ hs hown ad m c (xs.map (Value.string)) hx (by simp [hm]) ?_ ?_ ?_ ?_ hbase ?_
  · intro j u hj
    have hl : j < xs.length := by
      have := (List.getElem?_eq_some_iff.1 hj).1
      simpa using this
    obtain ⟨g, off, e1, _, hxs⟩ := hI.2 (by omega)
    injection e1 with e1
    subst e1
    rw [Addr.add_lit, hxs j (by omega)]
    simp [hl] at hj
    simp [hl, hj]
  · intro u hu
    obtain ⟨_, _, rfl⟩ := List.mem_map.1 hu
    rfl
  · unfold maxLen; omega
  · omega
  · intro v' w' ho hg _
    refine h v' w' (OwnS.mk_ (by rw [List.map_append, List.length_append, hm]; exact ho)) ((Below.refl base wr).grown hg hbase fun b hb => ?_)
    exact (World.ownsRow.lt hown b hb).1
end Go.Proofs.YtlbefiaieehcfaaDoor
