/-
  Plain facts on memory: two slices of the call's own, appended to by turns, neither touching the other. No condition.
-/
import Derived.Test.YtdhklkpeepmedaaDoorApart
namespace Go.Proofs.YtdhklkpeepmedaaDoor
open Go.RowKit

/-- Two slice values that share no row. -/
def Apt (v u : Value) : Prop := ∀ b, v.ownBlock = some b → u.ownBlock ≠ some b
theorem Apt.symm {v u : Value} (h : Apt v u) : Apt u v := fun b hb hv => h b hv hb
theorem Apt.nil (u : Value) : Apt (.slice none 0 0) u := fun b hb => by cases hb

/-- 'out = append(out, k)', out and another slice the call's own and apart: the other one stays, and they are apart still. -/
theorem wpList_append_two {P : Program} (wr : World) {ops : Array Oper} {rest : List Oper} {o : Oper} {a : Act} {Q : Exit → Act → World → Prop} (hgd : o.guard = none) (s x : Operand) (t : TypeId)
    (ho : o.op = .call { callee := .builtin .append, args := #[s, x], argTypes := #[t, t] }) (base : Nat) (e : TypeId) (i : TypeInfo)
    (ht : P.underlying t = some (.slice e)) (hi : P.info? e = some i) (hz : i.zero = some (.int .i64 0)) (hsize : i.size = 1) (hby : i.bytes = 8)
    (v : Value) (cs : List Int) (hs : a.eval s = v) (hown : OwnI wr base e v cs) (k : Int) (hx : a.eval x = .slice (some ⟨wr.heap.size, 0, none⟩) 1 1)
    (hlen : cs.length ≤ 1099511627776) (hbase : base ≤ wr.heap.size) (u : Value) (ys : List Int) (hu : OwnI wr base e u ys) (hap : Apt v u)
    (h : ∀ v' w', OwnI w' base e v' (cs ++ [k]) → OwnI w' base e u ys → Apt v' u → Below base wr w' → wpList P ops Q rest (a.put o.dst v') w') :
    wpList P ops Q (o :: rest) a (wr.alloc (.cells #[.int .i64 k] e)) := by
  have hu2 := hu
  rcases hu.2 with ⟨rfl, hn⟩ | ⟨g, cap, cur, rfl, hg, hh, hr⟩
  · refine wpList_append_apart wr hgd s x t ho base e i ht hi hz hsize hby v cs hs hown k hx hlen hbase 0 0 (fun b _ => .inr (Nat.zero_le _)) (Nat.zero_le _) ?_
    intro v' w' h1 h2 _ _
    exact h v' w' h1 ⟨hu2.1, .inl ⟨rfl, hn⟩⟩ (fun b _ hb => by cases hb) h2
  · have hlt : g < wr.heap.size := by
      rcases Nat.lt_or_ge g wr.heap.size with hlt | hge
      · exact hlt
      · rw [Array.getElem?_eq_none hge] at hh; cases hh
    refine wpList_append_apart wr hgd s x t ho base e i ht hi hz hsize hby v cs hs hown k hx hlen hbase g (g + 1) (fun b hb => ?_) (by omega) ?_
    · have := hap b hb
      have hne : g ≠ b := fun e => this (by rw [← e]; rfl)
      omega
    · intro v' w' h1 h2 h3 h4
      refine h v' w' h1 ⟨hu2.1, .inr ⟨g, cap, cur, rfl, hg, by rw [h4 g (by omega) (by omega)]; exact hh, hr⟩⟩ (fun b hb hb' => ?_) h2
      have hgb : g = b := by simpa [Value.ownBlock] using hb'
      have := h3 b hb
      omega
end Go.Proofs.YtdhklkpeepmedaaDoor
