/-
  Plain facts on memory: 'out = append(out, xs...)' of a whole slice of anything, out nil or the call's own, xs nil or a slice whose cells are known. No condition.
-/
import Derived.Test.YtdhklkpeepmedaaDoorOwn
import Derived.Laws.AppendOwnNone
namespace Go.Proofs.YtdhklkpeepmedaaDoor
open Go.RowKit

/-- A slice value that reads as the things xs, each laid as enc says in sz cells: nil, or at a row's head below the heap's end. -/
def RdX {α : Type} (enc : α → List Value) (sz : Nat) (w : World) (v : Value) (xs : List α) : Prop :=
  (xs = [] ∧ v = .slice none 0 0) ∨ ∃ g c, v = .slice (some ⟨g, 0, none⟩) xs.length c ∧ g < w.heap.size ∧ ∀ j (hj : j < xs.length) m, m < sz → w.cell? ⟨g, j * sz + m, none⟩ = (enc xs[j])[m]?
section
variable {α : Type} {enc : α → List Value} {sz : Nat} {v : Value} {xs : List α}
theorem RdX.nil (enc : α → List Value) (sz : Nat) (w : World) : RdX enc sz w (.slice none 0 0) [] := .inl ⟨rfl, rfl⟩
theorem RdX.below {w w' : World} (h : RdX enc sz w v xs) (hb : Below w.heap.size w w') : RdX enc sz w' v xs := by
  rcases h with h | ⟨g, c, hv, hg, hc⟩
  · exact .inl h
  · exact .inr ⟨g, c, hv, by have := hb.size; omega, fun j hj m hm => (hb.cell hg).trans (hc j hj m hm)⟩
theorem RdX.drewN {w : World} (h : RdX enc sz w v xs) (q : Nat) : RdX enc sz (w.drewN q) v xs := h
theorem RdX.of_own {w : World} {base : Nat} {e : TypeId} (hs : ∀ x, (enc x).length = sz) (h : OwnX enc sz w base e v xs) (h0 : 0 < xs.length) : RdX enc sz w v xs := by
  obtain ⟨A, c, rfl, _, hr⟩ := h.read hs
  obtain ⟨g, rfl, _, hg, hc⟩ := hr h0
  exact .inr ⟨g, c, rfl, hg, hc⟩
/-- Its shape. -/
theorem RdX.shape {w : World} (h : RdX enc sz w v xs) : ∃ A c, v = .slice A xs.length c := by
  rcases h with ⟨rfl, rfl⟩ | ⟨g, c, rfl, _⟩
  · exact ⟨none, 0, rfl⟩
  · exact ⟨_, c, rfl⟩
end
theorem flatX_len {α : Type} {enc : α → List Value} {sz : Nat} (hs : ∀ x, (enc x).length = sz) (xs : List α) : (xs.flatMap enc).length = xs.length * sz := by
  induction xs with
  | nil => simp
  | cons x xs ih => rw [List.flatMap_cons, List.length_append, ih, hs, List.length_cons, Nat.succ_mul]; omega
/-- 'out = append(out, xs...)'. -/
theorem wpList_append_xs {P : Program} (wr : World) {ops : Array Oper} {rest : List Oper} {o : Oper} {a : Act} {Q : Exit → Act → World → Prop} (hgd : o.guard = none) (s x : Operand) (t : TypeId)
    (ho : o.op = .call { callee := .builtin .append, args := #[s, x], argTypes := #[t, t] }) (base : Nat) (e : TypeId) (i : TypeInfo)
    {α : Type} (enc : α → List Value) (sz : Nat) (z : Value) (bytes : Nat) (hs0 : ∀ x, (enc x).length = sz) (hone : ∀ x, ∀ u ∈ enc x, u.oneCell' = true) (hpos : 0 < sz) (hby0 : bytes ≤ 64)
    (ht : P.underlying t = some (.slice e)) (hi : P.info? e = some i) (hz : i.zero = some z) (hsize : i.size = sz) (hby : i.bytes = bytes) (hzs : z.cells.size = sz)
    (v : Value) (cs : List α) (hs : a.eval s = v) (hown : OwnX enc sz wr base e v cs) (y : Value) (xs : List α) (hx : a.eval x = y) (hy : RdX enc sz wr y xs)
    (hlen : cs.length + xs.length ≤ 1099511627776) (hbase : base ≤ wr.heap.size)
    (h : ∀ v' w', OwnX enc sz w' base e v' (cs ++ xs) → Turn wr w' v v' → wpList P ops Q rest (a.put o.dst v') w') :
    wpList P ops Q (o :: rest) a wr := by
  have h1 : (cs.length + xs.length) * bytes ≤ 1099511627776 * 64 := Nat.mul_le_mul hlen hby0
  rcases hy with ⟨rfl, rfl⟩ | ⟨g, c, rfl, hg, hc⟩
  · exact wpList_append_own_none hgd s x t ho base e i sz ht hi v _ _ hs hown hx (h v wr (by rw [List.append_nil]; exact hown) ⟨rfl, rfl, rfl, Nat.le_refl _, fun _ _ _ => rfl, .inl rfl⟩)
  · refine wpList_append_own_at _ hgd s x t ho base e i z sz bytes ht hi hz hsize hby hzs hpos v _ _ hs hown ⟨g, 0, none⟩ xs.length c (xs.flatMap enc) hx (flatX_len hs0 xs) ?_ ?_ ?_ ?_ hbase ?_
    · intro j u hj
      have hlt : j < xs.length * sz := by
        have := (List.getElem?_eq_some_iff.1 hj).1
        rwa [flatX_len hs0] at this
      have hadd : (⟨g, 0, none⟩ : Addr).add j = ⟨g, j, none⟩ := by
        by_cases h : j = 0 <;> simp [Addr.add, h]
      have hdiv : j / sz < xs.length := (Nat.div_lt_iff_lt_mul hpos).2 hlt
      have hmod := Nat.mod_lt j hpos
      have hj2 : j / sz * sz + j % sz = j := Nat.div_add_mod' j sz
      have h2 := hc (j / sz) hdiv (j % sz) hmod
      have h3 := flatX_get hs0 xs (j / sz) hdiv (j % sz) hmod
      rw [hj2] at h2 h3
      rw [hadd, h2, ← h3, hj]
    · intro u hu
      obtain ⟨x, _, hx⟩ := List.mem_flatMap.1 hu
      exact hone x u hx
    · unfold maxLen; omega
    · omega
    · intro v' w' ho hg _ hat
      refine h v' w' ?_ ⟨hg.os, hg.tape, hg.output, hg.size, fun j hj hne => hg.block j hj hne, ?_⟩
      · unfold OwnX
        rw [List.flatMap_append, List.length_append]
        exact ho
      · rcases hat with hat | hat
        · exact .inl hat
        · exact .inr ⟨_, hat, Nat.le_refl _⟩
end Go.Proofs.YtdhklkpeepmedaaDoor
