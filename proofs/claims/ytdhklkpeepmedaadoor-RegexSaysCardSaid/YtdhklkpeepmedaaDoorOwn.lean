/-
  Plain facts on slices of the call's own, whatever they hold: what is kept, 'append', and several of them that grow by turns. No condition.
-/
import Derived.Test.YtdhklkpeepmedaaDoorTwo
import Derived.Maps.AppendAt
namespace Go.Proofs.YtdhklkpeepmedaaDoor
open Go.RowKit

/-- A slice value that is the call's own and holds the things xs, each laid as enc says, in sz cells. Shut for the walk. -/
def OwnX {α : Type} (enc : α → List Value) (sz : Nat) (w : World) (base : Nat) (e : TypeId) (v : Value) (xs : List α) : Prop := w.ownsRow base e sz v xs.length (xs.flatMap enc)
section
variable {α : Type} {enc : α → List Value} {sz base : Nat} {e : TypeId} {v : Value} {xs : List α}
theorem OwnX.nil (enc : α → List Value) (sz : Nat) (w : World) (base : Nat) (e : TypeId) : OwnX enc sz w base e (.slice none 0 0) [] := World.ownsRow_nil _ _ _ _
theorem OwnX.keep {w w' : World} (h : OwnX enc sz w base e v xs) (hk : ∀ b, v.ownBlock = some b → w'.heap[b]? = w.heap[b]?) : OwnX enc sz w' base e v xs := by
  refine ⟨h.1, ?_⟩
  rcases h.2 with h' | ⟨g, cap, cur, rfl, h2, h3, h4⟩
  · exact .inl h'
  · exact .inr ⟨g, cap, cur, rfl, h2, (hk g rfl).trans h3, h4⟩
theorem OwnX.lt {w : World} (h : OwnX enc sz w base e v xs) {b : Nat} (hb : v.ownBlock = some b) : base ≤ b ∧ b < w.heap.size := World.ownsRow.lt h b hb
theorem OwnX.below {w w' : World} {B : Nat} (h : OwnX enc sz w base e v xs) (hb : Below B w w') (hB : w.heap.size ≤ B) : OwnX enc sz w' base e v xs :=
  h.keep fun b hv => hb.block b (by have := (h.lt hv).2; omega)
theorem OwnX.drewN {w : World} (h : OwnX enc sz w base e v xs) (q : Nat) : OwnX enc sz (w.drewN q) base e v xs := h
/-- A literal, as it has just been laid. -/
theorem OwnX.lit (w : World) (base : Nat) (e : TypeId) (xs : List α) (cs : Array Value) (h : cs = (xs.flatMap enc).toArray) (hl : (xs.flatMap enc).length = xs.length * sz) (hb : base ≤ w.heap.size) (hm : xs.length ≤ maxLen) :
    OwnX enc sz (w.alloc (.cells cs e)) base e (.slice (some ⟨w.heap.size, 0, none⟩) xs.length xs.length) xs := by
  subst h
  exact ⟨hl, .inr ⟨w.heap.size, xs.length, _, rfl, hb, heap_alloc_new w _, Nat.le_refl _, hm, by simpa using hl, List.take_of_length_le (by simp [hl])⟩⟩
theorem flatX_get (hs : ∀ x, (enc x).length = sz) (xs : List α) : ∀ j (h : j < xs.length) m, m < sz → (xs.flatMap enc)[j * sz + m]? = (enc xs[j])[m]? := by
  induction xs with
  | nil => intro j hj; exact absurd hj (by simp)
  | cons x xs ih =>
    intro j hj m hm
    rw [List.flatMap_cons]
    cases j with
    | zero =>
      rw [Nat.zero_mul, Nat.zero_add, List.getElem?_append_left (by rw [hs]; exact hm)]
      rfl
    | succ j =>
      rw [List.getElem?_append_right (by rw [hs, Nat.succ_mul]; omega), hs, show (j + 1) * sz + m - sz = j * sz + m by rw [Nat.succ_mul]; omega]
      exact ih j (by simpa using hj) m hm
/-- How it reads. -/
theorem OwnX.read {w : World} (hs : ∀ x, (enc x).length = sz) (h : OwnX enc sz w base e v xs) :
    ∃ A c, v = .slice A xs.length c ∧ xs.length ≤ c ∧ (0 < xs.length → ∃ g, A = some ⟨g, 0, none⟩ ∧ base ≤ g ∧ g < w.heap.size ∧ ∀ j (hj : j < xs.length) m, m < sz → w.cell? ⟨g, j * sz + m, none⟩ = (enc xs[j])[m]?) := by
  unfold OwnX at h
  have key : ∀ n, n = xs.length → w.ownsRow base e sz v n (xs.flatMap enc) → ∃ A c, v = .slice A n c ∧ n ≤ c ∧ (0 < n → ∃ g, A = some ⟨g, 0, none⟩ ∧ base ≤ g ∧ g < w.heap.size ∧ ∀ j (hj : j < xs.length) m, m < sz → w.cell? ⟨g, j * sz + m, none⟩ = (enc xs[j])[m]?) := ?_
  · exact key _ rfl h
  clear h
  intro n hn h
  rcases h.2 with ⟨rfl, h0⟩ | ⟨g, cap, cur, rfl, hg, hh, hnc, hcm, hcs, htk⟩
  · exact ⟨none, 0, by rw [h0], by omega, fun h => absurd h (by omega)⟩
  · refine ⟨_, _, rfl, hnc, fun hn0 => ⟨g, rfl, hg, ?_, fun j hj m hm => ?_⟩⟩
    · rcases Nat.lt_or_ge g w.heap.size with hlt | hge
      · exact hlt
      · rw [Array.getElem?_eq_none hge] at hh; cases hh
    · have hlt : j * sz + m < n * sz := by
        have h1 : (j + 1) * sz ≤ n * sz := Nat.mul_le_mul_right _ (by omega)
        rw [Nat.succ_mul] at h1; omega
      rw [h.cellAt _ hlt]
      exact flatX_get hs xs j hj m hm
end

/-- What has turned is the value's own row, or it is new. -/
structure Turn (w w' : World) (v v' : Value) : Prop where
  os : w'.os = w.os
  tape : w'.tape = w.tape
  output : w'.output = w.output
  size : w.heap.size ≤ w'.heap.size
  block : ∀ j, j < w.heap.size → some j ≠ v.ownBlock → w'.heap[j]? = w.heap[j]?
  here : v'.ownBlock = v.ownBlock ∨ ∃ g, v'.ownBlock = some g ∧ w.heap.size ≤ g
theorem Turn.below {w w' : World} {v v' : Value} {B : Nat} (h : Turn w w' v v') (hB : B ≤ w.heap.size) (hv : ∀ b, v.ownBlock = some b → B ≤ b) : Below B w w' :=
  ⟨h.os, h.tape, h.output, h.size, fun k hk => h.block k (by omega) (fun e => by have := hv k e.symm; omega)⟩
/-- Another one stays, and they are apart still. -/
theorem OwnX.turn {α : Type} {enc : α → List Value} {sz base : Nat} {e : TypeId} {xs : List α} {w w' : World} {u v v' : Value} (h : OwnX enc sz w base e u xs) (ht : Turn w w' v v') (ha : Apt v u) : OwnX enc sz w' base e u xs ∧ Apt v' u := by
  refine ⟨h.keep fun b hb => ht.block b (h.lt hb).2 fun e => ha b e.symm hb, fun b hv' hu => ?_⟩
  rcases ht.here with e | ⟨g, e, hg⟩
  · exact ha b (by rw [← e]; exact hv') hu
  · have := (h.lt hu).2
    rw [e] at hv'
    injection hv' with hv'
    omega
/-- 'out = append(out, k)', out nil or the call's own. -/
theorem wpList_append_x {P : Program} (wr : World) {ops : Array Oper} {rest : List Oper} {o : Oper} {a : Act} {Q : Exit → Act → World → Prop} (hgd : o.guard = none) (s x : Operand) (t : TypeId)
    (ho : o.op = .call { callee := .builtin .append, args := #[s, x], argTypes := #[t, t] }) (base : Nat) (e : TypeId) (i : TypeInfo)
    {α : Type} (enc : α → List Value) (sz : Nat) (z : Value) (bytes : Nat) (hs0 : ∀ x, (enc x).length = sz) (hone : ∀ x, ∀ u ∈ enc x, u.oneCell' = true) (hpos : 0 < sz) (hby0 : bytes ≤ 64)
    (ht : P.underlying t = some (.slice e)) (hi : P.info? e = some i) (hz : i.zero = some z) (hsize : i.size = sz) (hby : i.bytes = bytes) (hzs : z.cells.size = sz)
    (v : Value) (cs : List α) (hs : a.eval s = v) (hown : OwnX enc sz wr base e v cs) (k : α) (hx : a.eval x = .slice (some ⟨wr.heap.size, 0, none⟩) 1 1)
    (hlen : cs.length ≤ 1099511627776) (hbase : base ≤ wr.heap.size)
    (h : ∀ v' w', OwnX enc sz w' base e v' (cs ++ [k]) → Turn wr w' v v' → wpList P ops Q rest (a.put o.dst v') w') :
    wpList P ops Q (o :: rest) a (wr.alloc (.cells (enc k).toArray e)) := by
  refine wpList_append_own_at _ hgd s x t ho base e i z sz bytes ht hi hz hsize hby hzs hpos v _ _ hs (World.ownsRow.alloc hown _) ⟨wr.heap.size, 0, none⟩ 1 1 (enc k) hx (by rw [hs0]; omega) ?_ (hone k) ?_ ?_ ?_ ?_
  · intro j u hj
    have hadd : (⟨wr.heap.size, 0, none⟩ : Addr).add j = ⟨wr.heap.size, j, none⟩ := by
      by_cases h : j = 0 <;> simp [Addr.add, h]
    rw [hadd, cell_of_row _ _ j _ e (0, 0) (heap_alloc_new wr _)]
    simpa using hj
  · unfold maxLen; omega
  · have h1 : (cs.length + 1) * bytes ≤ (1099511627776 + 1) * 64 := Nat.mul_le_mul (by omega) hby0
    omega
  · simp; omega
  · intro v' w' ho hg _ hat
    refine h v' w' ?_ ⟨hg.os, hg.tape, hg.output, Nat.le_trans (by simp) hg.size, fun j hj hne => (hg.block j (by simp; omega) hne).trans (Below.heap_alloc _ _ j hj), ?_⟩
    · unfold OwnX
      rw [List.flatMap_append, List.length_append]
      simpa using ho
    · rcases hat with hat | hat
      · exact .inl hat
      · exact .inr ⟨_, hat, by simp⟩
end Go.Proofs.YtdhklkpeepmedaaDoor
