/-
  Plain facts on memory: a slice of heaps (a weight and a slice of places each) of the call's own that grows by append, and heaps read by places. No condition.
-/
import Derived.Test.YtjllgehhdhcobaaDoorHmem
namespace Go.Proofs.YtjllgehhdhcobaaDoor
open Go.RowKit

/-- The slice value '.slice A n _' holds the heaps ts. -/
def IsTrees (w : World) (B : Nat) (A : Option Addr) (n : Nat) (ts : List Tr) : Prop :=
  ts.length = n ∧ (0 < n → ∃ g, A = some ⟨g, 0, none⟩ ∧ g < B ∧ ∀ j, j < n → w.cell? ⟨g, j * 2, none⟩ = some (.int .i64 (ts.getD j tz).1) ∧ w.cell? ⟨g, j * 2 + 1, none⟩ = some (sv (ts.getD j tz)))
/-- A slice of heaps of the call's own. Shut for the walk. -/
def OwnT (w : World) (base : Nat) (e : TypeId) (v : Value) (ts : List Tr) : Prop := w.ownsRow base e 2 v ts.length (ts.flatMap encT)
theorem OwnT.nil (w : World) (base : Nat) (e : TypeId) : OwnT w base e (.slice none 0 0) [] := World.ownsRow_nil _ _ _ _
theorem OwnT.base {w : World} {b b' : Nat} {e : TypeId} {v : Value} {ts : List Tr} (h : OwnT w b e v ts) (hb : b' ≤ b) : OwnT w b' e v ts := by
  refine ⟨h.1, ?_⟩
  rcases h.2 with h' | ⟨g, cap, cur, h1, h2, h3⟩
  · exact .inl h'
  · exact .inr ⟨g, cap, cur, h1, by omega, h3⟩
theorem OwnT.lt {w : World} {base : Nat} {e : TypeId} {v : Value} {ts : List Tr} (h : OwnT w base e v ts) {b : Nat} (hb : v.ownBlock = some b) : base ≤ b ∧ b < w.heap.size := World.ownsRow.lt h b hb
theorem OwnT.chg {S : Nat → Prop} {w w' : World} {base : Nat} {e : TypeId} {v : Value} {ts : List Tr} (h : OwnT w base e v ts) (hc : Chg S w w') (hn : ∀ b, v.ownBlock = some b → ¬ S b) : OwnT w' base e v ts := by
  refine ⟨h.1, ?_⟩
  have hlt := fun b => World.ownsRow.lt h b
  rcases h.2 with h' | ⟨g, cap, cur, h1, h2, h3, h4⟩
  · exact .inl h'
  · subst h1
    exact .inr ⟨g, cap, cur, rfl, h2, by rw [hc.block g (hlt g rfl).2 (hn g rfl)]; exact h3, h4⟩
theorem OwnT.below {w w' : World} {base B : Nat} {e : TypeId} {v : Value} {ts : List Tr} (h : OwnT w base e v ts) (hb : Below B w w') (hB : w.heap.size ≤ B) : OwnT w' base e v ts :=
  h.chg (S := fun _ => False) ⟨hb.os, hb.tape, hb.output, hb.size, fun b hlt _ => hb.block b (by omega)⟩ (fun _ _ h => h)
theorem OwnT.trees {w : World} {base : Nat} {e : TypeId} {v : Value} {ts : List Tr} (h : OwnT w base e v ts) :
    ∃ A c, v = .slice A ts.length c ∧ IsTrees w w.heap.size A ts.length ts := by
  have hlt := fun b => World.ownsRow.lt h b
  unfold OwnT at h
  rcases h.2 with ⟨rfl, h0⟩ | ⟨g, cap, cur, rfl, hg, hh, hnc, hcm, hcs, htk⟩
  · exact ⟨none, 0, by rw [h0], rfl, fun h => absurd h (by omega)⟩
  · refine ⟨_, _, rfl, rfl, fun hn => ⟨g, rfl, (hlt g rfl).2, fun j hj => ?_⟩⟩
    have hf := flatT_get ts j hj
    rw [h.cellAt (j * 2) (by omega), h.cellAt (j * 2 + 1) (by omega)]
    exact hf
theorem IsTrees.keep {w w' : World} {B B' n : Nat} {A : Option Addr} {ts : List Tr} (h : IsTrees w B A n ts) (hB : B ≤ B') (hk : ∀ b o, b < B → w'.cell? ⟨b, o, none⟩ = w.cell? ⟨b, o, none⟩) : IsTrees w' B' A n ts :=
  ⟨h.1, fun hn => by
    obtain ⟨g, e, hg, hc⟩ := h.2 hn
    exact ⟨g, e, by omega, fun j hj => ⟨(hk _ _ hg).trans (hc j hj).1, (hk _ _ hg).trans (hc j hj).2⟩⟩⟩
theorem IsTrees.onto {w w' : World} {n : Nat} {A : Option Addr} {ts : List Tr} (h : IsTrees w w.heap.size A n ts) (hb : Below w.heap.size w w') : IsTrees w' w'.heap.size A n ts := h.keep hb.size fun _ _ hp => hb.cell hp
/-- Blocks that are new are no heap's. -/
theorem Leaves.fresh {S S' : Nat → Prop} {w w' : World} {ts : List Tr} (h : Leaves w S ts) (hb : Below w.heap.size w w') (hS : ∀ b, b < w.heap.size → S' b → S b) : Leaves w' S' ts := fun t ht => by
  obtain ⟨h0, hl, hs, hg, hx⟩ := h t ht
  exact ⟨h0, hl, fun hn => hs (hS _ hg hn), Nat.lt_of_lt_of_le hg hb.size, fun j hj => (hb.cell hg).trans (hx j hj)⟩
theorem Leaf.fresh {S S' : Nat → Prop} {w w' : World} {t : Tr} (h : Leaf w S t) (hb : Below w.heap.size w w') (hS : ∀ b, b < w.heap.size → S' b → S b) : Leaf w' S' t := by
  obtain ⟨h0, hl, hs, hg, hx⟩ := h
  exact ⟨h0, hl, fun hn => hs (hS _ hg hn), Nat.lt_of_lt_of_le hg hb.size, fun j hj => (hb.cell hg).trans (hx j hj)⟩

/-- 'ts = append(ts, t)', ts nil or the call's own: it alone turns, or lies in a new block. -/
theorem wpList_append_heap {P : Program} (wr : World) {ops : Array Oper} {rest : List Oper} {o : Oper} {a : Act} {Q : Exit → Act → World → Prop} (hgd : o.guard = none) (s x : Operand) (t : TypeId)
    (ho : o.op = .call { callee := .builtin .append, args := #[s, x], argTypes := #[t, t] }) (base : Nat) (e : TypeId) (i : TypeInfo)
    (ht : P.underlying t = some (.slice e)) (hi : P.info? e = some i) (hz : i.zero = some (.agg #[.int .i64 0, .slice none 0 0])) (hsize : i.size = 2) (hby : i.bytes = 32)
    (v : Value) (ts : List Tr) (hs : a.eval s = v) (hown : OwnT wr base e v ts) (k : Tr) (R : Nat) (hR : wr.heap.size = R) (hx : a.eval x = .slice (some ⟨R, 0, none⟩) 1 1)
    (hlen : ts.length ≤ 1000) (hbase : base ≤ wr.heap.size)
    (h : ∀ v' w', OwnT w' base e v' (ts ++ [k]) → Chg (fun b => v.ownBlock = some b) wr w' → (∀ b, v'.ownBlock = some b → v.ownBlock = some b ∨ wr.heap.size ≤ b) → wpList P ops Q rest (a.put o.dst v') w') :
    wpList P ops Q (o :: rest) a (wr.alloc (.cells #[.int .i64 k.1, sv k] e)) := by
  subst hR
  refine wpList_append_lies _ hgd s x t ho base e i (.agg #[.int .i64 0, .slice none 0 0]) 2 32 ht hi hz hsize hby rfl (by decide) v _ _ hs (World.ownsRow.alloc hown _) ⟨wr.heap.size, 0, none⟩ 1 1 [.int .i64 k.1, sv k] hx rfl ?_ ?_ (by decide) ?_ ?_ ?_ (wr.heap.size + 1) (by simp) ?_
  · intro j u hj
    match j, hj with
    | 0, hj => simp at hj; subst hj; simp [Addr.add]
    | 1, hj => simp at hj; subst hj; simp [Addr.add]
  · intro u hu
    simp at hu
    rcases hu with rfl | rfl <;> rfl
  · unfold maxLen; omega
  · omega
  · simp; omega
  · intro g cap w' ho hg hat _
    refine h _ w' (by unfold OwnT; rw [List.flatMap_append, List.length_append]; exact ho) ⟨hg.os, hg.tape, hg.output, Nat.le_trans (by simp) hg.size, fun b hb hn => ?_⟩ ?_
    · rw [hg.block b (by simp; omega) (fun e => hn e.symm)]
      exact Below.heap_alloc _ _ _ hb
    · intro b hb
      have hb : g = b := by simpa [Value.ownBlock] using hb
      subst hb
      rcases hat with hat | hat
      · exact .inl hat
      · right; omega
end Go.Proofs.YtjllgehhdhcobaaDoor
