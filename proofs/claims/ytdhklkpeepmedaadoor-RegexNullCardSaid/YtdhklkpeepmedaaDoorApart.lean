/-
  Plain facts on memory: two slices of the call's own that lie apart: an append onto the one leaves the other as it was. No condition.
-/
import Derived.Test.YtdhklkpeepmedaaDoorMem
import Derived.Deep.AppendLies
namespace Go.Proofs.YtdhklkpeepmedaaDoor
open Go.RowKit

/-- The value's row, if it has one, lies outside the blocks from lo to hi. -/
def Out (v : Value) (lo hi : Nat) : Prop := ∀ b, v.ownBlock = some b → b < lo ∨ hi ≤ b
/-- The blocks from lo to hi are as they were. -/
def Kept (lo hi : Nat) (w w' : World) : Prop := ∀ b, lo ≤ b → b < hi → w'.heap[b]? = w.heap[b]?
theorem Kept.refl (lo hi : Nat) (w : World) : Kept lo hi w w := fun _ _ _ => rfl
theorem Kept.trans {lo hi : Nat} {a b c : World} (h : Kept lo hi a b) (k : Kept lo hi b c) : Kept lo hi a c := fun i h1 h2 => (k i h1 h2).trans (h i h1 h2)
theorem Kept.drewN {lo hi : Nat} {a b : World} (h : Kept lo hi a b) (q : Nat) : Kept lo hi a (b.drewN q) := h

theorem OwnI.kept {w w' : World} {base hi : Nat} {e : TypeId} {v : Value} {xs : List Int} (h : OwnI w base e v xs) (hk : Kept base hi w w') (hs : w.heap.size ≤ hi) : OwnI w' base e v xs := by
  refine ⟨h.1, ?_⟩
  rcases h.2 with h' | ⟨g, cap, cur, h1, h2, h3, h4⟩
  · exact .inl h'
  · refine .inr ⟨g, cap, cur, h1, h2, ?_, h4⟩
    have hlt : g < w.heap.size := by
      rcases Nat.lt_or_ge g w.heap.size with hlt | hge
      · exact hlt
      · rw [Array.getElem?_eq_none hge] at h3; cases h3
    rw [hk g h2 (by omega)]; exact h3
theorem OwnI.ints {w : World} {base n c : Nat} {e : TypeId} {A : Option Addr} {xs : List Int} (h : OwnI w base e (.slice A n c) xs) : n = xs.length ∧ IsInts w w.heap.size A n xs := by
  obtain ⟨A', c', he, _, hI⟩ := IsInts.of_own h
  injection he with h1 h2 _
  subst h1; subst h2
  exact ⟨rfl, hI⟩
/-- What is owned lies below the heap's size. -/
theorem OwnI.out {w : World} {base lo hi : Nat} {e : TypeId} {v : Value} {xs : List Int} (h : OwnI w base e v xs) (hlo : w.heap.size ≤ lo) : Out v lo hi := fun b hb => .inl (by
  have := (World.ownsRow.lt h b hb).2
  omega)

/-- 'out = append(out, k)', out nil or the call's own, lying outside the blocks from lo to hi: they are as they were, and it lies outside them still. -/
theorem wpList_append_apart {P : Program} (wr : World) {ops : Array Oper} {rest : List Oper} {o : Oper} {a : Act} {Q : Exit → Act → World → Prop} (hgd : o.guard = none) (s x : Operand) (t : TypeId)
    (ho : o.op = .call { callee := .builtin .append, args := #[s, x], argTypes := #[t, t] }) (base : Nat) (e : TypeId) (i : TypeInfo)
    (ht : P.underlying t = some (.slice e)) (hi : P.info? e = some i) (hz : i.zero = some (.int .i64 0)) (hsize : i.size = 1) (hby : i.bytes = 8)
    (v : Value) (cs : List Int) (hs : a.eval s = v) (hown : OwnI wr base e v cs) (k : Int) (hx : a.eval x = .slice (some ⟨wr.heap.size, 0, none⟩) 1 1)
    (hlen : cs.length ≤ 1099511627776) (hbase : base ≤ wr.heap.size) (lo hh : Nat) (hout : Out v lo hh) (hhi : hh ≤ wr.heap.size)
    (h : ∀ v' w', OwnI w' base e v' (cs ++ [k]) → Below base wr w' → Out v' lo hh → Kept lo hh wr w' → wpList P ops Q rest (a.put o.dst v') w') :
    wpList P ops Q (o :: rest) a (wr.alloc (.cells #[.int .i64 k] e)) := by
  refine wpList_append_lies _ hgd s x t ho base e i (.int .i64 0) 1 8 ht hi hz hsize hby rfl (by decide) v _ _ hs (World.ownsRow.alloc hown _) ⟨wr.heap.size, 0, none⟩ 1 1 [.int .i64 k] hx rfl ?_ ?_ (by decide) ?_ ?_ ?_ (wr.heap.size + 1) (by simp) ?_
  · intro j u hj
    match j, hj with
    | 0, hj => simp at hj; subst hj; simp [Addr.add]
  · intro u hu; simp at hu; subst hu; rfl
  · unfold maxLen; omega
  · omega
  · simp; omega
  · intro g cap w' ho hg hat _
    refine h _ w' (OwnI.mk_ (by simpa using ho)) (((Below.refl base wr).alloc hbase _).grown hg (by simp; omega) fun b hb => ?_) ?_ ?_
    · exact (World.ownsRow.lt hown b hb).1
    · intro b hb
      have hb : g = b := by simpa [Value.ownBlock] using hb
      subst hb
      rcases hat with hat | hat
      · exact hout g hat
      · right; omega
    · intro b h1 h2
      rw [hg.block b (by simp; omega) (fun e => by have := hout b e.symm; omega)]
      exact Below.heap_alloc _ _ _ (by omega)
end Go.Proofs.YtdhklkpeepmedaaDoor
