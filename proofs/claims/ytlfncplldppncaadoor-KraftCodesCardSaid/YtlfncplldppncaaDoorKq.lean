/-
  Plain facts on memory: a queue of texts of the call's own ('q = q[1:]', 'q = append(q, t)'), and what is kept beside it, a map and a variable. No condition.
-/
import Derived.Test.YtlfncplldppncaaDoorOwnS
import Derived.Test.YtlfncplldppncaaDoorBlk
import Derived.ArgAppend
import Derived.Maps.AppendAt
import Derived.RangeFuncBox
namespace Go.Proofs.YtlfncplldppncaaDoor
open Go.RowKit

/-- A slice value of the call's own that holds the texts os, beginning anywhere in its block (from block 'base' on), or nil. -/
def QV (w : World) (base : Nat) (e : TypeId) (v : Value) (os : List ByteArray) : Prop :=
  (v = .slice none 0 0 ∧ os = []) ∨ ∃ g off cap vs, v = .slice (some ⟨g, off, none⟩) os.length cap ∧ base ≤ g ∧ BlkAt w g e vs ∧ os.length ≤ cap ∧ off + cap ≤ vs.length ∧ cap ≤ maxLen ∧ ∀ j, j < os.length → vs[off + j]? = some (.string (os.getD j ByteArray.empty))
theorem QV.nil (w : World) (base : Nat) (e : TypeId) : QV w base e (.slice none 0 0) [] := .inl ⟨rfl, rfl⟩
theorem QV.lt {w : World} {base : Nat} {e : TypeId} {v : Value} {os : List ByteArray} (h : QV w base e v os) {b : Nat} (hb : v.ownBlock = some b) : base ≤ b ∧ b < w.heap.size := by
  rcases h with ⟨rfl, _⟩ | ⟨g, off, cap, vs, rfl, hg, hB, _⟩
  · cases hb
  · have : g = b := by simpa [Value.ownBlock] using hb
    subst this
    exact ⟨hg, hB.lt⟩
theorem QV.keep {w w' : World} {base : Nat} {e : TypeId} {v : Value} {os : List ByteArray} (h : QV w base e v os) (hk : ∀ b, v.ownBlock = some b → w'.heap[b]? = w.heap[b]?) : QV w' base e v os := by
  rcases h with h | ⟨g, off, cap, vs, rfl, hg, hB, r⟩
  · exact .inl h
  · exact .inr ⟨g, off, cap, vs, rfl, hg, (hk g rfl).trans hB, r⟩
theorem QV.shape {w : World} {base : Nat} {e : TypeId} {v : Value} {os : List ByteArray} (h : QV w base e v os) : ∃ A c, v = .slice A os.length c := by
  rcases h with ⟨rfl, rfl⟩ | ⟨g, off, cap, vs, rfl, _⟩
  · exact ⟨_, _, rfl⟩
  · exact ⟨_, _, rfl⟩
/-- The first one, and the rest. -/
theorem QV.head {w : World} {base : Nat} {e : TypeId} {v : Value} {x : ByteArray} {os : List ByteArray} (h : QV w base e v (x :: os)) :
    ∃ g off c, v = .slice (some ⟨g, off, none⟩) (os.length + 1) c ∧ 1 ≤ c ∧ w.cell? ⟨g, off, none⟩ = some (.string x) ∧ QV w base e (.slice (some ⟨g, if c = 1 then off else off + 1, none⟩) os.length (c - 1)) os := by
  rcases h with ⟨_, h⟩ | ⟨g, off, cap, vs, rfl, hg, hB, h1, h2, h3, h4⟩
  · cases h
  · rw [List.length_cons] at h1
    have hx := h4 0 (by simp)
    rw [Nat.add_zero] at hx
    refine ⟨g, off, cap, by rw [List.length_cons], by omega, hB.cell hx, ?_⟩
    by_cases e1 : cap = 1
    · have : os = [] := List.eq_nil_of_length_eq_zero (by omega)
      subst this
      rw [if_pos e1]
      exact .inr ⟨g, off, cap - 1, vs, rfl, hg, hB, by simp, by omega, by omega, fun j hj => by simp at hj⟩
    · rw [if_neg e1]
      refine .inr ⟨g, off + 1, cap - 1, vs, rfl, hg, hB, by omega, by omega, by omega, fun j hj => ?_⟩
      have := h4 (j + 1) (by rw [List.length_cons]; omega)
      rw [show off + 1 + j = off + (j + 1) by omega, this]
      rfl
theorem QV.of_own {w : World} {base : Nat} {e : TypeId} {v : Value} {os : List ByteArray} (h : OwnS w base e v os) : QV w base e v os := by
  unfold OwnS at h
  generalize hn : os.length = n at h
  rcases h.2 with ⟨rfl, rfl⟩ | ⟨g, cap, cur, rfl, hg, hh, hnc, hcm, hcs, htk⟩
  · exact .inl ⟨rfl, List.eq_nil_of_length_eq_zero hn⟩
  · refine .inr ⟨g, 0, cap, cur.toList, by rw [hn], hg, by simpa [BlkAt] using hh, by omega, by rw [Array.length_toList]; omega, hcm, fun j hj => ?_⟩
    rw [Nat.zero_add]
    have h1 : (cur.toList.take (n * 1))[j]? = (os.map Value.string)[j]? := by rw [htk]
    rw [List.getElem?_take, if_pos (by omega), List.getElem?_map, List.getElem?_eq_getElem hj] at h1
    rw [h1, List.getD_eq_getElem?_getD, List.getElem?_eq_getElem hj]
    rfl

theorem OwnS.base {w : World} {b b' : Nat} {e : TypeId} {v : Value} {xs : List ByteArray} (h : OwnS w b e v xs) (hb : b' ≤ b) : OwnS w b' e v xs := by
  refine ⟨h.1, ?_⟩
  rcases h.2 with h' | ⟨g, cap, cur, h1, h2, h3⟩
  · exact .inl h'
  · exact .inr ⟨g, cap, cur, h1, by omega, h3⟩

/-- 'q = append(q, t)'. -/
theorem wpList_append_q {P : Program} (wr : World) {ops : Array Oper} {rest : List Oper} {o : Oper} {a : Act} {Q : Exit → Act → World → Prop} (hgd : o.guard = none) (s x : Operand) (t : TypeId)
    (ho : o.op = .call { callee := .builtin .append, args := #[s, x], argTypes := #[t, t] }) (base : Nat) (e : TypeId) (i : TypeInfo)
    (ht : P.underlying t = some (.slice e)) (hi : P.info? e = some i) (hz : i.zero = some (.string ByteArray.empty)) (hsize : i.size = 1) (hby : i.bytes = 16)
    (v : Value) (os : List ByteArray) (hs : a.eval s = v) (hq : QV wr base e v os) (k : ByteArray) (hx : a.eval x = .slice (some ⟨wr.heap.size, 0, none⟩) 1 1)
    (hlen : os.length ≤ 1000) (hbase : base ≤ wr.heap.size)
    (h : ∀ v' w', QV w' base e v' (os ++ [k]) → (w'.os = wr.os ∧ w'.tape = wr.tape ∧ w'.output = wr.output ∧ wr.heap.size ≤ w'.heap.size) → (∀ j, j < wr.heap.size → some j ≠ v.ownBlock → w'.heap[j]? = wr.heap[j]?) →
      (v'.ownBlock = v.ownBlock ∨ ∃ g, v'.ownBlock = some g ∧ wr.heap.size ≤ g) → wpList P ops Q rest (a.put o.dst v') w') :
    wpList P ops Q (o :: rest) a (wr.alloc (.cells #[.string k] e)) := by
  have hold : ∀ j, j < wr.heap.size → (wr.alloc (.cells #[.string k] e)).heap[j]? = wr.heap[j]? := fun j hj => Below.heap_alloc _ _ j hj
  rcases hq with ⟨rfl, rfl⟩ | ⟨g, off, cap, vs, rfl, hg, hB, h1, h2, h3, h4⟩
  · refine wpList_append_own_at _ hgd s x t ho base e i (.string ByteArray.empty) 1 16 ht hi hz hsize hby rfl (by decide) _ _ _ hs (World.ownsRow_nil _ _ _ _) ⟨wr.heap.size, 0, none⟩ 1 1 [.string k] hx rfl (cell_one_new _ _ _) (by simp [Value.oneCell']) (by decide) (by decide) (by simp; omega) ?_
    intro v' w' hown hgrow _ hat
    refine h v' w' (QV.of_own hown) ⟨hgrow.os, hgrow.tape, hgrow.output, Nat.le_trans (by simp) hgrow.size⟩ (fun j hj hne => (hgrow.block j (by simp; omega) hne).trans (hold j hj)) ?_
    rcases hat with hat | hat
    · exact .inl hat
    · exact .inr ⟨_, hat, by simp⟩
  · have hB2 : BlkAt (wr.alloc (.cells #[.string k] e)) g e vs := (hold g hB.lt).trans hB
    refine wpList_append_arg _ hgd s x t ho e i (.string ByteArray.empty) 1 16 ht hi hz hsize hby rfl (by decide) g off os.length cap (os.map Value.string) hs (by simp) ?_ ⟨wr.heap.size, 0, none⟩ 1 1 [.string k] hx rfl (cell_one_new _ _ _) (by simp [Value.oneCell']) ?_ (by unfold maxLen; omega) (by omega) ?_ ?_
    · intro j u hj
      have hjl : j < os.length := by
        have := (List.getElem?_eq_some_iff.1 hj).1
        simpa using this
      rw [hB2.cell (h4 j hjl)]
      simp [hjl] at hj
      simp [hjl, hj]
    · intro hr j hj
      have hj0 : j = 0 := by simpa using hj
      subst hj0
      refine ⟨?_, hB2.frozen _⟩
      rw [hB2.cell (k := off + os.length * 1 + 0) (v := vs[off + os.length * 1 + 0]'(by omega)) (List.getElem?_eq_getElem _)]
      rfl
    · intro hr
      have hst := hB2.stored (off + os.length) (.string k)
      have e1 : (wr.alloc (.cells #[.string k] e)).setCells g (off + os.length * 1) [.string k] = (wr.alloc (.cells #[.string k] e)).setCell ⟨g, off + os.length, none⟩ (.string k) := by
        rw [Nat.mul_one]; rfl
      rw [e1]
      refine h _ _ (.inr ⟨g, off, cap, vs.set (off + os.length) (.string k), by simp, hg, hst.1, by simp; omega, by simp; omega, h3, fun j hj => ?_⟩) ⟨hst.2.os, hst.2.tape, hst.2.output, by rw [hst.2.size]; simp⟩ (fun j hj hne => ?_) (.inl rfl)
      · rw [List.length_append, List.length_singleton] at hj
        by_cases e2 : j = os.length
        · subst e2
          rw [List.getElem?_set_self (by omega)]
          simp
        · rw [List.getElem?_set_ne (by omega), h4 j (by omega)]
          simp [List.getElem?_append_left (show j < os.length by omega)]
      · have : j ≠ g := fun e2 => hne (by rw [e2]; rfl)
        exact (hst.2.block j this).trans (hold j hj)
    · intro hfull v' w' hown hgrow
      refine h v' w' (QV.of_own ((OwnS.mk_ (by simpa using hown)).base (b := (wr.alloc (.cells #[.string k] e)).heap.size) (by simp; omega))) ⟨hgrow.os, hgrow.tape, hgrow.output, Nat.le_trans (by simp) hgrow.size⟩ (fun j hj _ => (hgrow.block j (by simp; omega) (by simp)).trans (hold j hj)) ?_
      rcases hown.2 with ⟨_, h0⟩ | ⟨g', cap', cur, rfl, hg', _⟩
      · omega
      · exact .inr ⟨g', rfl, by simp at hg'; omega⟩

/-- What turned but the blocks M and Vb and the value's own row is new. -/
structure KeepQ (w w' : World) (M Vb : Nat) (v v' : Value) : Prop where
  os : w'.os = w.os
  tape : w'.tape = w.tape
  output : w'.output = w.output
  size : w.heap.size ≤ w'.heap.size
  same : ∀ j, j < w.heap.size → j ≠ M → j ≠ Vb → some j ≠ v.ownBlock → w'.heap[j]? = w.heap[j]? ∧ some j ≠ v'.ownBlock
theorem KeepQ.refl (w : World) (M Vb : Nat) (v : Value) : KeepQ w w M Vb v v := ⟨rfl, rfl, rfl, Nat.le_refl _, fun _ _ _ _ h => ⟨rfl, h⟩⟩
theorem KeepQ.trans {a b c : World} {M Vb : Nat} {u v x : Value} (h : KeepQ a b M Vb u v) (k : KeepQ b c M Vb v x) : KeepQ a c M Vb u x :=
  ⟨k.os.trans h.os, k.tape.trans h.tape, k.output.trans h.output, Nat.le_trans h.size k.size, fun j hj h1 h2 h3 => by
    obtain ⟨e1, n1⟩ := h.same j hj h1 h2 h3
    obtain ⟨e2, n2⟩ := k.same j (Nat.lt_of_lt_of_le hj h.size) h1 h2 n1
    exact ⟨e2.trans e1, n2⟩⟩
theorem KeepQ.of_below {w w' : World} (M Vb : Nat) (v : Value) (hb : Below w.heap.size w w') : KeepQ w w' M Vb v v := ⟨hb.os, hb.tape, hb.output, hb.size, fun j hj _ _ h => ⟨hb.block j hj, h⟩⟩
theorem KeepQ.cell {w w' : World} {M Vb : Nat} {v v' : Value} (h : KeepQ w w' M Vb v v') {g : Nat} (hg : g < w.heap.size) (h1 : g ≠ M) (h2 : g ≠ Vb) (h3 : some g ≠ v.ownBlock) (j : Nat) : w'.cell? ⟨g, j, none⟩ = w.cell? ⟨g, j, none⟩ := by
  simp [World.cell?, (h.same g hg h1 h2 h3).1]
theorem KeepQ.below {w w' : World} {M Vb B : Nat} {v v' : Value} (h : KeepQ w w' M Vb v v') (hB : B ≤ w.heap.size) (h1 : B ≤ M) (h2 : B ≤ Vb) (h3 : ∀ b, v.ownBlock = some b → B ≤ b) : Below B w w' :=
  ⟨h.os, h.tape, h.output, h.size, fun k hk => (h.same k (by omega) (by omega) (by omega) (fun e => by have := h3 k e.symm; omega)).1⟩
end Go.Proofs.YtlfncplldppncaaDoor
