/-
  Plain facts on memory for moving to the front: a row of signs in a block of its own, a block that alone may have turned, a row with a place put to its front by 'copy', and 'append' of a whole slice of signs. No condition.
-/
import Derived.Test.YtceipfmdgpnagaaDoorRmem
import Derived.Test.YtceipfmdgpnagaaDoorMtf
import Derived.Laws.CopyOwn
import Derived.Laws.AppendOwn
import Derived.Lib.Bytealg
import Derived.Lib.Bytes
namespace Go.Proofs.YtceipfmdgpnagaaDoor
open Go.RowKit

/-- Only block g may have turned, and no block was made. -/
structure Only (g : Nat) (w w' : World) : Prop where
  os : w'.os = w.os
  tape : w'.tape = w.tape
  output : w'.output = w.output
  size : w'.heap.size = w.heap.size
  block : ∀ b, b ≠ g → w'.heap[b]? = w.heap[b]?
theorem Only.refl (g : Nat) (w : World) : Only g w w := ⟨rfl, rfl, rfl, rfl, fun _ _ => rfl⟩
theorem Only.trans {g : Nat} {a b c : World} (h : Only g a b) (k : Only g b c) : Only g a c :=
  ⟨k.os.trans h.os, k.tape.trans h.tape, k.output.trans h.output, k.size.trans h.size, fun i hi => (k.block i hi).trans (h.block i hi)⟩
theorem Only.drewN {g : Nat} {a b : World} (h : Only g a b) (q : Nat) : Only g a (b.drewN q) := ⟨h.os, h.tape, h.output, h.size, h.block⟩
theorem Only.below {g B : Nat} {a b : World} (h : Only g a b) (hB : B ≤ g) : Below B a b := ⟨h.os, h.tape, h.output, Nat.le_of_eq h.size.symm, fun k hk => h.block k (by omega)⟩
theorem Only.setRow (g : Nat) (w : World) (cs : Array Value) : Only g w (w.setRow g cs) := ⟨rfl, rfl, rfl, by simp, fun b hb => setRow_other w g b cs hb⟩
theorem Only.cell {g b o : Nat} {w w' : World} (h : Only g w w') (hb : b ≠ g) : w'.cell? ⟨b, o, none⟩ = w.cell? ⟨b, o, none⟩ := by
  unfold World.cell?
  rw [h.block b hb]

/-- Block g holds the cells vs, and nothing more. -/
def BlkAt (w : World) (g : Nat) (e : TypeId) (vs : List Value) : Prop := w.heap[g]? = some (.cells vs.toArray e (0, 0))
theorem BlkAt.cell {w : World} {g : Nat} {e : TypeId} {vs : List Value} (h : BlkAt w g e vs) {k : Nat} {v : Value} (hk : vs[k]? = some v) : w.cell? ⟨g, k, none⟩ = some v := by
  rw [cell_of_row _ _ k _ e (0, 0) h]
  simpa using hk
theorem BlkAt.frozen {w : World} {g : Nat} {e : TypeId} {vs : List Value} (h : BlkAt w g e vs) (k : Nat) : w.frozen? ⟨g, k, none⟩ = false := by
  unfold BlkAt at h
  simp [World.frozen?, h]
theorem BlkAt.lt {w : World} {g : Nat} {e : TypeId} {vs : List Value} (h : BlkAt w g e vs) : g < w.heap.size := (Array.getElem?_eq_some_iff.1 h).1
/-- One cell stored. -/
theorem BlkAt.stored {w : World} {g : Nat} {e : TypeId} {vs : List Value} (h : BlkAt w g e vs) (k : Nat) (v : Value) : BlkAt (w.setCell ⟨g, k, none⟩ v) g e (vs.set k v) ∧ Only g w (w.setCell ⟨g, k, none⟩ v) := by
  rw [setCell_eq_setRow w g k _ e (0, 0) _ h]
  refine ⟨?_, Only.setRow _ _ _⟩
  unfold BlkAt
  rw [setRow_heap w g _ _ e _ h]
  simp
theorem BlkAt.of_own {w : World} {base g n : Nat} {e : TypeId} {vs : List Value} (h : w.ownsRow base e 1 (.slice (some ⟨g, 0, none⟩) n n) n vs) : BlkAt w g e vs := by
  rcases h.2 with ⟨h1, _⟩ | ⟨g', cap, cur, h1, _, h3, _, _, h5, h6⟩
  · cases h1
  · injection h1 with a1 a2 a3
    subst a3
    injection a1 with a1
    injection a1 with a1
    subst a1
    unfold BlkAt
    rw [h3, ← h6, List.take_of_length_le (by rw [Array.length_toList, h5]; exact Nat.le_refl _)]
/-- The first i of the elements xs, behind them zeros, n in all. -/
def partL {α : Type} (z : α) (xs : List α) (n i : Nat) : List α := (List.range n).map fun j => if j < i then xs.getD j z else z
theorem partL_zero {α : Type} (z : α) (xs : List α) (n : Nat) : partL z xs n 0 = List.replicate n z := by
  apply List.ext_getElem?
  intro j
  by_cases hj : j < n <;> simp [partL, hj]
theorem partL_set {α : Type} (z : α) (xs : List α) (n i : Nat) : (partL z xs n i).set i (xs.getD i z) = partL z xs n (i + 1) := by
  apply List.ext_getElem?
  intro j
  by_cases hj : j < n
  · by_cases e : j = i
    · subst e; simp [partL, hj]
    · by_cases h : j < i
      · simp [partL, hj, Ne.symm e, h, show j < i + 1 by omega]
      · simp [partL, hj, Ne.symm e, h, show ¬ j < i + 1 by omega]
  · simp [partL, hj]
theorem partL_all {α : Type} (z : α) (xs : List α) (n : Nat) (h : xs.length = n) : partL z xs n n = xs := by
  subst h
  apply List.ext_getElem?
  intro j
  by_cases hj : j < xs.length <;> simp [partL, hj]
theorem partL_len {α : Type} (z : α) (xs : List α) (n i : Nat) : (partL z xs n i).length = n := by simp [partL]
/-- Block g holds the signs r, and nothing more. -/
def RowAt (w : World) (g : Nat) (e : TypeId) (r : List UInt8) : Prop := BlkAt w g e (r.map encB)
theorem RowAt.cell {w : World} {g : Nat} {e : TypeId} {r : List UInt8} (h : RowAt w g e r) {k : Nat} (hk : k < r.length) : w.cell? ⟨g, k, none⟩ = some (.int .u8 ((r.getD k 0).toNat : Int)) :=
  BlkAt.cell h (by simp [encB, hk])
theorem RowAt.stored {w : World} {g : Nat} {e : TypeId} {r : List UInt8} (h : RowAt w g e r) (k : Nat) (c : UInt8) : RowAt (w.setCell ⟨g, k, none⟩ (.int .u8 (c.toNat : Int))) g e (r.set k c) ∧ Only g w (w.setCell ⟨g, k, none⟩ (.int .u8 (c.toNat : Int))) := by
  have := BlkAt.stored h k (encB c)
  rw [← List.map_set] at this
  exact this
theorem RowAt.made {w : World} {base g n : Nat} {e : TypeId} (h : w.ownsRow base e 1 (.slice (some ⟨g, 0, none⟩) n n) n (madeCells #[Value.int .u8 0] n).toList) : RowAt w g e (List.replicate n 0) := by
  rw [toList_madeCells_one] at h
  have := BlkAt.of_own h
  unfold RowAt
  rw [List.map_replicate]
  exact this
/-- Block g holds the numbers xs, and nothing more. -/
def NumAt (w : World) (g : Nat) (e : TypeId) (xs : List Int) : Prop := BlkAt w g e (xs.map (Value.int .i64))
theorem NumAt.cell {w : World} {g : Nat} {e : TypeId} {xs : List Int} (h : NumAt w g e xs) {k : Nat} (hk : k < xs.length) : w.cell? ⟨g, k, none⟩ = some (.int .i64 (xs.getD k 0)) :=
  BlkAt.cell h (by simp [hk])
theorem NumAt.stored {w : World} {g : Nat} {e : TypeId} {xs : List Int} (h : NumAt w g e xs) (k : Nat) (x : Int) : NumAt (w.setCell ⟨g, k, none⟩ (.int .i64 x)) g e (xs.set k x) ∧ Only g w (w.setCell ⟨g, k, none⟩ (.int .i64 x)) := by
  have := BlkAt.stored h k (.int .i64 x)
  rw [← List.map_set] at this
  exact this
theorem NumAt.made {w : World} {base g n : Nat} {e : TypeId} (h : w.ownsRow base e 1 (.slice (some ⟨g, 0, none⟩) n n) n (madeCells #[Value.int .i64 0] n).toList) : NumAt w g e (List.replicate n 0) := by
  rw [toList_madeCells_one] at h
  have := BlkAt.of_own h
  unfold NumAt
  rw [List.map_replicate]
  exact this
theorem NumAt.ints {w : World} {g n : Nat} {e : TypeId} {xs : List Int} (h : NumAt w g e xs) (hn : xs.length = n) : IsInts w w.heap.size (some ⟨g, 0, none⟩) n xs :=
  ⟨hn, fun _ => ⟨g, 0, rfl, BlkAt.lt h, fun j hj => by rw [Nat.zero_add]; exact h.cell (by omega)⟩⟩

/-- 'copy(d, s)', d lying in a block that is known whole: only this block turns. -/
theorem wpList_copy_only {P : Program} {w : World} {ops : Array Oper} {rest : List Oper} {o : Oper} {a : Act} {Q : Exit → Act → World → Prop} (hgd : o.guard = none) (d s : Operand) (dT sT : TypeId)
    (ho : o.op = .call { callee := .builtin .copy, args := #[d, s], argTypes := #[dT, sT] }) (elem : TypeId) (hu : P.underlying dT = some (.slice elem)) (hsz : (P.info? elem).map (·.size) = some 1)
    (g off dLen dCap : Nat) (ad : Addr) (sLen sCap : Nat) (hd : a.eval d = .slice (some ⟨g, off, none⟩) dLen dCap) (hs : a.eval s = .slice (some ad) sLen sCap)
    (vs : List Value) (t : TypeId) (hg : BlkAt w g t vs) (cs : List Value) (hn : cs.length = Nat.min sLen dLen)
    (hsrc : ∀ j v, cs[j]? = some v → w.cell? (ad.add j) = some v) (hfit : off + cs.length ≤ vs.length) (h1 : ∀ v ∈ cs, v.oneCell' = true)
    (h : ∀ n w', BlkAt w' g t (splice vs off cs) → Only g w w' → wpList P ops Q rest (a.put o.dst (goInt n)) w') : wpList P ops Q (o :: rest) a w := by
  refine wpList_copy_own hgd d s dT sT ho elem hu hsz g off dLen dCap ad sLen sCap hd hs vs.toArray t hg cs hn hsrc (by simpa using hfit) h1 ?_
  refine h _ _ ?_ (Only.setRow _ _ _)
  unfold BlkAt
  rw [setRow_heap w g _ _ t _ hg]
  simp [splice]
/-- What 'copy(list[1:], list[:k]); list[0] = c' leaves. -/
theorem splice_mtf {r : List UInt8} {k : Nat} (hk : k < r.length) : (splice (r.map encB) 1 ((r.take k).map encB)).set 0 (encB (r.getD k 0)) = (mtf r k).map encB := by
  have h1 : ((r.take k).map encB).length = k := by simp; omega
  unfold splice mtf
  rw [h1]
  cases r with
  | nil => simp at hk
  | cons x r => simp [Nat.add_comm 1 k]
theorem indexByte_idx (l : List UInt8) (c : UInt8) (h : c ∈ l) : Lib.indexByte l c = (l.idxOf c : Int) := by
  induction l with
  | nil => simp at h
  | cons b l ih =>
    unfold Lib.indexByte
    rw [List.idxOf_cons]
    by_cases e : b = c
    · subst e; simp
    · have e2 : (b == c) = false := by simpa using e
      have hl : c ∈ l := by
        rcases List.mem_cons.1 h with h | h
        · exact absurd h.symm e
        · exact h
      rw [e2, ih hl]
      simp
theorem bytesOf_nums (r : List UInt8) : Lib.bytesOf (r.map fun c => (c.toNat : Int)) = r := by
  simp [Lib.bytesOf, Function.comp_def]

/-- A literal of one sign. -/
theorem OwnB.lit (w : World) (e : TypeId) (c : UInt8) : OwnB (w.alloc (.cells #[.int .u8 (c.toNat : Int)] e)) w.heap.size e (.slice (some ⟨w.heap.size, 0, none⟩) 1 1) [c] :=
  ⟨rfl, .inr ⟨w.heap.size, 1, _, rfl, Nat.le_refl _, heap_alloc_new w _, Nat.le_refl _, by unfold maxLen; omega, rfl, rfl⟩⟩
theorem OwnB.base {w : World} {b b' : Nat} {e : TypeId} {v : Value} {xs : List UInt8} (h : OwnB w b e v xs) (hb : b' ≤ b) : OwnB w b' e v xs := by
  refine ⟨h.1, ?_⟩
  rcases h.2 with h' | ⟨g, cap, cur, h1, h2, h3⟩
  · exact .inl h'
  · exact .inr ⟨g, cap, cur, h1, by omega, h3⟩
/-- A slice of signs, with a place of its own, in whatever memory. -/
def IsSigns (w : World) (ad : Addr) (xs : List UInt8) : Prop := ∀ j, j < xs.length → w.cell? (ad.add j) = some (.int .u8 ((xs.getD j 0).toNat : Int))
/-- 'append(out, x...)', out nil or the call's own, x a slice of signs that is not nil: nothing below 'base' has turned. -/
theorem wpList_append_signs {P : Program} (wr : World) {ops : Array Oper} {rest : List Oper} {o : Oper} {a : Act} {Q : Exit → Act → World → Prop} (hgd : o.guard = none) (s x : Operand) (t : TypeId)
    (ho : o.op = .call { callee := .builtin .append, args := #[s, x], argTypes := #[t, t] }) (base : Nat) (e : TypeId) (i : TypeInfo)
    (ht : P.underlying t = some (.slice e)) (hi : P.info? e = some i) (hz : i.zero = some (.int .u8 0)) (hsize : i.size = 1) (hby : i.bytes = 1)
    (v : Value) (cs : List UInt8) (hs : a.eval s = v) (hown : OwnB wr base e v cs) (ad : Addr) (m c : Nat) (xs : List UInt8) (hm : xs.length = m) (hx : a.eval x = .slice (some ad) m c) (hxs : IsSigns wr ad xs)
    (hlen : cs.length + m ≤ 1099511627776) (hbase : base ≤ wr.heap.size)
    (h : ∀ v' w', OwnB w' base e v' (cs ++ xs) → Below base wr w' → wpList P ops Q rest (a.put o.dst v') w') :
    wpList P ops Q (o :: rest) a wr := by
  refine wpList_append_own _ hgd s x t ho base e i (.int .u8 0) 1 1 ht hi hz hsize hby rfl (by decide) v _ _ hs hown ad m c (xs.map encB) hx (by simp [hm]) ?_ ?_ ?_ ?_ hbase ?_
  · intro j u hj
    have hl : j < xs.length := by
      have := (List.getElem?_eq_some_iff.1 hj).1
      simpa using this
    rw [hxs j hl]
    simp [encB, hl] at hj
    simp [hl, hj]
  · intro u hu
    obtain ⟨_, _, rfl⟩ := List.mem_map.1 hu
    rfl
  · unfold maxLen; omega
  · omega
  · intro v' w' ho hg _
    refine h v' w' (by unfold OwnB; rw [List.map_append, List.length_append, hm]; exact ho) ((Below.refl base wr).grown hg hbase fun b hb => ?_)
    exact (World.ownsRow.lt hown b hb).1
end Go.Proofs.YtceipfmdgpnagaaDoor
