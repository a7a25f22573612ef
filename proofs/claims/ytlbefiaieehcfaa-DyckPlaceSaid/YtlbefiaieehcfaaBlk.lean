/-
  Plain facts on memory: a block that alone may have turned, a block that is known whole (of cells, of signs, of numbers), one cell stored, and the built-in copy inside one block. No condition.
-/
import Derived.Test.YtlbefiaieehcfaaRmem
import Derived.Laws.CopyOwn
import Derived.Laws.AppendOwn
namespace Go.Proofs.Ytlbefiaieehcfaa
open Go.RowKit

/-- Only block g may have turned, and no block was made. -/
structure Only (g : Nat) (w w' : World) : Prop where
  os : w'.os = w.os
  tape : w'.tape = w.tape
  output : w'.output = w.output
  size : w'.heap.size = w.heap.size
  block : ∀ b, b ≠ g → w'.heap[b]? = w.heap[b]?
theorem Only.refl (g : Nat) (w : World) : Only g w w := ⟨rfl, rfl, rfl, rfl, fun _ _ => rfl⟩
theorem Only.trans {g : Nat} {a b c : World} (h : Only g a b) (k : Only g b c) : Only g a c :=
  ⟨k.os.trans h.os, k.tape.trans h.tape, k.output.trans h.output, k.size.trans h.size, fun i hi => (k.block i hi).trans (h.block i hi)⟩
theorem Only.drewN {g : Nat} {a b : World} (h : Only g a b) (q : Nat) : Only g a (b.drewN q) := ⟨h.os, h.tape, h.output, h.size, h.block⟩
theorem Only.below {g B : Nat} {a b : World} (h : Only g a b) (hB : B ≤ g) : Below B a b := ⟨h.os, h.tape, h.output, Nat.le_of_eq h.size.symm, fun k hk => h.block k (by omega)⟩
theorem Only.setRow (g : Nat) (w : World) (cs : Array Value) : Only g w (w.setRow g cs) := ⟨rfl, rfl, rfl, by simp, fun b hb => setRow_other w g b cs hb⟩
theorem Only.cell {g b o : Nat} {w w' : World} (h : Only g w w') (hb : b ≠ g) : w'.cell? ⟨b, o, none⟩ = w.cell? ⟨b, o, none⟩ := by
  unfold World.cell?
  rw [h.block b hb]

/-- Block g holds the cells vs, and nothing more. -/
def BlkAt (w : World) (g : Nat) (e : TypeId) (vs : List Value) : Prop := w.heap[g]? = some (.cells vs.toArray e (0, 0))
theorem BlkAt.cell {w : World} {g : Nat} {e : TypeId} {vs : List Value} (h : BlkAt w g e vs) {k : Nat} {v : Value} (hk : vs[k]? = some v) : w.cell? ⟨g, k, none⟩ = some v := by
  rw [cell_of_row _ _ k _ e (0, 0) h]
  simpa using hk
theorem BlkAt.frozen {w : World} {g : Nat} {e : TypeId} {vs : List Value} (h : BlkAt w g e vs) (k : Nat) : w.frozen? ⟨g, k, none⟩ = false := by
  unfold BlkAt at h
  simp [World.frozen?, h]
theorem BlkAt.lt {w : World} {g : Nat} {e : TypeId} {vs : List Value} (h : BlkAt w g e vs) : g < w.heap.size := (Array.getElem?_eq_some_iff.1 h).1
/-- One cell stored. -/
theorem BlkAt.stored {w : World} {g : Nat} {e : TypeId} {vs : List Value} (h : BlkAt w g e vs) (k : Nat) (v : Value) : BlkAt (w.setCell ⟨g, k, none⟩ v) g e (vs.set k v) ∧ Only g w (w.setCell ⟨g, k, none⟩ v) := by
  rw [setCell_eq_setRow w g k _ e (0, 0) _ h]
  refine ⟨?_, Only.setRow _ _ _⟩
  unfold BlkAt
  rw [setRow_heap w g _ _ e _ h]
  simp
theorem BlkAt.of_own {w : World} {base g n : Nat} {e : TypeId} {vs : List Value} (h : w.ownsRow base e 1 (.slice (some ⟨g, 0, none⟩) n n) n vs) : BlkAt w g e vs := by
  rcases h.2 with ⟨h1, _⟩ | ⟨g', cap, cur, h1, _, h3, _, _, h5, h6⟩
  · cases h1
  · injection h1 with a1 a2 a3
    subst a3
    injection a1 with a1
    injection a1 with a1
    subst a1
    unfold BlkAt
    rw [h3, ← h6, List.take_of_length_le (by rw [Array.length_toList, h5]; exact Nat.le_refl _)]
/-- The first i of the elements xs, behind them zeros, n in all. -/
def partL {α : Type} (z : α) (xs : List α) (n i : Nat) : List α := (List.range n).map fun j => if j < i then xs.getD j z else z
theorem partL_zero {α : Type} (z : α) (xs : List α) (n : Nat) : partL z xs n 0 = List.replicate n z := by
  apply List.ext_getElem?
  intro j
  by_cases hj : j < n <;> simp [partL, hj]
theorem partL_set {α : Type} (z : α) (xs : List α) (n i : Nat) : (partL z xs n i).set i (xs.getD i z) = partL z xs n (i + 1) := by
  apply List.ext_getElem?
  intro j
  by_cases hj : j < n
  · by_cases e : j = i
    · subst e; simp [partL, hj]
    · by_cases h : j < i
      · simp [partL, hj, Ne.symm e, h, show j < i + 1 by omega]
      · simp [partL, hj, Ne.symm e, h, show ¬ j < i + 1 by omega]
  · simp [partL, hj]
theorem partL_all {α : Type} (z : α) (xs : List α) (n : Nat) (h : xs.length = n) : partL z xs n n = xs := by
  subst h
  apply List.ext_getElem?
  intro j
  by_cases hj : j < xs.length <;> simp [partL, hj]
theorem partL_len {α : Type} (z : α) (xs : List α) (n i : Nat) : (partL z xs n i).length = n := by simp [partL]
/-- Block g holds the signs r, and nothing more. -/
def RowAt (w : World) (g : Nat) (e : TypeId) (r : List UInt8) : Prop := BlkAt w g e (r.map encB)
theorem RowAt.cell {w : World} {g : Nat} {e : TypeId} {r : List UInt8} (h : RowAt w g e r) {k : Nat} (hk : k < r.length) : w.cell? ⟨g, k, none⟩ = some (.int .u8 ((r.getD k 0).toNat : Int)) :=
  BlkAt.cell h (by simp [encB, hk])
theorem RowAt.stored {w : World} {g : Nat} {e : TypeId} {r : List UInt8} (h : RowAt w g e r) (k : Nat) (c : UInt8) : RowAt (w.setCell ⟨g, k, none⟩ (.int .u8 (c.toNat : Int))) g e (r.set k c) ∧ Only g w (w.setCell ⟨g, k, none⟩ (.int .u8 (c.toNat : Int))) := by
  have := BlkAt.stored h k (encB c)
  rw [← List.map_set] at this
  exact this
theorem RowAt.made {w : World} {base g n : Nat} {e : TypeId} (h : w.ownsRow base e 1 (.slice (some ⟨g, 0, none⟩) n n) n (madeCells #[Value.int .u8 0] n).toList) : RowAt w g e (List.replicate n 0) := by
  rw [toList_madeCells_one] at h
  have := BlkAt.of_own h
  unfold RowAt
  rw [List.map_replicate]
  exact this
/-- Block g holds the numbers xs, and nothing more. -/
def NumAt (w : World) (g : Nat) (e : TypeId) (xs : List Int) : Prop := BlkAt w g e (xs.map (Value.int .i64))
theorem NumAt.cell {w : World} {g : Nat} {e : TypeId} {xs : List Int} (h : NumAt w g e xs) {k : Nat} (hk : k < xs.length) : w.cell? ⟨g, k, none⟩ = some (.int .i64 (xs.getD k 0)) :=
  BlkAt.cell h (by simp [hk])
theorem NumAt.stored {w : World} {g : Nat} {e : TypeId} {xs : List Int} (h : NumAt w g e xs) (k : Nat) (x : Int) : NumAt (w.setCell ⟨g, k, none⟩ (.int .i64 x)) g e (xs.set k x) ∧ Only g w (w.setCell ⟨g, k, none⟩ (.int .i64 x)) := by
  have := BlkAt.stored h k (.int .i64 x)
  rw [← List.map_set] at this
  exact this
theorem NumAt.made {w : World} {base g n : Nat} {e : TypeId} (h : w.ownsRow base e 1 (.slice (some ⟨g, 0, none⟩) n n) n (madeCells #[Value.int .i64 0] n).toList) : NumAt w g e (List.replicate n 0) := by
  rw [toList_madeCells_one] at h
  have := BlkAt.of_own h
  unfold NumAt
  rw [List.map_replicate]
  exact this
theorem NumAt.ints {w : World} {g n : Nat} {e : TypeId} {xs : List Int} (h : NumAt w g e xs) (hn : xs.length = n) : IsInts w w.heap.size (some ⟨g, 0, none⟩) n xs :=
  ⟨hn, fun _ => ⟨g, 0, rfl, BlkAt.lt h, fun j hj => by rw [Nat.zero_add]; exact h.cell (by omega)⟩⟩

/-- 'copy(d, s)', d lying in a block that is known whole: only this block turns. -/
theorem wpList_copy_only {P : Program} {w : World} {ops : Array Oper} {rest : List Oper} {o : Oper} {a : Act} {Q : Exit → Act → World → Prop} (hgd : o.guard = none) (d s : Operand) (dT sT : TypeId)
    (ho : o.op = .call { callee := .builtin .copy, args := #[d, s], argTypes := #[dT, sT] }) (elem : TypeId) (hu : P.underlying dT = some (.slice elem)) (hsz : (P.info? elem).map (·.size) = some 1)
    (g off dLen dCap : Nat) (ad : Addr) (sLen sCap : Nat) (hd : a.eval d = .slice (some ⟨g, off, none⟩) dLen dCap) (hs : a.eval s = .slice (some ad) sLen sCap)
    (vs : List Value) (t : TypeId) (hg : BlkAt w g t vs) (cs : List Value) (hn : cs.length = Nat.min sLen dLen)
    (hsrc : ∀ j v, cs[j]? = some v → w.cell? (ad.add j) = some v) (hfit : off + cs.length ≤ vs.length) (h1 : ∀ v ∈ cs, v.oneCell' = true)
    (h : ∀ n w', BlkAt w' g t (splice vs off cs) → Only g w w' → wpList P ops Q rest (a.put o.dst (goInt n)) w') : wpList P ops Q (o :: rest) a w := by
  refine wpList_copy_own hgd d s dT sT ho elem hu hsz g off dLen dCap ad sLen sCap hd hs vs.toArray t hg cs hn hsrc (by simpa using hfit) h1 ?_
  refine h _ _ ?_ (Only.setRow _ _ _)
  unfold BlkAt
  rw [setRow_heap w g _ _ t _ hg]
  simp [splice]
end Go.Proofs.Ytlbefiaieehcfaa
