/-
  Several of this claim's texts in one (Blk, Hmem, Allr, LenC, Sard, Mcm): what each proves stands at its own head. Conditions: as each says.
-/
import Derived.Laws.CopyOwn
import Derived.Laws.AppendOwn
import Derived.Deep.RegionLaw
import Derived.Lib.SliceRun
import Derived.Test.YtlfncplldppncaaDoorQc

/-
  Plain facts on memory: a block that alone may have turned, a block that is known whole (of cells, of signs, of numbers), one cell stored, and the built-in copy inside one block. No condition.
-/
namespace Go.Proofs.YtlfncplldppncaaDoor
open Go.RowKit

/-- Only block g may have turned, and no block was made. -/
structure Only (g : Nat) (w w' : World) : Prop where
  os : w'.os = w.os
  tape : w'.tape = w.tape
  output : w'.output = w.output
  size : w'.heap.size = w.heap.size
  block : ∀ b, b ≠ g → w'.heap[b]? = w.heap[b]?
theorem Only.refl (g : Nat) (w : World) : Only g w w := ⟨rfl, rfl, rfl, rfl, fun _ _ => rfl⟩
theorem Only.trans {g : Nat} {a b c : World} (h : Only g a b) (k : Only g b c) : Only g a c :=
  ⟨k.os.trans h.os, k.tape.trans h.tape, k.output.trans h.output, k.size.trans h.size, fun i hi => (k.block i hi).trans (h.block i hi)⟩
theorem Only.drewN {g : Nat} {a b : World} (h : Only g a b) (q : Nat) : Only g a (b.drewN q) := ⟨h.os, h.tape, h.output, h.size, h.block⟩
theorem Only.below {g B : Nat} {a b : World} (h : Only g a b) (hB : B ≤ g) : Below B a b := ⟨h.os, h.tape, h.output, Nat.le_of_eq h.size.symm, fun k hk => h.block k (by omega)⟩
theorem Only.setRow (g : Nat) (w : World) (cs : Array Value) : Only g w (w.setRow g cs) := ⟨rfl, rfl, rfl, by simp, fun b hb => setRow_other w g b cs hb⟩
theorem Only.cell {g b o : Nat} {w w' : World} (h : Only g w w') (hb : b ≠ g) : w'.cell? ⟨b, o, none⟩ = w.cell? ⟨b, o, none⟩ := by
  unfold World.cell?
  rw [h.block b hb]

/-- Block g holds the cells vs, and nothing more. -/
def BlkAt (w : World) (g : Nat) (e : TypeId) (vs : List Value) : Prop := w.heap[g]? = some (.cells vs.toArray e (0, 0))
theorem BlkAt.cell {w : World} {g : Nat} {e : TypeId} {vs : List Value} (h : BlkAt w g e vs) {k : Nat} {v : Value} (hk : vs[k]? = some v) : w.cell? ⟨g, k, none⟩ = some v := by
  rw [cell_of_row _ _ k _ e (0, 0) h]
  simpa using hk
theorem BlkAt.frozen {w : World} {g : Nat} {e : TypeId} {vs : List Value} (h : BlkAt w g e vs) (k : Nat) : w.frozen? ⟨g, k, none⟩ = false := by
  unfold BlkAt at h
  simp [World.frozen?, h]
theorem BlkAt.lt {w : World} {g : Nat} {e : TypeId} {vs : List Value} (h : BlkAt w g e vs) : g < w.heap.size := (Array.getElem?_eq_some_iff.1 h).1
/-- One cell stored. -/
theorem BlkAt.stored {w : World} {g : Nat} {e : TypeId} {vs : List Value} (h : BlkAt w g e vs) (k : Nat) (v : Value) : BlkAt (w.setCell ⟨g, k, none⟩ v) g e (vs.set k v) ∧ Only g w (w.setCell ⟨g, k, none⟩ v) := by
  rw [setCell_eq_setRow w g k _ e (0, 0) _ h]
  refine ⟨?_, Only.setRow _ _ _⟩
  unfold BlkAt
  rw [setRow_heap w g _ _ e _ h]
  simp
theorem BlkAt.of_own {w : World} {base g n : Nat} {e : TypeId} {vs : List Value} (h : w.ownsRow base e 1 (.slice (some ⟨g, 0, none⟩) n n) n vs) : BlkAt w g e vs := by
  rcases h.2 with ⟨h1, _⟩ | ⟨g', cap, cur, h1, _, h3, _, _, h5, h6⟩
  · cases h1
  · injection h1 with a1 a2 a3
    subst a3
    injection a1 with a1
    injection a1 with a1
    subst a1
    unfold BlkAt
    rw [h3, ← h6, List.take_of_length_le (by rw [Array.length_toList, h5]; exact Nat.le_refl _)]
/-- The first i of the elements xs, behind them zeros, n in all. -/
def partL {α : Type} (z : α) (xs : List α) (n i : Nat) : List α := (List.range n).map fun j => if j < i then xs.getD j z else z
theorem partL_zero {α : Type} (z : α) (xs : List α) (n : Nat) : partL z xs n 0 = List.replicate n z := by
  apply List.ext_getElem?
  intro j
  by_cases hj : j < n <;> simp [partL, hj]
theorem partL_set {α : Type} (z : α) (xs : List α) (n i : Nat) : (partL z xs n i).set i (xs.getD i z) = partL z xs n (i + 1) := by
  apply List.ext_getElem?
  intro j
  by_cases hj : j < n
  · by_cases e : j = i
    · subst e; simp [partL, hj]
    · by_cases h : j < i
      · simp [partL, hj, Ne.symm e, h, show j < i + 1 by omega]
      · simp [partL, hj, Ne.symm e, h, show ¬ j < i + 1 by omega]
  · simp [partL, hj]
theorem partL_all {α : Type} (z : α) (xs : List α) (n : Nat) (h : xs.length = n) : partL z xs n n = xs := by
  subst h
  apply List.ext_getElem?
  intro j
  by_cases hj : j < xs.length <;> simp [partL, hj]
theorem partL_len {α : Type} (z : α) (xs : List α) (n i : Nat) : (partL z xs n i).length = n := by simp [partL]
/-- Block g holds the signs r, and nothing more. -/
def RowAt (w : World) (g : Nat) (e : TypeId) (r : List UInt8) : Prop := BlkAt w g e (r.map encB)
theorem RowAt.cell {w : World} {g : Nat} {e : TypeId} {r : List UInt8} (h : RowAt w g e r) {k : Nat} (hk : k < r.length) : w.cell? ⟨g, k, none⟩ = some (.int .u8 ((r.getD k 0).toNat : Int)) :=
  BlkAt.cell h (by simp [encB, hk])
theorem RowAt.stored {w : World} {g : Nat} {e : TypeId} {r : List UInt8} (h : RowAt w g e r) (k : Nat) (c : UInt8) : RowAt (w.setCell ⟨g, k, none⟩ (.int .u8 (c.toNat : Int))) g e (r.set k c) ∧ Only g w (w.setCell ⟨g, k, none⟩ (.int .u8 (c.toNat : Int))) := by
  have := BlkAt.stored h k (encB c)
  rw [← List.map_set] at this
  exact this
theorem RowAt.made {w : World} {base g n : Nat} {e : TypeId} (h : w.ownsRow base e 1 (.slice (some ⟨g, 0, none⟩) n n) n (madeCells #[Value.int .u8 0] n).toList) : RowAt w g e (List.replicate n 0) := by
  rw [toList_madeCells_one] at h
  have := BlkAt.of_own h
  unfold RowAt
  rw [List.map_replicate]
  exact this
/-- Block g holds the numbers xs, and nothing more. -/
def NumAt (w : World) (g : Nat) (e : TypeId) (xs : List Int) : Prop := BlkAt w g e (xs.map (Value.int .i64))
theorem NumAt.cell {w : World} {g : Nat} {e : TypeId} {xs : List Int} (h : NumAt w g e xs) {k : Nat} (hk : k < xs.length) : w.cell? ⟨g, k, none⟩ = some (.int .i64 (xs.getD k 0)) :=
  BlkAt.cell h (by simp [hk])
theorem NumAt.stored {w : World} {g : Nat} {e : TypeId} {xs : List Int} (h : NumAt w g e xs) (k : Nat) (x : Int) : NumAt (w.setCell ⟨g, k, none⟩ (.int .i64 x)) g e (xs.set k x) ∧ Only g w (w.setCell ⟨g, k, none⟩ (.int .i64 x)) := by
  have := BlkAt.stored h k (.int .i64 x)
  rw [← List.map_set] at this
  exact this
theorem NumAt.made {w : World} {base g n : Nat} {e : TypeId} (h : w.ownsRow base e 1 (.slice (some ⟨g, 0, none⟩) n n) n (madeCells #[Value.int .i64 0] n).toList) : NumAt w g e (List.replicate n 0) := by
  rw [toList_madeCells_one] at h
  have := BlkAt.of_own h
  unfold NumAt
  rw [List.map_replicate]
  exact this
theorem NumAt.ints {w : World} {g n : Nat} {e : TypeId} {xs : List Int} (h : NumAt w g e xs) (hn : xs.length = n) : IsInts w w.heap.size (some ⟨g, 0, none⟩) n xs :=
  ⟨hn, fun _ => ⟨g, 0, rfl, BlkAt.lt h, fun j hj => by rw [Nat.zero_add]; exact h.cell (by omega)⟩⟩

/-- 'copy(d, s)', d lying in a block that is known whole: only this block turns. -/
theorem wpList_copy_only {P : Program} {w : World} {ops : Array Oper} {rest : List Oper} {o : Oper} {a : Act} {Q : Exit → Act → World → Prop} (hgd : o.guard = none) (d s : Operand) (dT sT : TypeId)
    (ho : o.op = .call { callee := .builtin .copy, args := #[d, s], argTypes := #[dT, sT] }) (elem : TypeId) (hu : P.underlying dT = some (.slice elem)) (hsz : (P.info? elem).map (·.size) = some 1)
    (g off dLen dCap : Nat) (ad : Addr) (sLen sCap : Nat) (hd : a.eval d = .slice (some ⟨g, off, none⟩) dLen dCap) (hs : a.eval s = .slice (some ad) sLen sCap)
    (vs : List Value) (t : TypeId) (hg : BlkAt w g t vs) (cs : List Value) (hn : cs.length = Nat.min sLen dLen)
    (hsrc : ∀ j v, cs[j]? = some v → w.cell? (ad.add j) = some v) (hfit : off + cs.length ≤ vs.length) (h1 : ∀ v ∈ cs, v.oneCell' = true)
    (h : ∀ n w', BlkAt w' g t (splice vs off cs) → Only g w w' → wpList P ops Q rest (a.put o.dst (goInt n)) w') : wpList P ops Q (o :: rest) a w := by
  refine wpList_copy_own hgd d s dT sT ho elem hu hsz g off dLen dCap ad sLen sCap hd hs vs.toArray t hg cs hn hsrc (by simpa using hfit) h1 ?_
  refine h _ _ ?_ (Only.setRow _ _ _)
  unfold BlkAt
  rw [setRow_heap w g _ _ t _ hg]
  simp [splice]
end Go.Proofs.YtlfncplldppncaaDoor

/-
  Plain facts on memory for Huffman's heaps: worlds that differ in some blocks alone, a row of heaps (a weight and a slice of places each) that lies whole in one block, one of them taken out and one put behind, and slices of places. No condition.
-/
namespace Go.Proofs.YtlfncplldppncaaDoor
open Go.RowKit

/-! ### Worlds that differ in the blocks of S alone -/
/-- Blocks outside S are as they were; new ones may have been made. -/
structure Chg (S : Nat → Prop) (w w' : World) : Prop where
  os : w'.os = w.os
  tape : w'.tape = w.tape
  output : w'.output = w.output
  size : w.heap.size ≤ w'.heap.size
  block : ∀ b, b < w.heap.size → ¬ S b → w'.heap[b]? = w.heap[b]?
theorem Chg.refl (S : Nat → Prop) (w : World) : Chg S w w := ⟨rfl, rfl, rfl, Nat.le_refl _, fun _ _ _ => rfl⟩
theorem Chg.trans {S : Nat → Prop} {a b c : World} (h : Chg S a b) (k : Chg S b c) : Chg S a c :=
  ⟨k.os.trans h.os, k.tape.trans h.tape, k.output.trans h.output, Nat.le_trans h.size k.size, fun i hi hs => (k.block i (Nat.lt_of_lt_of_le hi h.size) hs).trans (h.block i hi hs)⟩
theorem Chg.of_below {S : Nat → Prop} {w w' : World} (h : Below w.heap.size w w') : Chg S w w' := ⟨h.os, h.tape, h.output, h.size, fun b hb _ => h.block b hb⟩
theorem Chg.of_only {S : Nat → Prop} {g : Nat} {w w' : World} (h : Only g w w') (hg : S g) : Chg S w w' :=
  ⟨h.os, h.tape, h.output, Nat.le_of_eq h.size.symm, fun b _ hn => h.block b (fun e => hn (e ▸ hg))⟩
theorem Chg.drewN {S : Nat → Prop} {a b : World} (h : Chg S a b) (q : Nat) : Chg S a (b.drewN q) := ⟨h.os, h.tape, h.output, h.size, h.block⟩
theorem Chg.alloc (S : Nat → Prop) (w : World) (o : Obj) : Chg S w (w.alloc o) := Chg.of_below ((Below.refl _ w).alloc (Nat.le_refl _) o)
theorem Chg.below {S : Nat → Prop} {B : Nat} {w w' : World} (h : Chg S w w') (hS : ∀ b, S b → B ≤ b) (hB : B ≤ w.heap.size) : Below B w w' :=
  ⟨h.os, h.tape, h.output, h.size, fun k hk => h.block k (by omega) (fun hs => by have := hS k hs; omega)⟩
theorem Chg.mono {S S' : Nat → Prop} {w w' : World} (h : Chg S w w') (hS : ∀ b, S b → S' b) : Chg S' w w' := ⟨h.os, h.tape, h.output, h.size, fun b hb hn => h.block b hb fun hs => hn (hS b hs)⟩
theorem Chg.cell {S : Nat → Prop} {b o : Nat} {w w' : World} (h : Chg S w w') (hb : b < w.heap.size) (hn : ¬ S b) : w'.cell? ⟨b, o, none⟩ = w.cell? ⟨b, o, none⟩ := by
  unfold World.cell?
  rw [h.block b hb hn]
theorem BlkAt.chg {S : Nat → Prop} {w w' : World} {g : Nat} {e : TypeId} {vs : List Value} (h : BlkAt w g e vs) (hc : Chg S w w') (hn : ¬ S g) : BlkAt w' g e vs :=
  (hc.block g h.lt hn).trans h
theorem BlkAt.only {w w' : World} {g k : Nat} {e : TypeId} {vs : List Value} (h : BlkAt w g e vs) (hc : Only k w w') (hn : g ≠ k) : BlkAt w' g e vs := (hc.block g hn).trans h
theorem BlkAt.below {w w' : World} {g B : Nat} {e : TypeId} {vs : List Value} (h : BlkAt w g e vs) (hc : Below B w w') (hB : w.heap.size ≤ B) : BlkAt w' g e vs := (hc.block g (Nat.lt_of_lt_of_le h.lt hB)).trans h
theorem BlkAt.new (w : World) (e : TypeId) (vs : List Value) (g : Nat) (hg : w.heap.size = g) : BlkAt (w.alloc (.cells vs.toArray e)) g e vs := by
  subst hg
  exact heap_alloc_new w _
theorem BlkAt.alloc {w : World} {g : Nat} {e : TypeId} {vs : List Value} (h : BlkAt w g e vs) (o : Obj) : BlkAt (w.alloc o) g e vs := h.below ((Below.refl _ w).alloc (Nat.le_refl _) o) (Nat.le_refl _)
/-- Several cells stored. -/
theorem BlkAt.stores {g : Nat} {e : TypeId} : ∀ (cs : List Value) (o : Nat) (vs : List Value) (w : World), BlkAt w g e vs → o + cs.length ≤ vs.length → BlkAt (w.setCells g o cs) g e (splice vs o cs) ∧ Only g w (w.setCells g o cs)
  | [], o, vs, w, h, _ => ⟨by simpa [splice, World.setCells] using h, Only.refl _ _⟩
  | c :: cs, o, vs, w, h, hl => by
    rw [List.length_cons] at hl
    obtain ⟨h1, h2⟩ := h.stored o c
    obtain ⟨h3, h4⟩ := BlkAt.stores cs (o + 1) (vs.set o c) _ h1 (by rw [List.length_set]; omega)
    rw [World.setCells]
    refine ⟨?_, h2.trans h4⟩
    have e : splice (vs.set o c) (o + 1) cs = splice vs o (c :: cs) := by
      unfold splice
      rw [List.length_cons, List.take_set, List.drop_set_of_lt (by omega), List.take_add_one, show o + 1 + cs.length = o + (cs.length + 1) by omega]
      have ho : o < vs.length := by omega
      simp only [List.getElem?_eq_getElem ho, Option.toList_some]
      rw [List.set_append_right _ _ (by rw [List.length_take]; omega), List.length_take, Nat.min_eq_left (by omega)]
      simp
    rwa [e] at h3

/-! ### A row of heaps -/
/-- A heap: its weight, the block that holds its places and that slice's capacity, and the places. -/
abbrev Tr := Int × (Nat × Nat) × List Nat
def tz : Tr := (0, (0, 0), [])
/-- A heap's slice. -/
def sv (t : Tr) : Value := .slice (some ⟨t.2.1.1, 0, none⟩) t.2.2.length t.2.1.2
/-- A heap's two cells. -/
def encT (t : Tr) : List Value := [.int .i64 t.1, sv t]
/-- A heap without the slice. -/
def hp (t : Tr) : Int × List Nat := (t.1, t.2.2)
theorem flatT_len (ts : List Tr) : (ts.flatMap encT).length = ts.length * 2 := by
  induction ts with
  | nil => rfl
  | cons x xs ih => rw [List.flatMap_cons, List.length_append, ih]; simp [encT]; omega
theorem flatT_get (ts : List Tr) : ∀ j, j < ts.length → (ts.flatMap encT)[j * 2]? = some (.int .i64 (ts.getD j tz).1) ∧ (ts.flatMap encT)[j * 2 + 1]? = some (sv (ts.getD j tz)) := by
  induction ts with
  | nil => intro j hj; simp at hj
  | cons x xs ih =>
    intro j hj
    cases j with
    | zero => simp [encT]
    | succ j =>
      have := ih j (by simpa using hj)
      rw [List.flatMap_cons, show (j + 1) * 2 = j * 2 + 2 by omega, show j * 2 + 2 + 1 = (j * 2 + 1) + 2 by omega]
      simpa [encT] using this
theorem flatT_take (ts : List Tr) : ∀ i, (ts.take i).flatMap encT = (ts.flatMap encT).take (i * 2) := by
  induction ts with
  | nil => simp
  | cons x xs ih =>
    intro i
    cases i with
    | zero => simp
    | succ i =>
      rw [List.take_succ_cons, List.flatMap_cons, List.flatMap_cons, ih, show (i + 1) * 2 = i * 2 + 2 by omega]
      simp [encT]
theorem flatT_drop (ts : List Tr) : ∀ i, (ts.drop i).flatMap encT = (ts.flatMap encT).drop (i * 2) := by
  induction ts with
  | nil => simp
  | cons x xs ih =>
    intro i
    cases i with
    | zero => simp
    | succ i =>
      rw [List.drop_succ_cons, List.flatMap_cons, ih, show (i + 1) * 2 = i * 2 + 2 by omega]
      simp [encT]
/-- Block g has room for cap heaps, and ts are the first of them. -/
def TreesAt (w : World) (g : Nat) (e : TypeId) (cap : Nat) (ts : List Tr) : Prop := ts.length ≤ cap ∧ ∃ rest : List Value, ts.length * 2 + rest.length = cap * 2 ∧ BlkAt w g e (ts.flatMap encT ++ rest)
theorem TreesAt.lt {w : World} {g cap : Nat} {e : TypeId} {ts : List Tr} (h : TreesAt w g e cap ts) : g < w.heap.size := by
  obtain ⟨_, _, _, hb⟩ := h
  exact hb.lt
theorem TreesAt.cell {w : World} {g cap : Nat} {e : TypeId} {ts : List Tr} (h : TreesAt w g e cap ts) {k : Nat} (hk : k < ts.length) : w.cell? ⟨g, k * 2, none⟩ = some (.int .i64 (ts.getD k tz).1) ∧ w.cell? ⟨g, k * 2 + 1, none⟩ = some (sv (ts.getD k tz)) := by
  obtain ⟨_, rest, _, hb⟩ := h
  have hf := flatT_get ts k hk
  have hl := flatT_len ts
  exact ⟨hb.cell (by rw [List.getElem?_append_left (by omega)]; exact hf.1), hb.cell (by rw [List.getElem?_append_left (by omega)]; exact hf.2)⟩
theorem TreesAt.chg {S : Nat → Prop} {w w' : World} {g cap : Nat} {e : TypeId} {ts : List Tr} (h : TreesAt w g e cap ts) (hc : Chg S w w') (hn : ¬ S g) : TreesAt w' g e cap ts := by
  obtain ⟨h1, rest, h2, hb⟩ := h
  exact ⟨h1, rest, h2, hb.chg hc hn⟩
theorem TreesAt.only {w w' : World} {g k cap : Nat} {e : TypeId} {ts : List Tr} (h : TreesAt w g e cap ts) (hc : Only k w w') (hn : g ≠ k) : TreesAt w' g e cap ts := by
  obtain ⟨h1, rest, h2, hb⟩ := h
  exact ⟨h1, rest, h2, hb.only hc hn⟩
theorem TreesAt.below {w w' : World} {g B cap : Nat} {e : TypeId} {ts : List Tr} (h : TreesAt w g e cap ts) (hc : Below B w w') (hB : w.heap.size ≤ B) : TreesAt w' g e cap ts := by
  obtain ⟨h1, rest, h2, hb⟩ := h
  exact ⟨h1, rest, h2, hb.below hc hB⟩
/-- Room for heaps, as it has just been made. -/
theorem TreesAt.made {w : World} {base g n : Nat} {e : TypeId} {xs : List Value} (h : w.ownsRow base e 2 (.slice (some ⟨g, 0, none⟩) n n) n xs) : TreesAt w g e n [] ∧ base ≤ g := by
  have hl := h.1
  rcases h.2 with ⟨h1, _⟩ | ⟨g', cap, cur, h1, hg, h3, _, _, h5, h6⟩
  · cases h1
  · injection h1 with a1 a2 a3
    subst a3
    injection a1 with a1
    injection a1 with a1
    subst a1
    refine ⟨⟨by simp, xs, by simp; omega, ?_⟩, hg⟩
    unfold BlkAt
    rw [h3, List.flatMap_nil, List.nil_append, ← h6, List.take_of_length_le (by rw [Array.length_toList, h5]; exact Nat.le_refl _)]
/-- One heap more is written. -/
theorem TreesAt.more {w : World} {g cap : Nat} {e : TypeId} {ts : List Tr} (h : TreesAt w g e cap ts) {i : Nat} (hi : ts.length = i) (hc : i < cap) (t : Tr) :
    (∀ j, j < 2 → (w.cell? ⟨g, i * 2 + j, none⟩).isSome = true) ∧ (∀ j, w.frozen? ⟨g, j, none⟩ = false) ∧
    TreesAt ((w.setCell ⟨g, i * 2, none⟩ (.int .i64 t.1)).setCell ⟨g, i * 2 + 1, none⟩ (sv t)) g e cap (ts ++ [t]) ∧ Only g w ((w.setCell ⟨g, i * 2, none⟩ (.int .i64 t.1)).setCell ⟨g, i * 2 + 1, none⟩ (sv t)) := by
  subst hi
  obtain ⟨h1, rest, h2, hb⟩ := h
  have hl := flatT_len ts
  obtain ⟨x, y, rest, rfl⟩ : ∃ x y r, rest = x :: y :: r := by
    match rest, h2 with
    | [], h2 => simp at h2; omega
    | [x], h2 => simp at h2; omega
    | x :: y :: r, _ => exact ⟨x, y, r, rfl⟩
  obtain ⟨h3, h4⟩ := hb.stores [.int .i64 t.1, sv t] (ts.length * 2) _ _ (by rw [List.length_append, hl]; simp)
  refine ⟨fun j hj => ?_, hb.frozen, ⟨by rw [List.length_append]; simp; omega, rest, by rw [List.length_append]; simp at h2 ⊢; omega, ?_⟩, h4⟩
  · match j, hj with
    | 0, _ => rw [hb.cell (v := x) (by rw [List.getElem?_append_right (by omega), hl]; simp)]; rfl
    | 1, _ => rw [hb.cell (v := y) (by rw [List.getElem?_append_right (by omega), hl, show ts.length * 2 + 1 - ts.length * 2 = 1 by omega]; rfl)]; rfl
  · have e : splice (ts.flatMap encT ++ x :: y :: rest) (ts.length * 2) [.int .i64 t.1, sv t] = (ts ++ [t]).flatMap encT ++ rest := by
      unfold splice
      rw [List.take_append_of_le_length (by omega), List.take_of_length_le (by omega), List.drop_append, List.flatMap_append]
      have d1 : List.drop (ts.length * 2 + [Value.int .i64 t.1, sv t].length) (List.flatMap encT ts) = [] := List.drop_eq_nil_of_le (by rw [hl]; simp)
      rw [d1, hl, show ts.length * 2 + [Value.int .i64 t.1, sv t].length - ts.length * 2 = 2 by simp]
      simp [encT]
    rwa [e] at h3
/-- What deleting heap i leaves. -/
theorem TreesAt.del {w : World} {g cap : Nat} {e : TypeId} {ts : List Tr} (h : TreesAt w g e cap ts) {i : Nat} (hi : i < ts.length) (x y : Value) :
    TreesAt ((w.setCells g (i * 2) ((ts.drop (i + 1)).flatMap encT)).setCells g ((ts.length - 1) * 2) [x, y]) g e cap (ts.eraseIdx i) ∧ Only g w ((w.setCells g (i * 2) ((ts.drop (i + 1)).flatMap encT)).setCells g ((ts.length - 1) * 2) [x, y]) := by
  obtain ⟨h1, rest, h2, hb⟩ := h
  have hl := flatT_len ts
  have hd : ((ts.drop (i + 1)).flatMap encT).length = (ts.length - (i + 1)) * 2 := by rw [flatT_len, List.length_drop]
  obtain ⟨h3, h4⟩ := hb.stores ((ts.drop (i + 1)).flatMap encT) (i * 2) _ _ (by rw [List.length_append, hl, hd]; omega)
  have hsl := length_splice (ts.flatMap encT ++ rest) (i * 2) ((ts.drop (i + 1)).flatMap encT) (by rw [List.length_append, hl, hd]; omega)
  obtain ⟨h5, h6⟩ := h3.stores [x, y] ((ts.length - 1) * 2) _ _ (by rw [hsl, List.length_append, hl]; simp; omega)
  have he : (ts.eraseIdx i).length = ts.length - 1 := List.length_eraseIdx_of_lt hi
  refine ⟨⟨by omega, [x, y] ++ rest, by rw [he]; simp; omega, ?_⟩, h4.trans h6⟩
  have e : splice (splice (ts.flatMap encT ++ rest) (i * 2) ((ts.drop (i + 1)).flatMap encT)) ((ts.length - 1) * 2) [x, y] = (ts.eraseIdx i).flatMap encT ++ ([x, y] ++ rest) := by
    have e1 : splice (ts.flatMap encT ++ rest) (i * 2) ((ts.drop (i + 1)).flatMap encT) = (ts.eraseIdx i).flatMap encT ++ ((ts.flatMap encT).drop ((ts.length - 1) * 2) ++ rest) := by
      rw [List.eraseIdx_eq_take_drop_succ, List.flatMap_append, flatT_take]
      unfold splice
      rw [hd, List.take_append_of_le_length (by omega), List.drop_append_of_le_length (by omega), show i * 2 + (ts.length - (i + 1)) * 2 = (ts.length - 1) * 2 by omega]
      simp
    rw [e1]
    have l1 : ((ts.eraseIdx i).flatMap encT).length = (ts.length - 1) * 2 := by rw [flatT_len, he]
    unfold splice
    rw [List.take_append_of_le_length (by omega), List.take_of_length_le (by omega), List.drop_append, l1]
    have l2 : (List.drop ((ts.length - 1) * 2) (ts.flatMap encT)).length = 2 := by rw [List.length_drop, hl]; omega
    have d1 : List.drop ((ts.length - 1) * 2 + [x, y].length) ((ts.eraseIdx i).flatMap encT) = [] := List.drop_eq_nil_of_le (by rw [l1]; simp)
    have d2 : List.drop 2 (List.drop ((ts.length - 1) * 2) (ts.flatMap encT)) = [] := List.drop_eq_nil_of_le (by omega)
    rw [d1, List.nil_append, show (ts.length - 1) * 2 + [x, y].length - (ts.length - 1) * 2 = 2 by simp, List.drop_append, l2, d2]
    simp
  rwa [e] at h5
/-- Built-in clear at one element. -/
theorem run_clear_one {P : Program} (w : World) (t e ty : TypeId) (z : Value) (ht : P.underlying t = some (.slice e)) (hv : ∀ w, (zeroValue e).run P w = .ok z w) (b o c k : Nat) (hk : k = 1) (x y : Value) (hz : z.cells = #[x, y]) (h1 : x.oneCell' = true) (h2 : y.oneCell' = true)
    (hc : ∀ j, j < 2 → (w.cell? ⟨b, o + j, none⟩).isSome = true) (hf : ∀ j, j < 2 → w.frozen? ⟨b, o + j, none⟩ = false) :
    (Builtin.clear_ #[t] ty #[.slice (some ⟨b, o, none⟩) k c]).run P w = .ok (.tuple #[]) (w.setCells b o [x, y]) := by
  subst hk
  have hzc : (Builtin.zeroCells z.cells 1).toList = [x, y] := by
    rw [hz]
    simp [Builtin.zeroCells, List.range_succ]
  have hst := run_storeCells_cells (P := P) b o [x, y] 0 w (by simpa using hc) (by simpa using hf) (by intro v hv'; simp at hv'; rcases hv' with rfl | rfl <;> assumption)
  simp only [Nat.add_zero] at hst
  simp [Builtin.clear_, run_underlying ht, hv, hzc, hst]
/-- 'ts = append(ts, t)' where there is room. -/
theorem wpList_append_tree {P : Program} (wr : World) {ops : Array Oper} {rest : List Oper} {o : Oper} {a : Act} {Q : Exit → Act → World → Prop} (hgd : o.guard = none) (s x : Operand) (t : TypeId)
    (ho : o.op = .call { callee := .builtin .append, args := #[s, x], argTypes := #[t, t] }) (e : TypeId) (i : TypeInfo)
    (ht : P.underlying t = some (.slice e)) (hi : P.info? e = some i) (hsize : i.size = 2) (g cap n : Nat) (ts : List Tr) (hn : ts.length = n)
    (hs : a.eval s = .slice (some ⟨g, 0, none⟩) n cap) (hT : TreesAt wr g e cap ts) (hroom : n < cap) (k : Tr) (ad : Addr) (c : Nat) (hx : a.eval x = .slice (some ad) 1 c)
    (hc0 : wr.cell? (ad.add 0) = some (.int .i64 k.1)) (hc1 : wr.cell? (ad.add 1) = some (sv k))
    (h : ∀ w', TreesAt w' g e cap (ts ++ [k]) → Only g wr w' → wpList P ops Q rest (a.put o.dst (.slice (some ⟨g, 0, none⟩) (n + 1) cap)) w') :
    wpList P ops Q (o :: rest) a wr := by
  subst hn
  obtain ⟨h1, re, h2, hb⟩ := hT
  have hl := flatT_len ts
  refine wpList_plain hgd fun K hK => ?_
  have hrun := run_append_room (P := P) wr t o.type e i ht hi g ts.length cap _ hb ad 1 c [.int .i64 k.1, sv k] (by rw [hsize]; rfl) (by
    intro j u hj
    match j, hj with
    | 0, hj => simp at hj; subst hj; exact hc0
    | 1, hj => simp at hj; subst hj; exact hc1) (by
    intro u hu
    simp at hu
    rcases hu with rfl | rfl
    · rfl
    · rfl) (by omega) (by rw [hsize]; simp [hl]; omega)
  unfold Oper.wp
  simp only [execOp, ho, resolve, invoke, builtin, Sem.run_bind, Sem.run_pure, Result.andThen_ok, List.map_toArray, List.map_cons, List.map_nil, hs, hx, hrun]
  refine hK _ _ (h _ ?_ (Only.setRow _ _ _))
  refine ⟨by rw [List.length_append]; simp; omega, re.drop 2, by rw [List.length_append, List.length_drop]; simp; omega, ?_⟩
  unfold BlkAt
  rw [setRow_heap wr g _ _ e _ hb, hsize]
  congr 3
  have l1 : (List.flatMap encT ts ++ re).length = cap * 2 := by rw [List.length_append, hl]; omega
  simp only [List.length_cons, List.length_nil]
  have d1 : List.drop (ts.length * 2 + (0 + 1 + 1)) (List.flatMap encT ts) = [] := List.drop_eq_nil_of_le (by omega)
  rw [List.take_append_of_le_length (by omega), List.take_of_length_le (by omega), List.drop_append, d1, hl, List.flatMap_append]
  simp [encT]

/-- A struct in a result's variable. -/
theorem run_results_blk {P : Program} {fn : Func} {p : Tmp} {t : TypeId} (h : fn.results = #[.cell p t]) (tmps : Array Value) (w : World) (g : Nat) (fs : Array Field) (vs : List Value)
    (hp : tmps.getD p undef = .pointer (some ⟨g, 0, none⟩)) (hB : BlkAt w g t vs) (hu : P.underlying t = some (.struct fs)) (hi : (P.info? t).map (·.size) = some vs.length) :
    (results fn tmps).run P w = .ok (.agg vs.toArray) w := by
  have hl := run_loadVar_row (P := P) w g t t vs.toArray (0, 0) _ hB hu rfl (by simpa using hi)
  have hp' : tmps[p]?.getD undef = .pointer (some ⟨g, 0, none⟩) := by simpa using hp
  simp only [results, h]
  simp [hp', asAddr, hl]
/-- A row of the call's own that holds something, by its block. -/
theorem OwnI.blk {w : World} {base : Nat} {e : TypeId} {v : Value} {xs : List Int} (h : OwnI w base e v xs) (h0 : 0 < xs.length) :
    ∃ g c, v = .slice (some ⟨g, 0, none⟩) xs.length c ∧ xs.length ≤ c ∧ base ≤ g ∧ IsInts w w.heap.size (some ⟨g, 0, none⟩) xs.length xs := by
  obtain ⟨A, c, rfl, hc, hI⟩ := IsInts.of_own h
  unfold OwnI at h
  rcases h.2 with ⟨_, hz⟩ | ⟨g, cap, cur, e, hg, _⟩
  · omega
  · injection e with e1 e2 e3
    subst e1
    exact ⟨g, c, rfl, hc, hg, hI⟩
/-- A literal of one number. -/
theorem OwnI.lit (w : World) (e : TypeId) (k : Int) : OwnI (w.alloc (.cells #[.int .i64 k] e)) w.heap.size e (.slice (some ⟨w.heap.size, 0, none⟩) 1 1) [k] :=
  ⟨rfl, .inr ⟨w.heap.size, 1, _, rfl, Nat.le_refl _, heap_alloc_new w _, Nat.le_refl _, by unfold maxLen; omega, rfl, rfl⟩⟩
/-- 'append(out, x...)', out nil or the call's own, x a slice of numbers that is not nil: nothing below 'base' has turned. -/
theorem wpList_append_ints {P : Program} (wr : World) {ops : Array Oper} {rest : List Oper} {o : Oper} {a : Act} {Q : Exit → Act → World → Prop} (hgd : o.guard = none) (s x : Operand) (t : TypeId)
    (ho : o.op = .call { callee := .builtin .append, args := #[s, x], argTypes := #[t, t] }) (base : Nat) (e : TypeId) (i : TypeInfo)
    (ht : P.underlying t = some (.slice e)) (hi : P.info? e = some i) (hz : i.zero = some (.int .i64 0)) (hsize : i.size = 1) (hby : i.bytes = 8)
    (v : Value) (cs : List Int) (hs : a.eval s = v) (hown : OwnI wr base e v cs) (g off m c : Nat) (xs : List Int) (hm : xs.length = m) (hx : a.eval x = .slice (some ⟨g, off, none⟩) m c) (hxs : ∀ j, j < m → wr.cell? ⟨g, off + j, none⟩ = some (.int .i64 (xs.getD j 0)))
    (hlen : cs.length + m ≤ 1099511627776) (hbase : base ≤ wr.heap.size)
    (h : ∀ v' w', OwnI w' base e v' (cs ++ xs) → Below base wr w' → wpList P ops Q rest (a.put o.dst v') w') :
    wpList P ops Q (o :: rest) a wr := by
  refine wpList_append_own _ hgd s x t ho base e i (.int .i64 0) 1 8 ht hi hz hsize hby rfl (by decide) v _ _ hs hown ⟨g, off, none⟩ m c (xs.map (Value.int .i64)) hx (by simp [hm]) ?_ ?_ ?_ ?_ hbase ?_
  · intro j u hj
    have hl : j < xs.length := by
      have := (List.getElem?_eq_some_iff.1 hj).1
      simpa using this
    rw [Addr.add_lit, hxs j (by omega)]
    simp [hl] at hj
    simp [hl, hj]
  · intro u hu
    obtain ⟨_, _, rfl⟩ := List.mem_map.1 hu
    rfl
  · unfold maxLen; omega
  · omega
  · intro v' w' ho hg _
    refine h v' w' (OwnI.mk_ (by rw [List.map_append, List.length_append, hm]; exact ho)) ((Below.refl base wr).grown hg hbase fun b hb => ?_)
    exact (World.ownsRow.lt hown b hb).1
/-! ### Slices of places -/
/-- The heap's slice holds its places, in a block outside S. -/
def Leaf (w : World) (S : Nat → Prop) (t : Tr) : Prop := 0 < t.2.2.length ∧ t.2.2.length ≤ t.2.1.2 ∧ ¬ S t.2.1.1 ∧ t.2.1.1 < w.heap.size ∧ ∀ j, j < t.2.2.length → w.cell? ⟨t.2.1.1, j, none⟩ = some (.int .i64 ((t.2.2.getD j 0 : Nat) : Int))
theorem Leaf.chg {S : Nat → Prop} {w w' : World} {t : Tr} (h : Leaf w S t) (hc : Chg S w w') : Leaf w' S t := by
  obtain ⟨h0, hl, hs, hg, hx⟩ := h
  exact ⟨h0, hl, hs, Nat.lt_of_lt_of_le hg hc.size, fun j hj => (hc.cell hg hs).trans (hx j hj)⟩
theorem Leaf.mono {S S' : Nat → Prop} {w : World} {t : Tr} (h : Leaf w S t) (hS : ∀ b, b < w.heap.size → S' b → S b) : Leaf w S' t := by
  obtain ⟨h0, hl, hs, hg, hx⟩ := h
  exact ⟨h0, hl, fun hn => hs (hS _ hg hn), hg, hx⟩
/-- The places as numbers. -/
def nums (xs : List Nat) : List Int := xs.map fun (j : Nat) => (j : Int)
theorem nums_len (xs : List Nat) : (nums xs).length = xs.length := by simp [nums]
theorem nums_at (xs : List Nat) (j : Nat) : (nums xs).getD j 0 = ((xs.getD j 0 : Nat) : Int) := by
  by_cases hj : j < xs.length <;> simp [nums, hj]
theorem nums_set (xs : List Nat) (k y : Nat) : (nums xs).set k ((y : Int) + 1) = nums (xs.set k (y + 1)) := by
  unfold nums
  rw [List.map_set]
  rfl
theorem nums_app (xs ys : List Nat) : nums (xs ++ ys) = nums xs ++ nums ys := by simp [nums]
theorem Leaf.ints {S : Nat → Prop} {w : World} {t : Tr} (h : Leaf w S t) : IsInts w w.heap.size (some ⟨t.2.1.1, 0, none⟩) t.2.2.length (nums t.2.2) := by
  obtain ⟨h0, hl, hs, hg, hx⟩ := h
  refine ⟨nums_len _, fun _ => ⟨t.2.1.1, 0, rfl, hg, fun j hj => ?_⟩⟩
  rw [Nat.zero_add, hx j hj, nums_at]
theorem Leaf.of_ints {S : Nat → Prop} {w : World} {x : Int} {g c : Nat} {xs : List Nat} (h : IsInts w w.heap.size (some ⟨g, 0, none⟩) xs.length (nums xs)) (h0 : 0 < xs.length) (hc : xs.length ≤ c) (hs : ¬ S g) : Leaf w S (x, (g, c), xs) := by
  obtain ⟨g', off, e, hg, hx⟩ := h.2 h0
  injection e with e
  injection e with e1 e2
  subst e1
  subst e2
  refine ⟨h0, hc, hs, hg, fun j hj => ?_⟩
  have := hx j hj
  rw [Nat.zero_add, nums_at] at this
  exact this
/-- Every heap's slice holds its places. -/
def Leaves (w : World) (S : Nat → Prop) (ts : List Tr) : Prop := ∀ t ∈ ts, Leaf w S t
theorem Leaves.chg {S : Nat → Prop} {w w' : World} {ts : List Tr} (h : Leaves w S ts) (hc : Chg S w w') : Leaves w' S ts := fun t ht => (h t ht).chg hc
theorem Leaves.erase {S : Nat → Prop} {w : World} {ts : List Tr} (h : Leaves w S ts) (k : Nat) : Leaves w S (ts.eraseIdx k) := fun t ht => h t (List.mem_of_mem_eraseIdx ht)
theorem Leaves.snoc {S : Nat → Prop} {w : World} {ts : List Tr} (h : Leaves w S ts) {t : Tr} (ht : Leaf w S t) : Leaves w S (ts ++ [t]) := fun u hu => by
  rcases List.mem_append.1 hu with hu | hu
  · exact h u hu
  · obtain rfl : u = t := by simpa using hu
    exact ht
theorem Leaves.at {S : Nat → Prop} {w : World} {ts : List Tr} (h : Leaves w S ts) {k : Nat} (hk : k < ts.length) : Leaf w S (ts.getD k tz) := by
  refine h _ ?_
  rw [List.getD_eq_getElem?_getD, List.getElem?_eq_getElem hk]
  exact List.getElem_mem hk
end Go.Proofs.YtlfncplldppncaaDoor

/-
  Contracts of letterbeckref2.All between any two bounds, Lengths, Power and Room. Conditions: at most a thousand numbers; a power of two up to twelve; lengths up to twelve, at most ten of them.
-/
namespace Go.Proofs.YtlfncplldppncaaDoor
open Go.RowKit

/-- Every number lies between two. -/
def InL (lo hi : Int) (l : List Int) : Prop := ∀ i, i < l.length → lo ≤ l.getD i 0 ∧ l.getD i 0 ≤ hi
set_option maxHeartbeats 1000000 in
theorem rallin_big (A : Option Addr) (n c : Nat) (l : List Int) (lo hi : Int) (w : World) (h : n ≤ 9223372036854775807) (hl : IsInts w w.heap.size A n l) :
    Calls Tryd.prog 19 #[.slice A n c, .int .i64 lo, .int .i64 hi] w fun e w' => ((InL lo hi l ∧ e = .returned (.bool true)) ∨ (¬ InL lo hi l ∧ e = .returned (.bool false))) ∧ w' = w := by
  have HI := hid hl
  have hls := hid hl.1
  clear hl
  go_enter Tryd.func19, Tryd.ntmps19
  go_wp2_with fail
  go_loopw [7] (fun x wr => ∃ i : Nat, i ≤ n ∧ x = .int .i64 i ∧ Hid (∀ j, j < i → lo ≤ l.getD j 0 ∧ l.getD j 0 ≤ hi) ∧ wr = w) (fun x _ => n - (intOf x).toNat)
  case atStart => exact ⟨0, by omega, rfl, hid (fun k hk => absurd hk (by omega)), rfl⟩
  case round =>
    obtain ⟨i, hin, rfl, HB, hwr⟩ := hrel
    subst hwr
    by_cases hlt : i < n
    · have hli : i < l.length := by rw [hls.out]; exact hlt
      obtain ⟨g, off, rfl, hg, hc⟩ := HI.out.2 (by omega)
      have c1 := hc i hlt
      by_cases hk : lo ≤ l.getD i 0 ∧ l.getD i 0 ≤ hi
      · have HB2 : Hid (∀ j, j < i + 1 → lo ≤ l.getD j 0 ∧ l.getD j 0 ≤ hi) := hid (fun j hj => by
          rcases Nat.lt_or_ge j i with h | h
          · exact HB.out j h
          · obtain rfl : j = i := by omega
            exact hk)
        have HN := fun W => hid (in2_yes (l.getD i 0) lo hi W hk.1 hk.2)
        generalize l.getD i 0 = K at c1 HN
        clear hk hli hc HB
        go_wp2_with fail
        refine (HN _).out.mono ?_
        rintro e w5 ⟨rfl, hw5⟩
        subst w5
        go_wp2_with fail
        go_roundw
        case rel => exact ⟨i + 1, by omega, by go_num, HB2, by first | rfl | trivial⟩
        case measure => simp [intOf]; omega
      · have HNB : Hid (¬ InL lo hi l) := hid (fun hB => hk (hB i hli))
        have HN := fun W => hid (in2_no (l.getD i 0) lo hi W hk)
        generalize l.getD i 0 = K at c1 HN
        clear hk hli hc HB
        go_wp2_with fail
        refine (HN _).out.mono ?_
        rintro e w5 ⟨rfl, hw5⟩
        subst w5
        go_wp2_with fail
        go_ret
        exact ⟨.inr ⟨HNB.out, rfl⟩, rfl⟩
    · obtain rfl : i = n := by omega
      have HBn : Hid (InL lo hi l) := hid (fun j hj => HB.out j (by rw [← hls.out]; exact hj))
      clear HB
      go_wp2_with fail
      go_ret
      exact ⟨.inl ⟨HBn.out, rfl⟩, rfl⟩
theorem rallin_any (A : Option Addr) (n c : Nat) (l : List Int) (lo hi : Int) (w : World) (h : n ≤ 1000) (hl : IsInts w w.heap.size A n l) :
    Calls Tryd.prog 19 #[.slice A n c, .int .i64 lo, .int .i64 hi] w fun e w' => ((InL lo hi l ∧ e = .returned (.bool true)) ∨ (¬ InL lo hi l ∧ e = .returned (.bool false))) ∧ w' = w := rallin_big A n c l lo hi w (by omega) hl
end Go.Proofs.YtlfncplldppncaaDoor

/-
  Plain facts on lengths of codes: what is wrong with them, and the room of the first of them. No condition.
-/
namespace Go.Proofs.YtlfncplldppncaaDoor

/-- What is wrong with lengths, 0 if nothing is. -/
def LenC (l : List Int) (k : Int) : Prop := (10 < l.length ∧ k = 4) ∨ (l.length ≤ 10 ∧ ¬ InL 1 12 l ∧ k = 1) ∨ (l.length ≤ 10 ∧ InL 1 12 l ∧ k = 0)
theorem pow_le {i n : Nat} (h : i ≤ n) : 2 ^ i ≤ 2 ^ n := Nat.pow_le_pow_right (by decide) h
theorem rm_succ (E : List Nat) {i : Nat} (hi : i < E.length) : rm 12 (E.take (i + 1)) = rm 12 (E.take i) + 2 ^ (12 - E.getD i 0) := by
  rw [List.take_succ_eq_append_getElem hi, rm_app]
  simp [rm, hi]
theorem rm_le (E : List Nat) : rm 12 E ≤ 4096 * E.length := by
  induction E with
  | nil => simp [rm]
  | cons d E ih =>
    have : 2 ^ (12 - d) ≤ 4096 := pow_le (n := 12) (by omega)
    simp only [rm, List.length_cons]
    omega
end Go.Proofs.YtlfncplldppncaaDoor

/-
  Plain mathematics of words that can be told apart, without a program: Sardinas and Patterson (by what one way is ahead of another one), words from their ends, words none of which begins another one. No condition.
-/
namespace Go.Proofs.YtlfncplldppncaaDoor

/-- The text of a row of words, by their places. -/
def catW (W : List (List UInt8)) (a : List Nat) : List UInt8 := a.flatMap fun i => W.getD i []
/-- Places of words. -/
def InW (W : List (List UInt8)) (a : List Nat) : Prop := ∀ i ∈ a, i < W.length
/-- Each text is of words in at most one way. -/
def UD (W : List (List UInt8)) : Prop := ∀ a b, InW W a → InW W b → catW W a = catW W b → a = b
/-- Words as they are let in: none is empty, none stands twice. -/
def Okw (W : List (List UInt8)) : Prop := W.Nodup ∧ ∀ x ∈ W, x ≠ []
/-- By what one way is ahead of another one. -/
inductive Dang (W : List (List UInt8)) : List UInt8 → Prop
  | start {i k : Nat} {s : List UInt8} (hi : i < W.length) (hk : k < W.length) (hne : i ≠ k) (h : W.getD i [] = W.getD k [] ++ s) : Dang W s
  | fwd {a r : List UInt8} {i : Nat} (ha : Dang W a) (hi : i < W.length) (h : W.getD i [] = a ++ r) : Dang W r
  | back {a r : List UInt8} {i : Nat} (ha : Dang W a) (hi : i < W.length) (h : a = W.getD i [] ++ r) : Dang W r
theorem catW_cons (W : List (List UInt8)) (i : Nat) (a : List Nat) : catW W (i :: a) = W.getD i [] ++ catW W a := rfl
theorem catW_app (W : List (List UInt8)) (a b : List Nat) : catW W (a ++ b) = catW W a ++ catW W b := by
  unfold catW
  rw [List.flatMap_append]
theorem catW_one (W : List (List UInt8)) (i : Nat) : catW W [i] = W.getD i [] := by rw [catW_cons]; exact List.append_nil _
theorem InW.cons {W : List (List UInt8)} {i : Nat} {a : List Nat} (h : InW W (i :: a)) : i < W.length ∧ InW W a := ⟨h i (by simp), fun j hj => h j (by simp [hj])⟩
theorem InW.mk {W : List (List UInt8)} {i : Nat} {a : List Nat} (hi : i < W.length) (h : InW W a) : InW W (i :: a) := fun j hj => by
  rcases List.mem_cons.1 hj with rfl | hj
  · exact hi
  · exact h j hj
theorem InW.app {W : List (List UInt8)} {a b : List Nat} (ha : InW W a) (hb : InW W b) : InW W (a ++ b) := fun j hj => by
  rcases List.mem_append.1 hj with hj | hj
  · exact ha j hj
  · exact hb j hj
theorem word_ne {W : List (List UInt8)} (h : Okw W) {i : Nat} (hi : i < W.length) : W.getD i [] ≠ [] := by
  refine h.2 _ ?_
  rw [List.getD_eq_getElem?_getD, List.getElem?_eq_getElem hi]
  exact List.getElem_mem hi
theorem word_one {W : List (List UInt8)} (h : Okw W) {i k : Nat} (hi : i < W.length) (hk : k < W.length) (e : W.getD i [] = W.getD k []) : i = k := by
  rw [List.getD_eq_getElem?_getD, List.getD_eq_getElem?_getD, List.getElem?_eq_getElem hi, List.getElem?_eq_getElem hk] at e
  simp only [Option.getD_some] at e
  exact (List.getElem_inj h.1).1 e
/-- One of two beginnings of a text begins the other one. -/
theorem two_begin {x y u v : List UInt8} (h : x ++ u = y ++ v) : (∃ r, x = y ++ r ∧ v = r ++ u) ∨ (∃ r, y = x ++ r ∧ u = r ++ v) := by
  rcases List.append_eq_append_iff.1 h with ⟨r, h1, h2⟩ | ⟨r, h1, h2⟩
  · exact .inr ⟨r, h1, h2⟩
  · exact .inl ⟨r, h1, h2⟩
/-- What is ahead comes of two rows that begin with different words. -/
theorem dang_rows {W : List (List UInt8)} {s : List UInt8} (h : Dang W s) : ∃ i k a b, i ≠ k ∧ InW W (i :: a) ∧ InW W (k :: b) ∧ catW W (i :: a) = catW W (k :: b) ++ s := by
  induction h with
  | @start i k s hi hk hne h => exact ⟨i, k, [], [], hne, InW.mk hi (fun _ h => by cases h), InW.mk hk (fun _ h => by cases h), by rw [catW_one, catW_one]; exact h⟩
  | @fwd a r j _ hj h ih =>
    obtain ⟨i, k, x, y, hne, hx, hy, e⟩ := ih
    obtain ⟨hi, hx⟩ := hx.cons
    obtain ⟨hk, hy⟩ := hy.cons
    refine ⟨k, i, y ++ [j], x, Ne.symm hne, InW.mk hk (hy.app (InW.mk hj (fun _ h => by cases h))), InW.mk hi hx, ?_⟩
    rw [← List.cons_append, catW_app, e, catW_one, h, List.append_assoc]
  | @back a r j _ hj h ih =>
    obtain ⟨i, k, x, y, hne, hx, hy, e⟩ := ih
    obtain ⟨hk, hy⟩ := hy.cons
    refine ⟨i, k, x, y ++ [j], hne, hx, InW.mk hk (hy.app (InW.mk hj (fun _ h => by cases h))), ?_⟩
    rw [e, ← List.cons_append, catW_app, catW_one, h, List.append_assoc]
theorem dang_two {W : List (List UInt8)} (h : Dang W []) : ¬ UD W := by
  obtain ⟨i, k, a, b, hne, ha, hb, e⟩ := dang_rows h
  intro hu
  rw [List.append_nil] at e
  have := hu _ _ ha hb e
  injection this with h1
  exact hne h1
/-- Where one way is ahead of another one and both end together, one of them is ahead by nothing. -/
theorem dang_end {W : List (List UInt8)} (n : Nat) : ∀ (s : List UInt8) (a b : List Nat), a.length + b.length ≤ n → Dang W s → InW W a → InW W b → s ++ catW W a = catW W b → Dang W [] := by
  induction n with
  | zero =>
    intro s a b hn hs ha hb e
    obtain rfl : b = [] := List.eq_nil_of_length_eq_zero (by omega)
    have : s = [] := (List.append_eq_nil_iff.1 e).1
    rw [← this]
    exact hs
  | succ n ih =>
    intro s a b hn hs ha hb e
    cases b with
    | nil =>
      have : s = [] := (List.append_eq_nil_iff.1 e).1
      rw [← this]
      exact hs
    | cons j b =>
      obtain ⟨hj, hb⟩ := hb.cons
      rw [catW_cons] at e
      rw [List.length_cons] at hn
      rcases two_begin e with ⟨r, h1, h2⟩ | ⟨r, h1, h2⟩
      · exact ih r a b (by omega) (.back hs hj h1) ha hb h2.symm
      · exact ih r b a (by omega) (.fwd hs hj h1) hb ha h2.symm
theorem two_dang {W : List (List UInt8)} (hw : Okw W) : ∀ a b, InW W a → InW W b → catW W a = catW W b → a ≠ b → Dang W [] := by
  intro a
  induction a with
  | nil =>
    intro b _ hb e hne
    cases b with
    | nil => exact absurd rfl hne
    | cons j b =>
      rw [catW_cons] at e
      exact absurd (List.append_eq_nil_iff.1 e.symm).1 (word_ne hw hb.cons.1)
  | cons i a ih =>
    intro b ha hb e hne
    obtain ⟨hi, ha⟩ := ha.cons
    cases b with
    | nil =>
      rw [catW_cons] at e
      exact absurd (List.append_eq_nil_iff.1 e).1 (word_ne hw hi)
    | cons j b =>
      obtain ⟨hj, hb'⟩ := hb.cons
      rw [catW_cons, catW_cons] at e
      by_cases hij : i = j
      · subst hij
        exact ih b ha hb' (List.append_cancel_left e) (fun h => hne (by rw [h]))
      · rcases two_begin e with ⟨r, h1, h2⟩ | ⟨r, h1, h2⟩
        · exact dang_end _ r a b (Nat.le_refl _) (.start hi hj hij h1) ha hb' h2.symm
        · exact dang_end _ r b a (Nat.le_refl _) (.start hj hi (Ne.symm hij) h1) hb' ha h2.symm
/-- SARDINAS, PATTERSON. -/
theorem ud_iff {W : List (List UInt8)} (hw : Okw W) : UD W ↔ ¬ Dang W [] :=
  ⟨fun h hd => dang_two hd h, fun h a b ha hb e => Classical.byContradiction fun hne => h (two_dang hw a b ha hb e hne)⟩
/-- A list that has all beginnings of the search and is closed has all that is ahead. -/
theorem dang_in {W : List (List UInt8)} {A : List (List UInt8)} (h1 : ∀ i k s, i < W.length → k < W.length → i ≠ k → W.getD i [] = W.getD k [] ++ s → s ∈ A)
    (h2 : ∀ a ∈ A, ∀ i r, i < W.length → (W.getD i [] = a ++ r ∨ a = W.getD i [] ++ r) → r ∈ A) {s : List UInt8} (h : Dang W s) : s ∈ A := by
  induction h with
  | @start i k s hi hk hne h => exact h1 i k s hi hk hne h
  | @fwd a r i _ hi h ih => exact h2 a ih i r hi (.inl h)
  | @back a r i _ hi h ih => exact h2 a ih i r hi (.inr h)
/-- What is ahead is the end of a word. -/
theorem dang_end_of {W : List (List UInt8)} {s : List UInt8} (h : Dang W s) : ∃ i, i < W.length ∧ ∃ p, W.getD i [] = p ++ s := by
  induction h with
  | @start i k s hi hk hne h => exact ⟨i, hi, _, h⟩
  | @fwd a r i _ hi h ih => exact ⟨i, hi, _, h⟩
  | @back a r i _ hi h ih =>
    obtain ⟨j, hj, p, e⟩ := ih
    exact ⟨j, hj, p ++ W.getD i [], by rw [e, h, List.append_assoc]⟩

/-! ### None begins another one -/
/-- No word begins another one. -/
def Pfree (W : List (List UInt8)) : Prop := ∀ i k, i < W.length → k < W.length → i ≠ k → ¬ W.getD k [] <+: W.getD i []
theorem pfree_ud {W : List (List UInt8)} (hw : Okw W) (h : Pfree W) : UD W := by
  refine (ud_iff hw).2 fun hd => ?_
  have : ∀ s, Dang W s → False := by
    intro s hs
    induction hs with
    | @start i k s hi hk hne e => exact h i k hi hk hne ⟨s, e.symm⟩
    | fwd _ _ _ ih => exact ih
    | back _ _ _ ih => exact ih
  exact this _ hd

/-! ### From their ends -/
theorem mir_len (W : List (List UInt8)) : (W.map List.reverse).length = W.length := List.length_map ..
theorem mir_at (W : List (List UInt8)) (i : Nat) : (W.map List.reverse).getD i [] = (W.getD i []).reverse := by
  by_cases hi : i < W.length <;> simp [hi]
theorem mir_cat (W : List (List UInt8)) (a : List Nat) : catW (W.map List.reverse) a.reverse = (catW W a).reverse := by
  induction a with
  | nil => rfl
  | cons i a ih =>
    rw [List.reverse_cons, catW_app, ih, catW_one, mir_at, catW_cons W i a, List.reverse_append]
theorem mir_ok {W : List (List UInt8)} (h : Okw W) : Okw (W.map List.reverse) := by
  refine ⟨List.Pairwise.map _ (fun a b hne e => hne (List.reverse_inj.1 e)) h.1, fun x hx => ?_⟩
  · obtain ⟨y, hy, rfl⟩ := List.mem_map.1 hx
    have := h.2 y hy
    simpa using this
theorem mir_ud {W : List (List UInt8)} (h : UD W) : UD (W.map List.reverse) := by
  intro a b ha hb e
  have e1 := mir_cat W a.reverse
  have e2 := mir_cat W b.reverse
  rw [List.reverse_reverse] at e1 e2
  rw [e1, e2] at e
  have e := List.reverse_inj.1 e
  have := h _ _ (fun j hj => by have := ha j (by simpa using hj); rwa [mir_len] at this) (fun j hj => by have := hb j (by simpa using hj); rwa [mir_len] at this) e
  exact List.reverse_inj.1 this
theorem mir_iff {W : List (List UInt8)} : UD (W.map List.reverse) ↔ UD W := by
  refine ⟨fun h => ?_, mir_ud⟩
  have := mir_ud h
  rwa [List.map_map, show List.reverse ∘ List.reverse = (id : List UInt8 → List UInt8) from funext fun x => List.reverse_reverse x, List.map_id] at this
end Go.Proofs.YtlfncplldppncaaDoor

/-
  Plain mathematics, without a program: McMillan: words of two signs that can be told apart have room. No condition.
-/
namespace Go.Proofs.YtlfncplldppncaaDoor

/-- A word of 0 and 1. -/
def Bin (x : List UInt8) : Prop := ∀ c ∈ x, c = 48 ∨ c = 49
theorem bin_app {x y : List UInt8} (hx : Bin x) (hy : Bin y) : Bin (x ++ y) := fun c hc => by
  rcases List.mem_append.1 hc with hc | hc
  · exact hx c hc
  · exact hy c hc
/-- Different words of B signs are at most 2 ^ B. -/
theorem bin_few (B : Nat) : ∀ X : List (List UInt8), X.Nodup → (∀ x ∈ X, Bin x ∧ x.length = B) → X.length ≤ 2 ^ B := by
  induction B with
  | zero =>
    intro X hn h
    match X, hn, h with
    | [], _, _ => simp
    | [_], _, _ => simp
    | x :: y :: X, hn, h =>
      have h1 := List.eq_nil_of_length_eq_zero (h x (by simp)).2
      have h2 := List.eq_nil_of_length_eq_zero (h y (by simp)).2
      rw [List.nodup_cons] at hn
      exact absurd (by rw [h1, h2]; simp) hn.1
  | succ B ih =>
    intro X hn h
    have part : ∀ (c : UInt8), ((X.filter fun x => x.head? == some c).map List.tail).length ≤ 2 ^ B := by
      intro c
      refine ih _ ?_ ?_
      · have hf := hn.filter (fun x => x.head? == some c)
        refine List.pairwise_map.2 (hf.imp_of_mem ?_)
        intro a b ha hb hne e
        have ha := (List.mem_filter.1 ha).2
        have hb := (List.mem_filter.1 hb).2
        cases a with
        | nil => simp at ha
        | cons p a =>
          cases b with
          | nil => simp at hb
          | cons q b =>
            simp at ha hb e
            exact hne (by rw [ha, hb, e])
      · intro y hy
        obtain ⟨x, hx, rfl⟩ := List.mem_map.1 hy
        obtain ⟨hx1, hx2⟩ := h x (List.mem_filter.1 hx).1
        exact ⟨fun c hc => hx1 c (List.mem_of_mem_tail hc), by rw [List.length_tail]; omega⟩
    have two : ∀ L : List (List UInt8), (∀ x ∈ L, x.head? = some 48 ∨ x.head? = some 49) → L.length = (L.filter fun x => x.head? == some (48 : UInt8)).length + (L.filter fun x => x.head? == some (49 : UInt8)).length := by
      intro L
      induction L with
      | nil => intro _; rfl
      | cons x L ihL =>
        intro hL
        have := ihL (fun y hy => hL y (by simp [hy]))
        rcases hL x (by simp) with e | e
        · rw [List.filter_cons, List.filter_cons, e]
          simp [this]; omega
        · rw [List.filter_cons, List.filter_cons, e]
          simp [this]; omega
    have h48 := part 48
    have h49 := part 49
    rw [List.length_map] at h48 h49
    rw [two X (fun x hx => ?_), Nat.pow_succ]
    · omega
    · obtain ⟨hx1, hx2⟩ := h x hx
      cases x with
      | nil => simp at hx2
      | cons c x => simpa using hx1 c (by simp)
/-- The room of words as long as they are, of 2 ^ B. -/
def rmX (B : Nat) : List (List UInt8) → Nat
  | [] => 0
  | x :: X => 2 ^ (B - x.length) + rmX B X
theorem rmX_app (B : Nat) (X Y : List (List UInt8)) : rmX B (X ++ Y) = rmX B X + rmX B Y := by
  induction X with
  | nil => simp [rmX]
  | cons x X ih => rw [List.cons_append, rmX, rmX, ih]; omega
theorem rmX_split (B : Nat) (X : List (List UInt8)) (h : ∀ x ∈ X, x.length ≤ B + 1) :
    rmX (B + 1) X = (X.filter fun x => x.length == B + 1).length + 2 * rmX B (X.filter fun x => !(x.length == B + 1)) := by
  induction X with
  | nil => rfl
  | cons x X ih =>
    have h1 := ih (fun y hy => h y (by simp [hy]))
    have h2 := h x (by simp)
    rw [rmX, h1]
    by_cases e : x.length = B + 1
    · simp [e]; omega
    · have e2 : (x.length == B + 1) = false := by simpa using e
      rw [List.filter_cons, List.filter_cons, e2]
      simp only [Bool.not_false, if_true, Bool.false_eq_true, if_false, rmX]
      rw [show B + 1 - x.length = (B - x.length) + 1 by omega, Nat.pow_succ]
      omega
/-- Different words of at most B signs have no more room than B + 1 times all. -/
theorem rmX_few (B : Nat) : ∀ X : List (List UInt8), X.Nodup → (∀ x ∈ X, Bin x ∧ x.length ≤ B) → rmX B X ≤ (B + 1) * 2 ^ B := by
  induction B with
  | zero =>
    intro X hn h
    have h1 := bin_few 0 X hn (fun x hx => ⟨(h x hx).1, by have := (h x hx).2; omega⟩)
    have h2 : ∀ Y : List (List UInt8), rmX 0 Y = Y.length := by
      intro Y
      induction Y with
      | nil => rfl
      | cons y Y ih => rw [rmX, ih, List.length_cons]; simp; omega
    rw [h2]
    simpa using h1
  | succ B ih =>
    intro X hn h
    rw [rmX_split B X (fun x hx => (h x hx).2)]
    have h1 := bin_few (B + 1) _ (hn.filter fun x => x.length == B + 1) (fun x hx => ⟨(h x (List.mem_filter.1 hx).1).1, by simpa using (List.mem_filter.1 hx).2⟩)
    have h2 := ih _ (hn.filter fun x => !(x.length == B + 1)) (fun x hx => by
      obtain ⟨hx1, hx2⟩ := List.mem_filter.1 hx
      have := h x hx1
      have h3 : x.length ≠ B + 1 := by simpa using hx2
      exact ⟨this.1, by omega⟩)
    have e : (B + 1 + 1) * 2 ^ (B + 1) = 2 ^ (B + 1) + 2 * ((B + 1) * 2 ^ B) := by
      rw [Nat.pow_succ, Nat.add_mul, Nat.one_mul, Nat.add_comm, Nat.mul_comm (2 ^ B) 2, ← Nat.mul_assoc, ← Nat.mul_assoc, Nat.mul_comm (B + 1) 2]
    rw [e]
    omega

/-! ### Rows of m words -/
/-- All rows of m words. -/
def tup (n : Nat) : Nat → List (List Nat)
  | 0 => [[]]
  | m + 1 => (List.range n).flatMap fun i => (tup n m).map (i :: ·)
theorem tup_in (n m : Nat) : ∀ a ∈ tup n m, a.length = m ∧ ∀ i ∈ a, i < n := by
  induction m with
  | zero => intro a ha; simp [tup] at ha; subst ha; simp
  | succ m ih =>
    intro a ha
    rw [tup] at ha
    obtain ⟨i, hi, ha⟩ := List.mem_flatMap.1 ha
    obtain ⟨b, hb, rfl⟩ := List.mem_map.1 ha
    have := ih b hb
    refine ⟨by rw [List.length_cons, this.1], fun j hj => ?_⟩
    rcases List.mem_cons.1 hj with rfl | hj
    · exact List.mem_range.1 hi
    · exact this.2 j hj
theorem tup_nodup (n m : Nat) : (tup n m).Nodup := by
  induction m with
  | zero => simp [tup]
  | succ m ih =>
    rw [tup]
    refine List.pairwise_flatMap.2 ⟨fun i _ => List.pairwise_map.2 (ih.imp fun hne e => hne (by injection e)), ?_⟩
    refine List.nodup_range.imp ?_
    intro i j hij x hx y hy e
    obtain ⟨a, _, rfl⟩ := List.mem_map.1 hx
    obtain ⟨b, _, rfl⟩ := List.mem_map.1 hy
    injection e with e1
    exact hij e1
theorem len_cat {W : List (List UInt8)} (h : ∀ i, (W.getD i []).length ≤ 12) (a : List Nat) : (catW W a).length ≤ 12 * a.length := by
  induction a with
  | nil => simp [catW]
  | cons i a ih =>
    have := h i
    rw [catW_cons, List.length_append, List.length_cons]
    omega
theorem rmX_mul {W : List (List UInt8)} (h : ∀ i, (W.getD i []).length ≤ 12) (i m : Nat) (T : List (List Nat)) (hT : ∀ a ∈ T, a.length = m) :
    rmX (12 * (m + 1)) ((T.map (i :: ·)).map (catW W)) = 2 ^ (12 - (W.getD i []).length) * rmX (12 * m) (T.map (catW W)) := by
  induction T with
  | nil => simp [rmX]
  | cons a T ih =>
    have h1 := len_cat h a
    have h2 := h i
    rw [hT a (by simp)] at h1
    simp only [List.map_cons, rmX]
    have e : 2 ^ (12 * (m + 1) - (catW W (i :: a)).length) = 2 ^ (12 - (W.getD i []).length) * 2 ^ (12 * m - (catW W a).length) := by
      rw [← Nat.pow_add, catW_cons, List.length_append]
      congr 1
      omega
    rw [ih (fun b hb => hT b (by simp [hb])), e, Nat.mul_add]
/-- The room of all rows of m words is the power of the words' room. -/
theorem rmX_pow {W : List (List UInt8)} (h : ∀ i, (W.getD i []).length ≤ 12) (m : Nat) :
    rmX (12 * m) ((tup W.length m).map (catW W)) = (rmX 12 W) ^ m := by
  induction m with
  | zero => simp [tup, rmX, catW]
  | succ m ih =>
    rw [Nat.pow_succ, ← ih, tup]
    have h1 : ∀ k, k ≤ W.length → rmX (12 * (m + 1)) (((List.range k).flatMap fun i => (tup W.length m).map (i :: ·)).map (catW W)) = rmX (12 * m) ((tup W.length m).map (catW W)) * rmX 12 (W.take k) := by
      intro k
      induction k with
      | zero => intro _; simp [rmX]
      | succ k ihk =>
        intro hk
        rw [List.range_succ, List.flatMap_append, List.map_append, rmX_app, ihk (by omega), List.flatMap_singleton, rmX_mul h k m _ (fun a ha => (tup_in _ _ a ha).1), List.take_succ_eq_append_getElem (by omega), rmX_app, Nat.mul_add]
        congr 1
        rw [Nat.mul_comm]
        congr 1
        simp [rmX, List.getD_eq_getElem?_getD, show k < W.length by omega]
    have := h1 W.length (Nat.le_refl _)
    rw [List.take_length] at this
    exact this
/-- A power that grows no faster than a line. -/
theorem pow_grow (N m : Nat) (hN : 1 ≤ N) : N ^ m * (2 * N * N + (2 * N - 1) * m + m * m) ≤ (N + 1) ^ m * (2 * N * N) := by
  induction m with
  | zero => simp
  | succ m ih =>
    obtain ⟨K, rfl⟩ : ∃ K, N = K + 1 := ⟨N - 1, by omega⟩
    have e1 : 2 * (K + 1) - 1 = 2 * K + 1 := by omega
    rw [e1] at ih ⊢
    have hm : m ≤ m * m := by
      cases m with
      | zero => simp
      | succ m => rw [Nat.mul_add]; omega
    have key : (K + 1) * (2 * (K + 1) * (K + 1) + (2 * K + 1) * (m + 1) + (m + 1) * (m + 1)) ≤ (K + 1 + 1) * (2 * (K + 1) * (K + 1) + (2 * K + 1) * m + m * m) := by
      have e2 : (2 * K + 1) * (m + 1) + (m + 1) * (m + 1) = (2 * K + 1) * m + m * m + (2 * (K + 1) + 2 * m) := by
        simp only [Nat.mul_add, Nat.add_mul, Nat.mul_one, Nat.one_mul]; omega
      have e3 : (K + 1) * (2 * (K + 1) + 2 * m) = 2 * (K + 1) * (K + 1) + (2 * K + 2) * m := by
        rw [Nat.mul_add, Nat.mul_comm (K + 1) (2 * (K + 1)), ← Nat.mul_assoc, Nat.mul_comm (K + 1) 2]
        rfl
      have e4 : (2 * K + 2) * m = (2 * K + 1) * m + m := by rw [show 2 * K + 2 = 2 * K + 1 + 1 by omega, Nat.add_mul, Nat.one_mul]
      generalize 2 * (K + 1) * (K + 1) = A at e3 ⊢
      rw [Nat.add_assoc A, e2, ← Nat.add_assoc A, ← Nat.add_assoc A]
      generalize hX : A + (2 * K + 1) * m + m * m = X
      rw [Nat.mul_add (K + 1) X, e3, Nat.add_mul (K + 1) 1 X, Nat.one_mul]
      omega
    rw [Nat.pow_succ, Nat.pow_succ]
    calc (K + 1) ^ m * (K + 1) * (2 * (K + 1) * (K + 1) + (2 * K + 1) * (m + 1) + (m + 1) * (m + 1))
        = (K + 1) ^ m * ((K + 1) * (2 * (K + 1) * (K + 1) + (2 * K + 1) * (m + 1) + (m + 1) * (m + 1))) := by rw [Nat.mul_assoc]
      _ ≤ (K + 1) ^ m * ((K + 1 + 1) * (2 * (K + 1) * (K + 1) + (2 * K + 1) * m + m * m)) := Nat.mul_le_mul_left _ key
      _ = (K + 1 + 1) * ((K + 1) ^ m * (2 * (K + 1) * (K + 1) + (2 * K + 1) * m + m * m)) := by rw [Nat.mul_left_comm]
      _ ≤ (K + 1 + 1) * ((K + 1 + 1) ^ m * (2 * (K + 1) * (K + 1))) := Nat.mul_le_mul_left _ ih
      _ = (K + 1 + 1) ^ m * (K + 1 + 1) * (2 * (K + 1) * (K + 1)) := by rw [← Nat.mul_assoc, Nat.mul_comm (K + 1 + 1)]
theorem pow_line {R N : Nat} (hN : 1 ≤ N) (h : ∀ m, R ^ m ≤ (12 * m + 1) * N ^ m) : R ≤ N := by
  rcases Nat.lt_or_ge N R with hlt | hge
  · exfalso
    obtain ⟨m, hm⟩ : ∃ m, m = 24 * N * N := ⟨_, rfl⟩
    have h1 := h m
    have h2 : (N + 1) ^ m ≤ R ^ m := Nat.pow_le_pow_left hlt m
    have h3 := pow_grow N m hN
    have h4 : N ^ m * (2 * N * N + (2 * N - 1) * m + m * m) ≤ N ^ m * ((12 * m + 1) * (2 * N * N)) := by
      refine Nat.le_trans h3 ?_
      have := Nat.mul_le_mul_right (2 * N * N) (Nat.le_trans h2 h1)
      rw [← Nat.mul_assoc (N ^ m), Nat.mul_comm (N ^ m)]
      exact this
    have h5 := Nat.le_of_mul_le_mul_left h4 (Nat.pow_pos (by omega))
    have e : (12 * m + 1) * (2 * N * N) = m * (24 * N * N) + 2 * N * N := by
      rw [Nat.add_mul, Nat.one_mul]
      congr 1
      rw [Nat.mul_comm 12 m, Nat.mul_assoc m]
      congr 1
      rw [← Nat.mul_assoc, ← Nat.mul_assoc]
    rw [e, ← hm] at h5
    have h6 : 0 < m := by rw [hm]; exact Nat.mul_pos (Nat.mul_pos (by decide) (by omega)) (by omega)
    have h7 : 0 < (2 * N - 1) * m := Nat.mul_pos (by omega) h6
    omega
  · exact hge
/-- MCMILLAN. -/
theorem mcmillan {W : List (List UInt8)} (hu : UD W) (hb : ∀ x ∈ W, Bin x) (hl : ∀ i, (W.getD i []).length ≤ 12) : rmX 12 W ≤ 4096 := by
  refine pow_line (by decide) fun m => ?_
  rw [← rmX_pow hl m]
  have hbin : ∀ a : List Nat, Bin (catW W a) := by
    intro a
    induction a with
    | nil => intro c hc; simp [catW] at hc
    | cons i a ih =>
      rw [catW_cons]
      refine bin_app ?_ ih
      by_cases hi : i < W.length
      · refine hb _ ?_
        rw [List.getD_eq_getElem?_getD, List.getElem?_eq_getElem hi]
        exact List.getElem_mem hi
      · intro c hc; simp [hi] at hc
  have := rmX_few (12 * m) ((tup W.length m).map (catW W)) ?_ ?_
  · rwa [Nat.pow_mul] at this
  · refine List.pairwise_map.2 ((tup_nodup W.length m).imp_of_mem ?_)
    intro a b ha hb hne e
    exact hne (hu a b (tup_in _ _ a ha).2 (tup_in _ _ b hb).2 e)
  · intro x hx
    obtain ⟨a, ha, rfl⟩ := List.mem_map.1 hx
    have h1 := len_cat hl a
    rw [(tup_in _ _ a ha).1] at h1
    exact ⟨hbin a, h1⟩
theorem rmX_rm (W : List (List UInt8)) : rmX 12 W = rm 12 (W.map List.length) := by
  induction W with
  | nil => rfl
  | cons x W ih => rw [rmX, List.map_cons, rm, ih]
end Go.Proofs.YtlfncplldppncaaDoor
