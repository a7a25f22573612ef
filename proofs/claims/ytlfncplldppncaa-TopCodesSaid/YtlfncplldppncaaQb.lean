/-
  Several of this claim's texts in one (Blk, Hmem, Hst, Hdel, Hsingle, Hlight, Htake, Hjoin): what each proves stands at its own head. Conditions: as each says.
-/
import Derived.Laws.CopyOwn
import Derived.Laws.AppendOwn
import Derived.Deep.RegionLaw
import Derived.Lib.SliceRun
import Derived.Shelf.RegionOpenPlain
import Derived.Lib.AppendZeros
import Derived.Deep.RegionHeld3
import Derived.Test.YtlfncplldppncaaQa

/-
  Plain facts on memory: a block that alone may have turned, a block that is known whole (of cells, of signs, of numbers), one cell stored, and the built-in copy inside one block. No condition.
-/
namespace Go.Proofs.Ytlfncplldppncaa
open Go.RowKit

/-- Only block g may have turned, and no block was made. -/
structure Only (g : Nat) (w w' : World) : Prop where
  os : w'.os = w.os
  tape : w'.tape = w.tape
  output : w'.output = w.output
  size : w'.heap.size = w.heap.size
  block : ∀ b, b ≠ g → w'.heap[b]? = w.heap[b]?
theorem Only.refl (g : Nat) (w : World) : Only g w w := ⟨rfl, rfl, rfl, rfl, fun _ _ => rfl⟩
theorem Only.trans {g : Nat} {a b c : World} (h : Only g a b) (k : Only g b c) : Only g a c :=
  ⟨k.os.trans h.os, k.tape.trans h.tape, k.output.trans h.output, k.size.trans h.size, fun i hi => (k.block i hi).trans (h.block i hi)⟩
theorem Only.drewN {g : Nat} {a b : World} (h : Only g a b) (q : Nat) : Only g a (b.drewN q) := ⟨h.os, h.tape, h.output, h.size, h.block⟩
theorem Only.below {g B : Nat} {a b : World} (h : Only g a b) (hB : B ≤ g) : Below B a b := ⟨h.os, h.tape, h.output, Nat.le_of_eq h.size.symm, fun k hk => h.block k (by omega)⟩
theorem Only.setRow (g : Nat) (w : World) (cs : Array Value) : Only g w (w.setRow g cs) := ⟨rfl, rfl, rfl, by simp, fun b hb => setRow_other w g b cs hb⟩
theorem Only.cell {g b o : Nat} {w w' : World} (h : Only g w w') (hb : b ≠ g) : w'.cell? ⟨b, o, none⟩ = w.cell? ⟨b, o, none⟩ := by
  unfold World.cell?
  rw [h.block b hb]

/-- Block g holds the cells vs, and nothing more. -/
def BlkAt (w : World) (g : Nat) (e : TypeId) (vs : List Value) : Prop := w.heap[g]? = some (.cells vs.toArray e (0, 0))
theorem BlkAt.cell {w : World} {g : Nat} {e : TypeId} {vs : List Value} (h : BlkAt w g e vs) {k : Nat} {v : Value} (hk : vs[k]? = some v) : w.cell? ⟨g, k, none⟩ = some v := by
  rw [cell_of_row _ _ k _ e (0, 0) h]
  simpa using hk
theorem BlkAt.frozen {w : World} {g : Nat} {e : TypeId} {vs : List Value} (h : BlkAt w g e vs) (k : Nat) : w.frozen? ⟨g, k, none⟩ = false := by
  unfold BlkAt at h
  simp [World.frozen?, h]
theorem BlkAt.lt {w : World} {g : Nat} {e : TypeId} {vs : List Value} (h : BlkAt w g e vs) : g < w.heap.size := (Array.getElem?_eq_some_iff.1 h).1
/-- One cell stored. -/
theorem BlkAt.stored {w : World} {g : Nat} {e : TypeId} {vs : List Value} (h : BlkAt w g e vs) (k : Nat) (v : Value) : BlkAt (w.setCell ⟨g, k, none⟩ v) g e (vs.set k v) ∧ Only g w (w.setCell ⟨g, k, none⟩ v) := by
  rw [setCell_eq_setRow w g k _ e (0, 0) _ h]
  refine ⟨?_, Only.setRow _ _ _⟩
  unfold BlkAt
  rw [setRow_heap w g _ _ e _ h]
  simp
theorem BlkAt.of_own {w : World} {base g n : Nat} {e : TypeId} {vs : List Value} (h : w.ownsRow base e 1 (.slice (some ⟨g, 0, none⟩) n n) n vs) : BlkAt w g e vs := by
  rcases h.2 with ⟨h1, _⟩ | ⟨g', cap, cur, h1, _, h3, _, _, h5, h6⟩
  · cases h1
  · injection h1 with a1 a2 a3
    subst a3
    injection a1 with a1
    injection a1 with a1
    subst a1
    unfold BlkAt
    rw [h3, ← h6, List.take_of_length_le (by rw [Array.length_toList, h5]; exact Nat.le_refl _)]
/-- The first i of the elements xs, behind them zeros, n in all. -/
def partL {α : Type} (z : α) (xs : List α) (n i : Nat) : List α := (List.range n).map fun j => if j < i then xs.getD j z else z
theorem partL_zero {α : Type} (z : α) (xs : List α) (n : Nat) : partL z xs n 0 = List.replicate n z := by
  apply List.ext_getElem?
  intro j
  by_cases hj : j < n <;> simp [partL, hj]
theorem partL_set {α : Type} (z : α) (xs : List α) (n i : Nat) : (partL z xs n i).set i (xs.getD i z) = partL z xs n (i + 1) := by
  apply List.ext_getElem?
  intro j
  by_cases hj : j < n
  · by_cases e : j = i
    · subst e; simp [partL, hj]
    · by_cases h : j < i
      · simp [partL, hj, Ne.symm e, h, show j < i + 1 by omega]
      · simp [partL, hj, Ne.symm e, h, show ¬ j < i + 1 by omega]
  · simp [partL, hj]
theorem partL_all {α : Type} (z : α) (xs : List α) (n : Nat) (h : xs.length = n) : partL z xs n n = xs := by
  subst h
  apply List.ext_getElem?
  intro j
  by_cases hj : j < xs.length <;> simp [partL, hj]
theorem partL_len {α : Type} (z : α) (xs : List α) (n i : Nat) : (partL z xs n i).length = n := by simp [partL]
/-- Block g holds the signs r, and nothing more. -/
def RowAt (w : World) (g : Nat) (e : TypeId) (r : List UInt8) : Prop := BlkAt w g e (r.map encB)
theorem RowAt.cell {w : World} {g : Nat} {e : TypeId} {r : List UInt8} (h : RowAt w g e r) {k : Nat} (hk : k < r.length) : w.cell? ⟨g, k, none⟩ = some (.int .u8 ((r.getD k 0).toNat : Int)) :=
  BlkAt.cell h (by simp [encB, hk])
theorem RowAt.stored {w : World} {g : Nat} {e : TypeId} {r : List UInt8} (h : RowAt w g e r) (k : Nat) (c : UInt8) : RowAt (w.setCell ⟨g, k, none⟩ (.int .u8 (c.toNat : Int))) g e (r.set k c) ∧ Only g w (w.setCell ⟨g, k, none⟩ (.int .u8 (c.toNat : Int))) := by
  have := BlkAt.stored h k (encB c)
  rw [← List.map_set] at this
  exact this
theorem RowAt.made {w : World} {base g n : Nat} {e : TypeId} (h : w.ownsRow base e 1 (.slice (some ⟨g, 0, none⟩) n n) n (madeCells #[Value.int .u8 0] n).toList) : RowAt w g e (List.replicate n 0) := by
  rw [toList_madeCells_one] at h
  have := BlkAt.of_own h
  unfold RowAt
  rw [List.map_replicate]
  exact this
/-- Block g holds the numbers xs, and nothing more. -/
def NumAt (w : World) (g : Nat) (e : TypeId) (xs : List Int) : Prop := BlkAt w g e (xs.map (Value.int .i64))
theorem NumAt.cell {w : World} {g : Nat} {e : TypeId} {xs : List Int} (h : NumAt w g e xs) {k : Nat} (hk : k < xs.length) : w.cell? ⟨g, k, none⟩ = some (.int .i64 (xs.getD k 0)) :=
  BlkAt.cell h (by simp [hk])
theorem NumAt.stored {w : World} {g : Nat} {e : TypeId} {xs : List Int} (h : NumAt w g e xs) (k : Nat) (x : Int) : NumAt (w.setCell ⟨g, k, none⟩ (.int .i64 x)) g e (xs.set k x) ∧ Only g w (w.setCell ⟨g, k, none⟩ (.int .i64 x)) := by
  have := BlkAt.stored h k (.int .i64 x)
  rw [← List.map_set] at this
  exact this
theorem NumAt.made {w : World} {base g n : Nat} {e : TypeId} (h : w.ownsRow base e 1 (.slice (some ⟨g, 0, none⟩) n n) n (madeCells #[Value.int .i64 0] n).toList) : NumAt w g e (List.replicate n 0) := by
  rw [toList_madeCells_one] at h
  have := BlkAt.of_own h
  unfold NumAt
  rw [List.map_replicate]
  exact this
theorem NumAt.ints {w : World} {g n : Nat} {e : TypeId} {xs : List Int} (h : NumAt w g e xs) (hn : xs.length = n) : IsInts w w.heap.size (some ⟨g, 0, none⟩) n xs :=
  ⟨hn, fun _ => ⟨g, 0, rfl, BlkAt.lt h, fun j hj => by rw [Nat.zero_add]; exact h.cell (by omega)⟩⟩

/-- 'copy(d, s)', d lying in a block that is known whole: only this block turns. -/
theorem wpList_copy_only {P : Program} {w : World} {ops : Array Oper} {rest : List Oper} {o : Oper} {a : Act} {Q : Exit → Act → World → Prop} (hgd : o.guard = none) (d s : Operand) (dT sT : TypeId)
    (ho : o.op = .call { callee := .builtin .copy, args := #[d, s], argTypes := #[dT, sT] }) (elem : TypeId) (hu : P.underlying dT = some (.slice elem)) (hsz : (P.info? elem).map (·.size) = some 1)
    (g off dLen dCap : Nat) (ad : Addr) (sLen sCap : Nat) (hd : a.eval d = .slice (some ⟨g, off, none⟩) dLen dCap) (hs : a.eval s = .slice (some ad) sLen sCap)
    (vs : List Value) (t : TypeId) (hg : BlkAt w g t vs) (cs : List Value) (hn : cs.length = Nat.min sLen dLen)
    (hsrc : ∀ j v, cs[j]? = some v → w.cell? (ad.add j) = some v) (hfit : off + cs.length ≤ vs.length) (h1 : ∀ v ∈ cs, v.oneCell' = true)
    (h : ∀ n w', BlkAt w' g t (splice vs off cs) → Only g w w' → wpList P ops Q rest (a.put o.dst (goInt n)) w') : wpList P ops Q (o :: rest) a w := by
  refine wpList_copy_own hgd d s dT sT ho elem hu hsz g off dLen dCap ad sLen sCap hd hs vs.toArray t hg cs hn hsrc (by simpa using hfit) h1 ?_
  refine h _ _ ?_ (Only.setRow _ _ _)
  unfold BlkAt
  rw [setRow_heap w g _ _ t _ hg]
  simp [splice]
end Go.Proofs.Ytlfncplldppncaa

/-
  Plain facts on memory for Huffman's heaps: worlds that differ in some blocks alone, a row of heaps (a weight and a slice of places each) that lies whole in one block, one of them taken out and one put behind, and slices of places. No condition.
-/
namespace Go.Proofs.Ytlfncplldppncaa
open Go.RowKit

/-! ### Worlds that differ in the blocks of S alone -/
/-- Blocks outside S are as they were; new ones may have been made. -/
structure Chg (S : Nat → Prop) (w w' : World) : Prop where
  os : w'.os = w.os
  tape : w'.tape = w.tape
  output : w'.output = w.output
  size : w.heap.size ≤ w'.heap.size
  block : ∀ b, b < w.heap.size → ¬ S b → w'.heap[b]? = w.heap[b]?
theorem Chg.refl (S : Nat → Prop) (w : World) : Chg S w w := ⟨rfl, rfl, rfl, Nat.le_refl _, fun _ _ _ => rfl⟩
theorem Chg.trans {S : Nat → Prop} {a b c : World} (h : Chg S a b) (k : Chg S b c) : Chg S a c :=
  ⟨k.os.trans h.os, k.tape.trans h.tape, k.output.trans h.output, Nat.le_trans h.size k.size, fun i hi hs => (k.block i (Nat.lt_of_lt_of_le hi h.size) hs).trans (h.block i hi hs)⟩
theorem Chg.of_below {S : Nat → Prop} {w w' : World} (h : Below w.heap.size w w') : Chg S w w' := ⟨h.os, h.tape, h.output, h.size, fun b hb _ => h.block b hb⟩
theorem Chg.of_only {S : Nat → Prop} {g : Nat} {w w' : World} (h : Only g w w') (hg : S g) : Chg S w w' :=
  ⟨h.os, h.tape, h.output, Nat.le_of_eq h.size.symm, fun b _ hn => h.block b (fun e => hn (e ▸ hg))⟩
theorem Chg.drewN {S : Nat → Prop} {a b : World} (h : Chg S a b) (q : Nat) : Chg S a (b.drewN q) := ⟨h.os, h.tape, h.output, h.size, h.block⟩
theorem Chg.alloc (S : Nat → Prop) (w : World) (o : Obj) : Chg S w (w.alloc o) := Chg.of_below ((Below.refl _ w).alloc (Nat.le_refl _) o)
theorem Chg.below {S : Nat → Prop} {B : Nat} {w w' : World} (h : Chg S w w') (hS : ∀ b, S b → B ≤ b) (hB : B ≤ w.heap.size) : Below B w w' :=
  ⟨h.os, h.tape, h.output, h.size, fun k hk => h.block k (by omega) (fun hs => by have := hS k hs; omega)⟩
theorem Chg.mono {S S' : Nat → Prop} {w w' : World} (h : Chg S w w') (hS : ∀ b, S b → S' b) : Chg S' w w' := ⟨h.os, h.tape, h.output, h.size, fun b hb hn => h.block b hb fun hs => hn (hS b hs)⟩
theorem Chg.cell {S : Nat → Prop} {b o : Nat} {w w' : World} (h : Chg S w w') (hb : b < w.heap.size) (hn : ¬ S b) : w'.cell? ⟨b, o, none⟩ = w.cell? ⟨b, o, none⟩ := by
  unfold World.cell?
  rw [h.block b hb hn]
theorem BlkAt.chg {S : Nat → Prop} {w w' : World} {g : Nat} {e : TypeId} {vs : List Value} (h : BlkAt w g e vs) (hc : Chg S w w') (hn : ¬ S g) : BlkAt w' g e vs :=
  (hc.block g h.lt hn).trans h
theorem BlkAt.only {w w' : World} {g k : Nat} {e : TypeId} {vs : List Value} (h : BlkAt w g e vs) (hc : Only k w w') (hn : g ≠ k) : BlkAt w' g e vs := (hc.block g hn).trans h
theorem BlkAt.below {w w' : World} {g B : Nat} {e : TypeId} {vs : List Value} (h : BlkAt w g e vs) (hc : Below B w w') (hB : w.heap.size ≤ B) : BlkAt w' g e vs := (hc.block g (Nat.lt_of_lt_of_le h.lt hB)).trans h
theorem BlkAt.new (w : World) (e : TypeId) (vs : List Value) (g : Nat) (hg : w.heap.size = g) : BlkAt (w.alloc (.cells vs.toArray e)) g e vs := by
  subst hg
  exact heap_alloc_new w _
theorem BlkAt.alloc {w : World} {g : Nat} {e : TypeId} {vs : List Value} (h : BlkAt w g e vs) (o : Obj) : BlkAt (w.alloc o) g e vs := h.below ((Below.refl _ w).alloc (Nat.le_refl _) o) (Nat.le_refl _)
/-- Several cells stored. -/
theorem BlkAt.stores {g : Nat} {e : TypeId} : ∀ (cs : List Value) (o : Nat) (vs : List Value) (w : World), BlkAt w g e vs → o + cs.length ≤ vs.length → BlkAt (w.setCells g o cs) g e (splice vs o cs) ∧ Only g w (w.setCells g o cs)
  | [], o, vs, w, h, _ => ⟨by simpa [splice, World.setCells] using h, Only.refl _ _⟩
  | c :: cs, o, vs, w, h, hl => by
    rw [List.length_cons] at hl
    obtain ⟨h1, h2⟩ := h.stored o c
    obtain ⟨h3, h4⟩ := BlkAt.stores cs (o + 1) (vs.set o c) _ h1 (by rw [List.length_set]; omega)
    rw [World.setCells]
    refine ⟨?_, h2.trans h4⟩
    have e : splice (vs.set o c) (o + 1) cs = splice vs o (c :: cs) := by
      unfold splice
      rw [List.length_cons, List.take_set, List.drop_set_of_lt (by omega), List.take_add_one, show o + 1 + cs.length = o + (cs.length + 1) by omega]
      have ho : o < vs.length := by omega
      simp only [List.getElem?_eq_getElem ho, Option.toList_some]
      rw [List.set_append_right _ _ (by rw [List.length_take]; omega), List.length_take, Nat.min_eq_left (by omega)]
      simp
    rwa [e] at h3

/-! ### A row of heaps -/
/-- A heap: its weight, the block that holds its places and that slice's capacity, and the places. -/
abbrev Tr := Int × (Nat × Nat) × List Nat
def tz : Tr := (0, (0, 0), [])
/-- A heap's slice. -/
def sv (t : Tr) : Value := .slice (some ⟨t.2.1.1, 0, none⟩) t.2.2.length t.2.1.2
/-- A heap's two cells. -/
def encT (t : Tr) : List Value := [.int .i64 t.1, sv t]
/-- A heap without the slice. -/
def hp (t : Tr) : Int × List Nat := (t.1, t.2.2)
theorem flatT_len (ts : List Tr) : (ts.flatMap encT).length = ts.length * 2 := by
  induction ts with
  | nil => rfl
  | cons x xs ih => rw [List.flatMap_cons, List.length_append, ih]; simp [encT]; omega
theorem flatT_get (ts : List Tr) : ∀ j, j < ts.length → (ts.flatMap encT)[j * 2]? = some (.int .i64 (ts.getD j tz).1) ∧ (ts.flatMap encT)[j * 2 + 1]? = some (sv (ts.getD j tz)) := by
  induction ts with
  | nil => intro j hj; simp at hj
  | cons x xs ih =>
    intro j hj
    cases j with
    | zero => simp [encT]
    | succ j =>
      have := ih j (by simpa using hj)
      rw [List.flatMap_cons, show (j + 1) * 2 = j * 2 + 2 by omega, show j * 2 + 2 + 1 = (j * 2 + 1) + 2 by omega]
      simpa [encT] using this
theorem flatT_take (ts : List Tr) : ∀ i, (ts.take i).flatMap encT = (ts.flatMap encT).take (i * 2) := by
  induction ts with
  | nil => simp
  | cons x xs ih =>
    intro i
    cases i with
    | zero => simp
    | succ i =>
      rw [List.take_succ_cons, List.flatMap_cons, List.flatMap_cons, ih, show (i + 1) * 2 = i * 2 + 2 by omega]
      simp [encT]
theorem flatT_drop (ts : List Tr) : ∀ i, (ts.drop i).flatMap encT = (ts.flatMap encT).drop (i * 2) := by
  induction ts with
  | nil => simp
  | cons x xs ih =>
    intro i
    cases i with
    | zero => simp
    | succ i =>
      rw [List.drop_succ_cons, List.flatMap_cons, ih, show (i + 1) * 2 = i * 2 + 2 by omega]
      simp [encT]
/-- Block g has room for cap heaps, and ts are the first of them. -/
def TreesAt (w : World) (g : Nat) (e : TypeId) (cap : Nat) (ts : List Tr) : Prop := ts.length ≤ cap ∧ ∃ rest : List Value, ts.length * 2 + rest.length = cap * 2 ∧ BlkAt w g e (ts.flatMap encT ++ rest)
theorem TreesAt.lt {w : World} {g cap : Nat} {e : TypeId} {ts : List Tr} (h : TreesAt w g e cap ts) : g < w.heap.size := by
  obtain ⟨_, _, _, hb⟩ := h
  exact hb.lt
theorem TreesAt.cell {w : World} {g cap : Nat} {e : TypeId} {ts : List Tr} (h : TreesAt w g e cap ts) {k : Nat} (hk : k < ts.length) : w.cell? ⟨g, k * 2, none⟩ = some (.int .i64 (ts.getD k tz).1) ∧ w.cell? ⟨g, k * 2 + 1, none⟩ = some (sv (ts.getD k tz)) := by
  obtain ⟨_, rest, _, hb⟩ := h
  have hf := flatT_get ts k hk
  have hl := flatT_len ts
  exact ⟨hb.cell (by rw [List.getElem?_append_left (by omega)]; exact hf.1), hb.cell (by rw [List.getElem?_append_left (by omega)]; exact hf.2)⟩
theorem TreesAt.chg {S : Nat → Prop} {w w' : World} {g cap : Nat} {e : TypeId} {ts : List Tr} (h : TreesAt w g e cap ts) (hc : Chg S w w') (hn : ¬ S g) : TreesAt w' g e cap ts := by
  obtain ⟨h1, rest, h2, hb⟩ := h
  exact ⟨h1, rest, h2, hb.chg hc hn⟩
theorem TreesAt.only {w w' : World} {g k cap : Nat} {e : TypeId} {ts : List Tr} (h : TreesAt w g e cap ts) (hc : Only k w w') (hn : g ≠ k) : TreesAt w' g e cap ts := by
  obtain ⟨h1, rest, h2, hb⟩ := h
  exact ⟨h1, rest, h2, hb.only hc hn⟩
theorem TreesAt.below {w w' : World} {g B cap : Nat} {e : TypeId} {ts : List Tr} (h : TreesAt w g e cap ts) (hc : Below B w w') (hB : w.heap.size ≤ B) : TreesAt w' g e cap ts := by
  obtain ⟨h1, rest, h2, hb⟩ := h
  exact ⟨h1, rest, h2, hb.below hc hB⟩
/-- Room for heaps, as it has just been made. -/
theorem TreesAt.made {w : World} {base g n : Nat} {e : TypeId} {xs : List Value} (h : w.ownsRow base e 2 (.slice (some ⟨g, 0, none⟩) n n) n xs) : TreesAt w g e n [] ∧ base ≤ g := by
  have hl := h.1
  rcases h.2 with ⟨h1, _⟩ | ⟨g', cap, cur, h1, hg, h3, _, _, h5, h6⟩
  · cases h1
  · injection h1 with a1 a2 a3
    subst a3
    injection a1 with a1
    injection a1 with a1
    subst a1
    refine ⟨⟨by simp, xs, by simp; omega, ?_⟩, hg⟩
    unfold BlkAt
    rw [h3, List.flatMap_nil, List.nil_append, ← h6, List.take_of_length_le (by rw [Array.length_toList, h5]; exact Nat.le_refl _)]
/-- One heap more is written. -/
theorem TreesAt.more {w : World} {g cap : Nat} {e : TypeId} {ts : List Tr} (h : TreesAt w g e cap ts) {i : Nat} (hi : ts.length = i) (hc : i < cap) (t : Tr) :
    (∀ j, j < 2 → (w.cell? ⟨g, i * 2 + j, none⟩).isSome = true) ∧ (∀ j, w.frozen? ⟨g, j, none⟩ = false) ∧
    TreesAt ((w.setCell ⟨g, i * 2, none⟩ (.int .i64 t.1)).setCell ⟨g, i * 2 + 1, none⟩ (sv t)) g e cap (ts ++ [t]) ∧ Only g w ((w.setCell ⟨g, i * 2, none⟩ (.int .i64 t.1)).setCell ⟨g, i * 2 + 1, none⟩ (sv t)) := by
  subst hi
  obtain ⟨h1, rest, h2, hb⟩ := h
  have hl := flatT_len ts
  obtain ⟨x, y, rest, rfl⟩ : ∃ x y r, rest = x :: y :: r := by
    match rest, h2 with
    | [], h2 => simp at h2; omega
    | [x], h2 => simp at h2; omega
    | x :: y :: r, _ => exact ⟨x, y, r, rfl⟩
  obtain ⟨h3, h4⟩ := hb.stores [.int .i64 t.1, sv t] (ts.length * 2) _ _ (by rw [List.length_append, hl]; simp)
  refine ⟨fun j hj => ?_, hb.frozen, ⟨by rw [List.length_append]; simp; omega, rest, by rw [List.length_append]; simp at h2 ⊢; omega, ?_⟩, h4⟩
  · match j, hj with
    | 0, _ => rw [hb.cell (v := x) (by rw [List.getElem?_append_right (by omega), hl]; simp)]; rfl
    | 1, _ => rw [hb.cell (v := y) (by rw [List.getElem?_append_right (by omega), hl, show ts.length * 2 + 1 - ts.length * 2 = 1 by omega]; rfl)]; rfl
  · have e : splice (ts.flatMap encT ++ x :: y :: rest) (ts.length * 2) [.int .i64 t.1, sv t] = (ts ++ [t]).flatMap encT ++ rest := by
      unfold splice
      rw [List.take_append_of_le_length (by omega), List.take_of_length_le (by omega), List.drop_append, List.flatMap_append]
      have d1 : List.drop (ts.length * 2 + [Value.int .i64 t.1, sv t].length) (List.flatMap encT ts) = [] := List.drop_eq_nil_of_le (by rw [hl]; simp)
      rw [d1, hl, show ts.length * 2 + [Value.int .i64 t.1, sv t].length - ts.length * 2 = 2 by simp]
      simp [encT]
    rwa [e] at h3
/-- What deleting heap i leaves. -/
theorem TreesAt.del {w : World} {g cap : Nat} {e : TypeId} {ts : List Tr} (h : TreesAt w g e cap ts) {i : Nat} (hi : i < ts.length) (x y : Value) :
    TreesAt ((w.setCells g (i * 2) ((ts.drop (i + 1)).flatMap encT)).setCells g ((ts.length - 1) * 2) [x, y]) g e cap (ts.eraseIdx i) ∧ Only g w ((w.setCells g (i * 2) ((ts.drop (i + 1)).flatMap encT)).setCells g ((ts.length - 1) * 2) [x, y]) := by
  obtain ⟨h1, rest, h2, hb⟩ := h
  have hl := flatT_len ts
  have hd : ((ts.drop (i + 1)).flatMap encT).length = (ts.length - (i + 1)) * 2 := by rw [flatT_len, List.length_drop]
  obtain ⟨h3, h4⟩ := hb.stores ((ts.drop (i + 1)).flatMap encT) (i * 2) _ _ (by rw [List.length_append, hl, hd]; omega)
  have hsl := length_splice (ts.flatMap encT ++ rest) (i * 2) ((ts.drop (i + 1)).flatMap encT) (by rw [List.length_append, hl, hd]; omega)
  obtain ⟨h5, h6⟩ := h3.stores [x, y] ((ts.length - 1) * 2) _ _ (by rw [hsl, List.length_append, hl]; simp; omega)
  have he : (ts.eraseIdx i).length = ts.length - 1 := List.length_eraseIdx_of_lt hi
  refine ⟨⟨by omega, [x, y] ++ rest, by rw [he]; simp; omega, ?_⟩, h4.trans h6⟩
  have e : splice (splice (ts.flatMap encT ++ rest) (i * 2) ((ts.drop (i + 1)).flatMap encT)) ((ts.length - 1) * 2) [x, y] = (ts.eraseIdx i).flatMap encT ++ ([x, y] ++ rest) := by
    have e1 : splice (ts.flatMap encT ++ rest) (i * 2) ((ts.drop (i + 1)).flatMap encT) = (ts.eraseIdx i).flatMap encT ++ ((ts.flatMap encT).drop ((ts.length - 1) * 2) ++ rest) := by
      rw [List.eraseIdx_eq_take_drop_succ, List.flatMap_append, flatT_take]
      unfold splice
      rw [hd, List.take_append_of_le_length (by omega), List.drop_append_of_le_length (by omega), show i * 2 + (ts.length - (i + 1)) * 2 = (ts.length - 1) * 2 by omega]
      simp
    rw [e1]
    have l1 : ((ts.eraseIdx i).flatMap encT).length = (ts.length - 1) * 2 := by rw [flatT_len, he]
    unfold splice
    rw [List.take_append_of_le_length (by omega), List.take_of_length_le (by omega), List.drop_append, l1]
    have l2 : (List.drop ((ts.length - 1) * 2) (ts.flatMap encT)).length = 2 := by rw [List.length_drop, hl]; omega
    have d1 : List.drop ((ts.length - 1) * 2 + [x, y].length) ((ts.eraseIdx i).flatMap encT) = [] := List.drop_eq_nil_of_le (by rw [l1]; simp)
    have d2 : List.drop 2 (List.drop ((ts.length - 1) * 2) (ts.flatMap encT)) = [] := List.drop_eq_nil_of_le (by omega)
    rw [d1, List.nil_append, show (ts.length - 1) * 2 + [x, y].length - (ts.length - 1) * 2 = 2 by simp, List.drop_append, l2, d2]
    simp
  rwa [e] at h5
/-- Built-in clear at one element. -/
theorem run_clear_one {P : Program} (w : World) (t e ty : TypeId) (z : Value) (ht : P.underlying t = some (.slice e)) (hv : ∀ w, (zeroValue e).run P w = .ok z w) (b o c k : Nat) (hk : k = 1) (x y : Value) (hz : z.cells = #[x, y]) (h1 : x.oneCell' = true) (h2 : y.oneCell' = true)
    (hc : ∀ j, j < 2 → (w.cell? ⟨b, o + j, none⟩).isSome = true) (hf : ∀ j, j < 2 → w.frozen? ⟨b, o + j, none⟩ = false) :
    (Builtin.clear_ #[t] ty #[.slice (some ⟨b, o, none⟩) k c]).run P w = .ok (.tuple #[]) (w.setCells b o [x, y]) := by
  subst hk
  have hzc : (Builtin.zeroCells z.cells 1).toList = [x, y] := by
    rw [hz]
    simp [Builtin.zeroCells, List.range_succ]
  have hst := run_storeCells_cells (P := P) b o [x, y] 0 w (by simpa using hc) (by simpa using hf) (by intro v hv'; simp at hv'; rcases hv' with rfl | rfl <;> assumption)
  simp only [Nat.add_zero] at hst
  simp [Builtin.clear_, run_underlying ht, hv, hzc, hst]
/-- 'ts = append(ts, t)' where there is room. -/
theorem wpList_append_tree {P : Program} (wr : World) {ops : Array Oper} {rest : List Oper} {o : Oper} {a : Act} {Q : Exit → Act → World → Prop} (hgd : o.guard = none) (s x : Operand) (t : TypeId)
    (ho : o.op = .call { callee := .builtin .append, args := #[s, x], argTypes := #[t, t] }) (e : TypeId) (i : TypeInfo)
    (ht : P.underlying t = some (.slice e)) (hi : P.info? e = some i) (hsize : i.size = 2) (g cap n : Nat) (ts : List Tr) (hn : ts.length = n)
    (hs : a.eval s = .slice (some ⟨g, 0, none⟩) n cap) (hT : TreesAt wr g e cap ts) (hroom : n < cap) (k : Tr) (ad : Addr) (c : Nat) (hx : a.eval x = .slice (some ad) 1 c)
    (hc0 : wr.cell? (ad.add 0) = some (.int .i64 k.1)) (hc1 : wr.cell? (ad.add 1) = some (sv k))
    (h : ∀ w', TreesAt w' g e cap (ts ++ [k]) → Only g wr w' → wpList P ops Q rest (a.put o.dst (.slice (some ⟨g, 0, none⟩) (n + 1) cap)) w') :
    wpList P ops Q (o :: rest) a wr := by
  subst hn
  obtain ⟨h1, re, h2, hb⟩ := hT
  have hl := flatT_len ts
  refine wpList_plain hgd fun K hK => ?_
  have hrun := run_append_room (P := P) wr t o.type e i ht hi g ts.length cap _ hb ad 1 c [.int .i64 k.1, sv k] (by rw [hsize]; rfl) (by
    intro j u hj
    match j, hj with
    | 0, hj => simp at hj; subst hj; exact hc0
    | 1, hj => simp at hj; subst hj; exact hc1) (by
    intro u hu
    simp at hu
    rcases hu with rfl | rfl
    · rfl
    · rfl) (by omega) (by rw [hsize]; simp [hl]; omega)
  unfold Oper.wp
  simp only [execOp, ho, resolve, invoke, builtin, Sem.run_bind, Sem.run_pure, Result.andThen_ok, List.map_toArray, List.map_cons, List.map_nil, hs, hx, hrun]
  refine hK _ _ (h _ ?_ (Only.setRow _ _ _))
  refine ⟨by rw [List.length_append]; simp; omega, re.drop 2, by rw [List.length_append, List.length_drop]; simp; omega, ?_⟩
  unfold BlkAt
  rw [setRow_heap wr g _ _ e _ hb, hsize]
  congr 3
  have l1 : (List.flatMap encT ts ++ re).length = cap * 2 := by rw [List.length_append, hl]; omega
  simp only [List.length_cons, List.length_nil]
  have d1 : List.drop (ts.length * 2 + (0 + 1 + 1)) (List.flatMap encT ts) = [] := List.drop_eq_nil_of_le (by omega)
  rw [List.take_append_of_le_length (by omega), List.take_of_length_le (by omega), List.drop_append, d1, hl, List.flatMap_append]
  simp [encT]

/-- A struct in a result's variable. -/
theorem run_results_blk {P : Program} {fn : Func} {p : Tmp} {t : TypeId} (h : fn.results = #[.cell p t]) (tmps : Array Value) (w : World) (g : Nat) (fs : Array Field) (vs : List Value)
    (hp : tmps.getD p undef = .pointer (some ⟨g, 0, none⟩)) (hB : BlkAt w g t vs) (hu : P.underlying t = some (.struct fs)) (hi : (P.info? t).map (·.size) = some vs.length) :
    (results fn tmps).run P w = .ok (.agg vs.toArray) w := by
  have hl := run_loadVar_row (P := P) w g t t vs.toArray (0, 0) _ hB hu rfl (by simpa using hi)
  have hp' : tmps[p]?.getD undef = .pointer (some ⟨g, 0, none⟩) := by simpa using hp
  simp only [results, h]
  simp [hp', asAddr, hl]
/-- A row of the call's own that holds something, by its block. -/
theorem OwnI.blk {w : World} {base : Nat} {e : TypeId} {v : Value} {xs : List Int} (h : OwnI w base e v xs) (h0 : 0 < xs.length) :
    ∃ g c, v = .slice (some ⟨g, 0, none⟩) xs.length c ∧ xs.length ≤ c ∧ base ≤ g ∧ IsInts w w.heap.size (some ⟨g, 0, none⟩) xs.length xs := by
  obtain ⟨A, c, rfl, hc, hI⟩ := IsInts.of_own h
  unfold OwnI at h
  rcases h.2 with ⟨_, hz⟩ | ⟨g, cap, cur, e, hg, _⟩
  · omega
  · injection e with e1 e2 e3
    subst e1
    exact ⟨g, c, rfl, hc, hg, hI⟩
/-- A literal of one number. -/
theorem OwnI.lit (w : World) (e : TypeId) (k : Int) : OwnI (w.alloc (.cells #[.int .i64 k] e)) w.heap.size e (.slice (some ⟨w.heap.size, 0, none⟩) 1 1) [k] :=
  ⟨rfl, .inr ⟨w.heap.size, 1, _, rfl, Nat.le_refl _, heap_alloc_new w _, Nat.le_refl _, by unfold maxLen; omega, rfl, rfl⟩⟩
/-- 'append(out, x...)', out nil or the call's own, x a slice of numbers that is not nil: nothing below 'base' has turned. -/
theorem wpList_append_ints {P : Program} (wr : World) {ops : Array Oper} {rest : List Oper} {o : Oper} {a : Act} {Q : Exit → Act → World → Prop} (hgd : o.guard = none) (s x : Operand) (t : TypeId)
    (ho : o.op = .call { callee := .builtin .append, args := #[s, x], argTypes := #[t, t] }) (base : Nat) (e : TypeId) (i : TypeInfo)
    (ht : P.underlying t = some (.slice e)) (hi : P.info? e = some i) (hz : i.zero = some (.int .i64 0)) (hsize : i.size = 1) (hby : i.bytes = 8)
    (v : Value) (cs : List Int) (hs : a.eval s = v) (hown : OwnI wr base e v cs) (g off m c : Nat) (xs : List Int) (hm : xs.length = m) (hx : a.eval x = .slice (some ⟨g, off, none⟩) m c) (hxs : ∀ j, j < m → wr.cell? ⟨g, off + j, none⟩ = some (.int .i64 (xs.getD j 0)))
    (hlen : cs.length + m ≤ 1099511627776) (hbase : base ≤ wr.heap.size)
    (h : ∀ v' w', OwnI w' base e v' (cs ++ xs) → Below base wr w' → wpList P ops Q rest (a.put o.dst v') w') :
    wpList P ops Q (o :: rest) a wr := by
  refine wpList_append_own _ hgd s x t ho base e i (.int .i64 0) 1 8 ht hi hz hsize hby rfl (by decide) v _ _ hs hown ⟨g, off, none⟩ m c (xs.map (Value.int .i64)) hx (by simp [hm]) ?_ ?_ ?_ ?_ hbase ?_
  · intro j u hj
    have hl : j < xs.length := by
      have := (List.getElem?_eq_some_iff.1 hj).1
      simpa using this
    rw [Addr.add_lit, hxs j (by omega)]
    simp [hl] at hj
    simp [hl, hj]
  · intro u hu
    obtain ⟨_, _, rfl⟩ := List.mem_map.1 hu
    rfl
  · unfold maxLen; omega
  · omega
  · intro v' w' ho hg _
    refine h v' w' (OwnI.mk_ (by rw [List.map_append, List.length_append, hm]; exact ho)) ((Below.refl base wr).grown hg hbase fun b hb => ?_)
    exact (World.ownsRow.lt hown b hb).1
/-! ### Slices of places -/
/-- The heap's slice holds its places, in a block outside S. -/
def Leaf (w : World) (S : Nat → Prop) (t : Tr) : Prop := 0 < t.2.2.length ∧ t.2.2.length ≤ t.2.1.2 ∧ ¬ S t.2.1.1 ∧ t.2.1.1 < w.heap.size ∧ ∀ j, j < t.2.2.length → w.cell? ⟨t.2.1.1, j, none⟩ = some (.int .i64 ((t.2.2.getD j 0 : Nat) : Int))
theorem Leaf.chg {S : Nat → Prop} {w w' : World} {t : Tr} (h : Leaf w S t) (hc : Chg S w w') : Leaf w' S t := by
  obtain ⟨h0, hl, hs, hg, hx⟩ := h
  exact ⟨h0, hl, hs, Nat.lt_of_lt_of_le hg hc.size, fun j hj => (hc.cell hg hs).trans (hx j hj)⟩
theorem Leaf.mono {S S' : Nat → Prop} {w : World} {t : Tr} (h : Leaf w S t) (hS : ∀ b, b < w.heap.size → S' b → S b) : Leaf w S' t := by
  obtain ⟨h0, hl, hs, hg, hx⟩ := h
  exact ⟨h0, hl, fun hn => hs (hS _ hg hn), hg, hx⟩
/-- The places as numbers. -/
def nums (xs : List Nat) : List Int := xs.map fun (j : Nat) => (j : Int)
theorem nums_len (xs : List Nat) : (nums xs).length = xs.length := by simp [nums]
theorem nums_at (xs : List Nat) (j : Nat) : (nums xs).getD j 0 = ((xs.getD j 0 : Nat) : Int) := by
  by_cases hj : j < xs.length <;> simp [nums, hj]
theorem nums_set (xs : List Nat) (k y : Nat) : (nums xs).set k ((y : Int) + 1) = nums (xs.set k (y + 1)) := by
  unfold nums
  rw [List.map_set]
  rfl
theorem nums_app (xs ys : List Nat) : nums (xs ++ ys) = nums xs ++ nums ys := by simp [nums]
theorem Leaf.ints {S : Nat → Prop} {w : World} {t : Tr} (h : Leaf w S t) : IsInts w w.heap.size (some ⟨t.2.1.1, 0, none⟩) t.2.2.length (nums t.2.2) := by
  obtain ⟨h0, hl, hs, hg, hx⟩ := h
  refine ⟨nums_len _, fun _ => ⟨t.2.1.1, 0, rfl, hg, fun j hj => ?_⟩⟩
  rw [Nat.zero_add, hx j hj, nums_at]
theorem Leaf.of_ints {S : Nat → Prop} {w : World} {x : Int} {g c : Nat} {xs : List Nat} (h : IsInts w w.heap.size (some ⟨g, 0, none⟩) xs.length (nums xs)) (h0 : 0 < xs.length) (hc : xs.length ≤ c) (hs : ¬ S g) : Leaf w S (x, (g, c), xs) := by
  obtain ⟨g', off, e, hg, hx⟩ := h.2 h0
  injection e with e
  injection e with e1 e2
  subst e1
  subst e2
  refine ⟨h0, hc, hs, hg, fun j hj => ?_⟩
  have := hx j hj
  rw [Nat.zero_add, nums_at] at this
  exact this
/-- Every heap's slice holds its places. -/
def Leaves (w : World) (S : Nat → Prop) (ts : List Tr) : Prop := ∀ t ∈ ts, Leaf w S t
theorem Leaves.chg {S : Nat → Prop} {w w' : World} {ts : List Tr} (h : Leaves w S ts) (hc : Chg S w w') : Leaves w' S ts := fun t ht => (h t ht).chg hc
theorem Leaves.erase {S : Nat → Prop} {w : World} {ts : List Tr} (h : Leaves w S ts) (k : Nat) : Leaves w S (ts.eraseIdx k) := fun t ht => h t (List.mem_of_mem_eraseIdx ht)
theorem Leaves.snoc {S : Nat → Prop} {w : World} {ts : List Tr} (h : Leaves w S ts) {t : Tr} (ht : Leaf w S t) : Leaves w S (ts ++ [t]) := fun u hu => by
  rcases List.mem_append.1 hu with hu | hu
  · exact h u hu
  · obtain rfl : u = t := by simpa using hu
    exact ht
theorem Leaves.at {S : Nat → Prop} {w : World} {ts : List Tr} (h : Leaves w S ts) {k : Nat} (hk : k < ts.length) : Leaf w S (ts.getD k tz) := by
  refine h _ ?_
  rw [List.getD_eq_getElem?_getD, List.getElem?_eq_getElem hk]
  exact List.getElem_mem hk
end Go.Proofs.Ytlfncplldppncaa

/-
  Plain facts on the state of Huffman's loop over heaps that lie in memory: what weights are let in, the state from round to round, and lengths counted up. No program.
-/
namespace Go.Proofs.Ytlfncplldppncaa
open Go.RowKit

/-- Weights that are let in. -/
def GoodH (l : List Int) : Prop := 0 < l.length ∧ l.length ≤ 10 ∧ ∀ x ∈ l, 0 ≤ x ∧ x ≤ 1000
/-- What is wrong with weights. -/
def BadH (l : List Int) (k : Int) : Prop := (l.length = 0 ∧ k = 5) ∨ (10 < l.length ∧ k = 4) ∨ (0 < l.length ∧ l.length ≤ 10 ∧ (∃ i, i < l.length ∧ ¬ (0 ≤ l.getD i 0 ∧ l.getD i 0 ≤ 1000)) ∧ k = 1)
theorem badH_one {l : List Int} {k k' : Int} (h : BadH l k) (h' : BadH l k') : k = k' := by
  rcases h with ⟨h1, rfl⟩ | ⟨h1, rfl⟩ | ⟨h1, h2, _, rfl⟩ <;> rcases h' with ⟨h3, rfl⟩ | ⟨h3, rfl⟩ | ⟨h3, h4, _, rfl⟩ <;> first | rfl | omega
theorem goodH_at {l : List Int} (h : GoodH l) {i : Nat} (hi : i < l.length) : 0 ≤ l.getD i 0 ∧ l.getD i 0 ≤ 1000 := by
  refine h.2.2 _ ?_
  rw [List.getD_eq_getElem?_getD, List.getElem?_eq_getElem hi]
  exact List.getElem_mem hi
theorem goodH_not {l : List Int} {k : Int} (h : GoodH l) (h' : BadH l k) : False := by
  rcases h' with ⟨h3, _⟩ | ⟨h3, _⟩ | ⟨h3, h4, ⟨i, hi, hn⟩, _⟩
  · have := h.1; omega
  · have := h.2.1; omega
  · exact hn (goodH_at h hi)
theorem goodH_of {l : List Int} (h0 : 0 < l.length) (h1 : l.length ≤ 10) (h : ∀ i, i < l.length → 0 ≤ l.getD i 0 ∧ l.getD i 0 ≤ 1000) : GoodH l := by
  refine ⟨h0, h1, fun x hx => ?_⟩
  obtain ⟨i, hi, rfl⟩ := List.getElem_of_mem hx
  have := h i hi
  rwa [List.getD_eq_getElem?_getD, List.getElem?_eq_getElem hi] at this
theorem badH_ne {l : List Int} {k : Int} (h : BadH l k) : k = 5 ∨ k = 4 ∨ k = 1 := by
  rcases h with ⟨_, rfl⟩ | ⟨_, rfl⟩ | ⟨_, _, _, rfl⟩ <;> simp
theorem badH_or (l : List Int) : GoodH l ∨ ∃ k, BadH l k := by
  by_cases h0 : l.length = 0
  · exact .inr ⟨5, .inl ⟨h0, rfl⟩⟩
  · by_cases h1 : l.length ≤ 10
    · by_cases h : ∀ i, i < l.length → 0 ≤ l.getD i 0 ∧ l.getD i 0 ≤ 1000
      · exact .inl (goodH_of (by omega) h1 h)
      · refine .inr ⟨1, .inr (.inr ⟨by omega, h1, ?_, rfl⟩)⟩
        rcases Classical.not_forall.1 h with ⟨i, hi⟩
        exact ⟨i, Classical.byContradiction fun h => hi fun h' => absurd h' h, fun h => hi fun _ => h⟩
    · exact .inr ⟨4, .inr (.inl ⟨by omega, rfl⟩)⟩

/-- Lengths o, one longer at each of the first j of the places zs. -/
def bump (o zs : List Nat) (j : Nat) : List Nat := (List.range o.length).map fun i => o.getD i 0 + if i ∈ zs.take j then 1 else 0
theorem bump_len (o zs : List Nat) (j : Nat) : (bump o zs j).length = o.length := by simp [bump]
theorem bump_at (o zs : List Nat) (j : Nat) {i : Nat} (hi : i < o.length) : (bump o zs j).getD i 0 = o.getD i 0 + if i ∈ zs.take j then 1 else 0 := by
  simp [bump, hi]
theorem bump_zero (o zs : List Nat) : bump o zs 0 = o := by
  apply List.ext_getElem?
  intro j
  by_cases hj : j < o.length <;> simp [bump, hj]
theorem bump_succ {o zs : List Nat} {j : Nat} (hn : zs.Nodup) (hj : j < zs.length) : (bump o zs j).set (zs.getD j 0) ((bump o zs j).getD (zs.getD j 0) 0 + 1) = bump o zs (j + 1) := by
  have hz : zs.getD j 0 = zs[j] := by rw [List.getD_eq_getElem?_getD, List.getElem?_eq_getElem hj]; rfl
  have hnot : zs[j] ∉ zs.take j := by
    intro hm
    have h2 := hn
    rw [← List.take_append_drop j zs, List.nodup_append] at h2
    refine h2.2.2 _ hm _ ?_ rfl
    rw [List.drop_eq_getElem_cons hj]
    exact List.mem_cons_self
  apply List.ext_getElem?
  intro i
  rw [hz]
  by_cases hi : i < o.length
  · have ht : ∀ y, y ∈ zs.take (j + 1) ↔ y ∈ zs.take j ∨ y = zs[j] := fun y => by rw [List.take_succ_eq_append_getElem hj, List.mem_append]; simp
    by_cases e : i = zs[j]
    · subst e
      rw [bump_at o zs j hi, if_neg hnot]
      rw [List.getElem?_set_self (by rw [bump_len]; exact hi)]
      have := bump_at o zs (j + 1) hi
      rw [if_pos ((ht _).2 (.inr rfl)), List.getD_eq_getElem?_getD] at this
      rw [List.getElem?_eq_getElem (by rw [bump_len]; exact hi)] at this ⊢
      simp only [Option.getD_some] at this
      rw [this]
    · rw [List.getElem?_set_ne (Ne.symm e)]
      have h1 : i < (bump o zs j).length := by rw [bump_len]; exact hi
      have h2 : i < (bump o zs (j + 1)).length := by rw [bump_len]; exact hi
      have a1 := bump_at o zs j hi
      have a2 := bump_at o zs (j + 1) hi
      rw [List.getD_eq_getElem?_getD, List.getElem?_eq_getElem h1] at a1
      rw [List.getD_eq_getElem?_getD, List.getElem?_eq_getElem h2] at a2
      rw [List.getElem?_eq_getElem h1, List.getElem?_eq_getElem h2]
      simp only [Option.getD_some] at a1 a2
      rw [a1, a2]
      congr 2
      by_cases hm : i ∈ zs.take j
      · rw [if_pos hm, if_pos ((ht i).2 (.inl hm))]
      · rw [if_neg hm, if_neg (fun h => by rcases (ht i).1 h with h | h; exact hm h; exact e h)]
  · have h1 : ¬ i < (bump o zs j).length := by rw [bump_len]; exact hi
    have h2 : ¬ i < (bump o zs (j + 1)).length := by rw [bump_len]; exact hi
    rw [List.getElem?_eq_none (by rw [List.length_set]; omega), List.getElem?_eq_none (by omega)]

/-! ### The state of the loop -/
theorem hp_fst (ts : List Tr) : (ts.map hp).map Prod.fst = ts.map Prod.fst := by rw [List.map_map]; rfl
theorem hp_erase (ts : List Tr) (k : Nat) : (ts.map hp).eraseIdx k = (ts.eraseIdx k).map hp := erase_map hp ts k
theorem hp_at (ts : List Tr) {k : Nat} (hk : k < ts.length) : (ts.map hp).getD k (0, []) = hp (ts.getD k tz) := by simp [hk]
theorem hst_len {D : List Nat} {hs : List (Int × List Nat)} {out : Nat → Nat} (h : Hst D hs out) {z : Int × List Nat} (hz : z ∈ hs) : z.2.length ≤ D.length := by
  have h1 := h.all.length_eq
  rw [List.length_range] at h1
  rw [← h1]
  obtain ⟨a, b, rfl⟩ := List.append_of_mem hz
  rw [List.flatMap_append, List.flatMap_cons, List.length_append, List.length_append]
  omega
theorem hst_nodup {D : List Nat} {hs : List (Int × List Nat)} {out : Nat → Nat} (h : Hst D hs out) {z : Int × List Nat} (hz : z ∈ hs) : z.2.Nodup := by
  have h1 : (hs.flatMap Prod.snd).Nodup := h.all.nodup_iff.2 List.nodup_range
  obtain ⟨a, b, rfl⟩ := List.append_of_mem hz
  rw [List.flatMap_append, List.flatMap_cons, List.nodup_append, List.nodup_append] at h1
  exact h1.2.1.1
/-- A count is never above what it will be. -/
theorem hst_le {D : List Nat} {hs : List (Int × List Nat)} {out : Nat → Nat} (h : Hst D hs out) {i : Nat} (hi : i < D.length) : out i ≤ D.getD i 0 := by
  have hm : i ∈ hs.flatMap Prod.snd := h.all.mem_iff.2 (List.mem_range.2 hi)
  obtain ⟨z, hz, hiz⟩ := List.mem_flatMap.1 hm
  obtain ⟨E, hE, hx⟩ := h.ex
  have hl := dep_len hE
  rw [List.length_map] at hl
  obtain ⟨j, hj, rfl⟩ := List.getElem_of_mem hz
  have := hx (hs[j], E[j]) (by
    rw [← List.getElem_zip (h := by rw [List.length_zip]; omega)]
    exact List.getElem_mem _) i hiz
  simp only at this
  omega
theorem hst_round {D o : List Nat} {ts : List Tr} {k m : Nat} (h : Hst D (ts.map hp) fun i => o.getD i 0) (ho : o.length = D.length) (h2 : 2 ≤ ts.length) (hk : FMin (ts.map Prod.fst) k) (hm : FMin ((ts.eraseIdx k).map Prod.fst) m) (g c : Nat) (x : Int) (zs : List Nat)
    (hx : x = (ts.getD k tz).1 + ((ts.eraseIdx k).getD m tz).1) (hz : zs = (ts.getD k tz).2.2 ++ ((ts.eraseIdx k).getD m tz).2.2) :
    Hst D ((((ts.eraseIdx k).eraseIdx m) ++ [(x, (g, c), zs)]).map hp) (fun i => (bump o zs zs.length).getD i 0) ∧ zs.Nodup ∧ (∀ i ∈ zs, i < D.length) ∧ zs.length ≤ D.length := by
  have hk' : k < ts.length := by simpa using hk.1
  have hm' : m < (ts.eraseIdx k).length := by simpa using hm.1
  have hst := hst_step h (by simpa using h2) (by rw [hp_fst]; exact hk) (by rw [hp_erase, hp_fst]; exact hm)
  rw [hp_erase, hp_erase, hp_at ts hk', hp_at (ts.eraseIdx k) hm'] at hst
  have e1 : (hp (ts.getD k tz)).1 + (hp ((ts.eraseIdx k).getD m tz)).1 = x := hx.symm
  have e2 : (hp (ts.getD k tz)).2 ++ (hp ((ts.eraseIdx k).getD m tz)).2 = zs := hz.symm
  rw [e1, e2] at hst
  have hin : (x, zs) ∈ (((ts.eraseIdx k).eraseIdx m).map hp) ++ [(x, zs)] := by simp
  have hlt : ∀ i ∈ zs, i < D.length := fun i hi => hst_mem hst hin hi
  refine ⟨?_, hst_nodup hst hin, hlt, hst_len hst hin⟩
  rw [List.map_append]
  have e3 : (fun i => (bump o zs zs.length).getD i 0) = fun i => o.getD i 0 + if i ∈ zs then 1 else 0 := by
    funext i
    by_cases hi : i < o.length
    · rw [bump_at o zs _ hi, List.take_length]
    · have : i ∉ zs := fun h => hi (by rw [ho]; exact hlt i h)
      rw [if_neg this]
      have h1 : ¬ i < (bump o zs zs.length).length := by rw [bump_len]; exact hi
      simp [hi, h1]
  rw [e3]
  exact hst
theorem hst_same {D o : List Nat} {ts : List Tr} (h : Hst D (ts.map hp) fun i => o.getD i 0) (ho : o.length = D.length) (h1 : ts.length ≤ 1) : o = D := by
  apply List.ext_getElem ho
  intro i hi hi'
  have := hst_end h (by simpa using h1) hi'
  simpa [List.getD_eq_getElem?_getD, hi, hi'] using this
/-- No heap weighs more than its places can. -/
def Wb (ts : List Tr) : Prop := ∀ t ∈ ts, 0 ≤ t.1 ∧ t.1 ≤ 1000 * (t.2.2.length : Int)
theorem Wb.erase {ts : List Tr} (h : Wb ts) (k : Nat) : Wb (ts.eraseIdx k) := fun t ht => h t (List.mem_of_mem_eraseIdx ht)
theorem Wb.at {ts : List Tr} (h : Wb ts) {k : Nat} (hk : k < ts.length) : 0 ≤ (ts.getD k tz).1 ∧ (ts.getD k tz).1 ≤ 1000 * ((ts.getD k tz).2.2.length : Int) := by
  refine h _ ?_
  rw [List.getD_eq_getElem?_getD, List.getElem?_eq_getElem hk]
  exact List.getElem_mem hk
theorem Wb.snoc {ts : List Tr} (h : Wb ts) {t : Tr} (ht : 0 ≤ t.1 ∧ t.1 ≤ 1000 * (t.2.2.length : Int)) : Wb (ts ++ [t]) := fun u hu => by
  rcases List.mem_append.1 hu with hu | hu
  · exact h u hu
  · obtain rfl : u = t := by simpa using hu
    exact ht
theorem hst_small {D : List Nat} {ts : List Tr} {out : Nat → Nat} (h : Hst D (ts.map hp) out) {k : Nat} (hk : k < ts.length) : (ts.getD k tz).2.2.length ≤ D.length := by
  have := hst_len h (z := hp (ts.getD k tz)) (by
    rw [← hp_at ts hk, List.getD_eq_getElem?_getD, List.getElem?_eq_getElem (by simpa using hk)]
    exact List.getElem_mem _)
  exact this
/-- The lengths are small. -/
theorem dep_small {l : List Int} {D : List Nat} (h : Dep l D) (hl : l.length ≤ 10) (i : Nat) : D.getD i 0 ≤ 9 := by
  have h1 := (dep_kr h 9 (by omega)).1
  by_cases hi : i < D.length
  · have hlen := dep_len h
    have := h1 (l.getD i 0, D.getD i 0) (by
      rw [← zip_at hlen (by omega), List.getD_eq_getElem?_getD, List.getElem?_eq_getElem (by rw [List.length_zip]; omega)]
      exact List.getElem_mem _)
    exact this
  · simp [hi]
end Go.Proofs.Ytlfncplldppncaa

/-
  Contract of slices.Delete at huff's heaps, one of them taken out. Conditions: it is one of them.
-/
namespace Go.Proofs.Ytlfncplldppncaa
open Go.RowKit

theorem tree_info : (Try.prog.info? 53).map (fun i => (i.zero, i.size, i.bytes)) = some (some (.agg #[.int .i64 0, .slice none 0 0]), 2, 32) := by kernel_rfl
theorem tree_zero : ∀ w, (zeroValue 53).run Try.prog w = .ok (.agg #[.int .i64 0, .slice none 0 0]) w := by
  intro w
  obtain ⟨i0, hi, hz0, hz1, hz2⟩ := info_parts tree_info
  simp [zeroValue, typeInfo, hi, hz0]

set_option maxHeartbeats 4000000 in
set_option maxRecDepth 1000000 in
theorem delete_any (T cap n i j : Nat) (ts : List Tr) (w : World) (hT : TreesAt w T 53 cap ts) (hn : ts.length = n) (hi : i < n) (hj : j = i + 1) :
    Calls Try.prog 30 #[.slice (some ⟨T, 0, none⟩) n cap, .int .i64 (i : Int), .int .i64 (j : Int)] w
      fun e w' => e = .returned (.slice (some ⟨T, 0, none⟩) (n - 1) cap) ∧ TreesAt w' T 53 cap (ts.eraseIdx i) ∧ Only T w w' := by
  obtain ⟨i0, hi0, hz0, hz1, hz2⟩ := info_parts tree_info
  have hcap : n ≤ cap := by rw [← hn]; exact hT.1
  have hlt : i < j := by omega
  have hjn : j ≤ n := by omega
  obtain ⟨news, hnews⟩ : ∃ news, news = (ts.drop j).flatMap encT := ⟨_, rfl⟩
  have hlen : news.length = (n - j) * 2 := by rw [hnews, flatT_len, List.length_drop, hn]
  have hTd : TreesAt w.drew T 53 cap ts := hT
  obtain ⟨A, hA, hsrc⟩ : ∃ A : Addr, (if cap = j then some (⟨T, 0, none⟩ : Addr) else some ⟨T, j * 2, none⟩) = some A ∧ Hid (∀ t u, news[t]? = some u → w.drew.cell? (A.add t) = some u) := by
    by_cases h : cap = j
    · refine ⟨⟨T, 0, none⟩, by simp [h], fun t u hu => ?_⟩
      have h0 : news.length = 0 := by rw [hlen]; omega
      rw [List.length_eq_zero_iff.1 h0] at hu
      simp at hu
    · refine ⟨⟨T, j * 2, none⟩, by simp [h], fun t u hu => ?_⟩
      obtain ⟨_, rest, _, hb⟩ := hTd
      rw [Addr.add_lit]
      refine hb.cell ?_
      rw [hnews, flatT_drop, List.getElem?_drop] at hu
      rw [List.getElem?_append_left]
      · exact hu
      · have := (List.getElem?_eq_some_iff.1 hu).1
        exact this
  have s1 : Hid (news.length = (n - j) * 2) := hlen
  have s2 : Hid (∀ u ∈ news, u.oneCell' = true) := by
    intro u hu
    rw [hnews] at hu
    obtain ⟨x, _, hx⟩ := List.mem_flatMap.1 hu
    simp [encT] at hx
    rcases hx with rfl | rfl <;> rfl
  have hsome : ∀ t, t < cap * 2 → (w.cell? ⟨T, t, none⟩).isSome = true := by
    intro t ht
    obtain ⟨_, rest, hr, hb⟩ := hT
    have hl : t < (ts.flatMap encT ++ rest).length := by rw [List.length_append, flatT_len]; omega
    rw [hb.cell (List.getElem?_eq_getElem hl)]
    rfl
  have hfroz : ∀ t, w.frozen? ⟨T, t, none⟩ = false := by
    obtain ⟨_, rest, hr, hb⟩ := hT
    exact hb.frozen
  have s3 : Hid (∀ t, t < news.length → (w.drew.cell? ⟨T, 0 + i * 2 + t, none⟩).isSome = true ∧ w.drew.frozen? ⟨T, 0 + i * 2 + t, none⟩ = false) := by
    intro t ht
    rw [hlen] at ht
    rw [Nat.zero_add]
    exact ⟨hsome _ (by omega), hfroz _⟩
  obtain ⟨W1, hW1⟩ : ∃ W1, W1 = w.drew.setCells T (0 + i * 2) news := ⟨_, rfl⟩
  have hdel := hTd.del (i := i) (by omega) (.int .i64 0) (.slice none 0 0)
  rw [← hj, ← hnews, ← Nat.zero_add (i * 2), ← hW1] at hdel
  have hB1 : ∃ vs, BlkAt W1 T 53 vs ∧ vs.length = cap * 2 := by
    obtain ⟨_, rest, hr, hb⟩ := hTd
    have hl := flatT_len ts
    have hst := hb.stores news (0 + i * 2) _ _ (by rw [List.length_append, hl, hlen]; omega)
    rw [← hW1] at hst
    exact ⟨_, hst.1, by rw [length_splice _ _ _ (by rw [List.length_append, hl, hlen]; omega), List.length_append, hl]; omega⟩
  obtain ⟨vs, hB1, hvs⟩ := hB1
  have e1 : i + (n - j) = n - 1 := by omega
  have hcl : ∀ ty, (Builtin.clear_ #[50] ty #[.slice (some ⟨T, (i + (n - j)) * 2, none⟩) (n - (i + (n - j))) (cap - (i + (n - j)))]).run Try.prog W1 = .ok (.tuple #[]) (W1.setCells T ((i + (n - j)) * 2) [.int .i64 0, .slice none 0 0]) :=
    fun ty => run_clear_one W1 _ _ ty _ Try.underlying50 tree_zero T _ _ _ (by omega) _ _ rfl rfl rfl (fun t ht => by
      have hl : (i + (n - j)) * 2 + t < vs.length := by omega
      rw [hB1.cell (List.getElem?_eq_getElem hl)]
      rfl) (fun t ht => hB1.frozen _)
  have HD : Hid (TreesAt (W1.setCells T ((i + (n - j)) * 2) [.int .i64 0, .slice none 0 0]) T 53 cap (ts.eraseIdx i) ∧ Only T w (W1.setCells T ((i + (n - j)) * 2) [.int .i64 0, .slice none 0 0])) := by
    rw [hn] at hdel
    rw [e1]
    exact ⟨hdel.1, Only.trans (⟨rfl, rfl, rfl, rfl, fun _ _ => rfl⟩ : Only T w w.drew) hdel.2⟩
  have hW : Hid (W1 = w.drew.setCells T (0 + i * 2) news) := hW1
  have HE : Hid (n - 1 = i + (n - j)) := e1.symm
  have mixed : Try.prog.follows Departure.mixedOrders = true := by kernel_rfl
  have hic : i ≤ cap := by omega
  have hjc : j ≤ cap := by omega
  clear hW1 hdel hB1 hvs hT hTd hsome hfroz hnews hlen e1 hn hj
  go_enter Try.func30, Try.ntmps30
  go_wp2_with fail
  go_region_law_o (refine step_append_room rfl (.tmp 22) (.tmp 25) 50 rfl 53 i0 2 Try.underlying50 hi0 hz1 T 0 i cap (by simp [Act.eval, Act.put]) A (n - j) (cap - j) news (by simp [Act.eval, Act.put]) s1.out hsrc.out s2.out (by omega) s3.out ?_; rw [← hW.out])
  go_wp2
  go_ret
  exact ⟨by rw [HE.out]; rfl, HD.out⟩
end Go.Proofs.Ytlfncplldppncaa

/-
  Contracts of huff.Check and huff.single. Conditions of single: at most ten weights, and one.
-/
namespace Go.Proofs.Ytlfncplldppncaa
open Go.RowKit

set_option maxHeartbeats 1000000 in
theorem hcheck_any (A : Option Addr) (n c : Nat) (l : List Int) (w : World) (hl : IsInts w w.heap.size A n l) :
    Calls Try.prog 26 #[.slice A n c] w fun e w' => ((GoodH l ∧ e = .returned .nilIface) ∨ ∃ k, BadH l k ∧ e = .returned (.iface 58 (.int .i64 k))) ∧ w' = w := by
  have HN := hid hl.1
  have HL := hid hl
  have hlen := hl.1
  by_cases h0 : n = 0
  · have HB : Hid (BadH l 5) := hid (.inl ⟨by omega, rfl⟩)
    subst h0
    clear HN HL hl hlen
    go_enter Try.func26, Try.ntmps26
    go_wp2_with fail
    go_ret
    exact ⟨.inr ⟨5, HB.out, rfl⟩, rfl⟩
  · by_cases h10 : n ≤ 10
    · clear hl hlen
      have n1 : ¬ ((n : Int) = 0) := by omega
      have n2 : ¬ (10 < (n : Int)) := by omega
      go_enter Try.func26, Try.ntmps26
      go_wp2_with fail
      go_loopw [15] (fun x wr => ∃ i : Nat, i ≤ n ∧ x = .int .i64 i ∧ Hid (∀ j, j < i → 0 ≤ l.getD j 0 ∧ l.getD j 0 ≤ 1000) ∧ wr = w) (fun x _ => n - (intOf x).toNat)
      case atStart => exact ⟨0, by omega, rfl, hid (fun j hj => absurd hj (by omega)), rfl⟩
      case round =>
        obtain ⟨i, hin, rfl, HO, hw⟩ := hrel
        subst wr
        by_cases hlt : i < n
        · obtain ⟨g, off, rfl, hg, hc⟩ := HL.out.2 (by omega)
          have c1 := hc i hlt
          clear hc
          by_cases hr : 0 ≤ l.getD i 0 ∧ l.getD i 0 ≤ 1000
          · have HO2 : Hid (∀ j, j < i + 1 → 0 ≤ l.getD j 0 ∧ l.getD j 0 ≤ 1000) := hid (fun j hj => by
              rcases Nat.lt_or_ge j i with h | h
              · exact HO.out j h
              · obtain rfl : j = i := by omega
                exact hr)
            generalize l.getD i 0 = X at c1 hr
            have r1 : ¬ (X < 0) := by omega
            have r2 : ¬ (1000 < X) := by omega
            clear hr HO
            go_wp2_with fail
            go_roundw
            case rel => exact ⟨i + 1, by omega, by go_num, HO2, by first | rfl | trivial⟩
            case measure => simp [intOf]; omega
          · have HB : Hid (BadH l 1) := hid (.inr (.inr ⟨by have := HN.out; omega, by have := HN.out; omega, ⟨i, by have := HN.out; omega, hr⟩, rfl⟩))
            generalize l.getD i 0 = X at c1 hr
            have hX : X < 0 ∨ (¬ X < 0 ∧ 1000 < X) := by omega
            clear hr HO
            rcases hX with r1 | ⟨r1, r2⟩
            · go_wp2_with fail
              go_ret
              exact ⟨.inr ⟨1, HB.out, rfl⟩, by first | rfl | trivial⟩
            · go_wp2_with fail
              go_ret
              exact ⟨.inr ⟨1, HB.out, rfl⟩, by first | rfl | trivial⟩
        · obtain rfl : i = n := by omega
          have HG : Hid (GoodH l) := hid (goodH_of (by have := HN.out; omega) (by have := HN.out; omega) (fun j hj => HO.out j (by have := HN.out; omega)))
          clear HO
          go_wp2_with fail
          go_ret
          exact ⟨.inl ⟨HG.out, rfl⟩, by first | rfl | trivial⟩
    · have HB : Hid (BadH l 4) := hid (.inr (.inl ⟨by omega, rfl⟩))
      have n1 : ¬ ((n : Int) = 0) := by omega
      have n2 : 10 < (n : Int) := by omega
      clear HN HL hl hlen
      go_enter Try.func26, Try.ntmps26
      go_wp2_with fail
      go_ret
      exact ⟨.inr ⟨4, HB.out, rfl⟩, rfl⟩

/-- The heaps as they are made, up to place i. -/
structure Sg (w wr : World) (T n : Nat) (l : List Int) (i : Nat) (ts : List Tr) : Prop where
  len : ts.length = i
  map : ts.map hp = heaps l i
  at_ : TreesAt wr T 53 n ts
  leaf : Leaves wr (fun b => b = T) ts
  new : ∀ t ∈ ts, w.heap.size ≤ t.2.1.1

set_option maxRecDepth 100000 in
set_option maxHeartbeats 1000000 in
theorem single_any (A : Option Addr) (n c : Nat) (l : List Int) (w : World) (hl : IsInts w w.heap.size A n l) (h0 : 0 < n) (h10 : n ≤ 10) :
    Calls Try.prog 27 #[.slice A n c] w fun e w' => ∃ (T : Nat) (ts : List Tr), e = .returned (.slice (some ⟨T, 0, none⟩) n n) ∧ w.heap.size ≤ T ∧ Sg w w' T n l n ts ∧ Below w.heap.size w w' := by
  obtain ⟨i0, hi, hz0, hz1, hz2⟩ := info_parts tree_info
  obtain ⟨g, off, rfl, hg, hc⟩ := hl.2 h0
  have HC := hid hc
  clear hl hc
  go_enter Try.func27, Try.ntmps27
  go_wp2_with (at_make; refine wpList_make_full _ rfl _ _ 50 rfl w.heap.size 53 i0 (.agg #[.int .i64 0, .slice none 0 0]) 2 Try.underlying50 hi hz0 hz1 _ _ _ _ n rfl rfl rfl rfl (by rw [hz2]; omega) (by unfold maxLen; omega) (Nat.le_refl _) ?_)
  intro w1 hown hgr
  have hb1 : Below w.heap.size w w1 := (Below.refl _ _).grown hgr (Nat.le_refl _) (by intro k hk; cases hk)
  have hT := (TreesAt.made hown).1
  have HS : Hid (Sg w w1 w.heap.size n l 0 []) := hid ⟨rfl, rfl, hT, (fun t ht => absurd ht (by simp)), (fun t ht => absurd ht (by simp))⟩
  have hTlt := hT.lt
  clear hown hgr hT
  obtain ⟨T, hTe⟩ : ∃ T, T = w.heap.size := ⟨_, rfl⟩
  have HT := hid (show w.heap.size ≤ T by omega)
  rw [← hTe] at HS hTlt
  rw [show (.slice (some ⟨w.heap.size, 0, none⟩) n n : Value) = .slice (some ⟨T, 0, none⟩) n n by rw [hTe]]
  have hgT : g ≠ T := by omega
  clear hTe
  go_wp2_with fail
  go_loopw [11] (fun x wr => ∃ i : Nat, i ≤ n ∧ x = .int .i64 i ∧ Hid (∃ ts, Sg w wr T n l i ts) ∧ Below w.heap.size w wr) (fun x _ => n - (intOf x).toNat)
  case atStart => exact ⟨0, by omega, rfl, hid ⟨_, HS.out⟩, hb1⟩
  case round =>
    clear HS hb1 hTlt
    obtain ⟨i, hin, rfl, HO, hb⟩ := hrel
    obtain ⟨ts, hS⟩ := HO.out
    clear HO
    by_cases hlt : i < n
    · have c1 := (hb.cell (p := ⟨g, off + i, none⟩) hg).trans (HC.out i hlt)
      have hTr : T < wr.heap.size := hS.at_.lt
      have hgr : g < wr.heap.size := by have := hb.size; omega
      obtain ⟨m1, m2, m3, hO⟩ := hS.at_.more hS.len hlt (l.getD i 0, (wr.heap.size, 1), [i])
      have f0 := m2 (i * 2)
      have f1 := m2 (i * 2 + 1)
      obtain ⟨u0, u0e⟩ := Option.isSome_iff_exists.1 (m1 0 (by omega))
      obtain ⟨u1, u1e⟩ := Option.isSome_iff_exists.1 (m1 1 (by omega))
      rw [Nat.add_zero] at u0e
      have e0 : sv (l.getD i 0, (wr.heap.size, 1), [i]) = .slice (some ⟨wr.heap.size, 0, none⟩) 1 1 := rfl
      rw [e0] at m3 hO
      have HN : Hid (Sg w (((wr.setCell ⟨T, i * 2, none⟩ (.int .i64 (l.getD i 0))).setCell ⟨T, i * 2 + 1, none⟩ (.slice (some ⟨wr.heap.size, 0, none⟩) 1 1)).alloc (.cells #[.int .i64 (i : Int)] 3)) T n l (i + 1) (ts ++ [(l.getD i 0, (wr.heap.size, 1), [i])])) := by
        have hA := Chg.alloc (fun b => b = T) ((wr.setCell ⟨T, i * 2, none⟩ (.int .i64 (l.getD i 0))).setCell ⟨T, i * 2 + 1, none⟩ (.slice (some ⟨wr.heap.size, 0, none⟩) 1 1)) (.cells #[.int .i64 (i : Int)] 3)
        have hOc := Chg.of_only (S := fun b => b = T) hO rfl
        have hnew := BlkAt.new ((wr.setCell ⟨T, i * 2, none⟩ (.int .i64 (l.getD i 0))).setCell ⟨T, i * 2 + 1, none⟩ (.slice (some ⟨wr.heap.size, 0, none⟩) 1 1)) 3 [.int .i64 (i : Int)] wr.heap.size hO.size
        refine ⟨by rw [List.length_append, hS.len]; rfl, by rw [List.map_append, hS.map, heaps_succ]; rfl, m3.below ((Below.refl _ _).alloc (Nat.le_refl _) _) (Nat.le_refl _), (hS.leaf.chg (hOc.trans hA)).snoc ⟨by simp, by simp, ?_, hnew.lt, ?_⟩, ?_⟩
        · show ¬ wr.heap.size = T
          omega
        · intro j hj
          obtain rfl : j = 0 := by simpa using hj
          exact hnew.cell rfl
        · intro t ht
          rcases List.mem_append.1 ht with ht | ht
          · exact hS.new t ht
          · obtain rfl : t = _ := by simpa using ht
            exact hb.size
      have HB : Hid (Below w.heap.size w (((wr.setCell ⟨T, i * 2, none⟩ (.int .i64 (l.getD i 0))).setCell ⟨T, i * 2 + 1, none⟩ (.slice (some ⟨wr.heap.size, 0, none⟩) 1 1)).alloc (.cells #[.int .i64 (i : Int)] 3))) :=
        hid ((hb.trans (hO.below HT.out)).alloc (by have := hb.size; have := hO.size; omega) _)
      clear hS m1 m2 m3 hO
      generalize l.getD i 0 = X at c1 HN HB
      go_wp2_with fail
      go_roundw
      case rel => exact ⟨i + 1, by omega, by go_num, hid ⟨_, HN.out⟩, HB.out⟩
      case measure => simp [intOf]; omega
    · obtain rfl : i = n := by omega
      have HS := hid hS
      clear hS
      go_wp2_with fail
      go_ret
      exact ⟨T, ts, rfl, HT.out, HS.out, hb⟩
end Go.Proofs.Ytlfncplldppncaa

/-
  Contract of huff.lightest: the first one of the least weights. Conditions: there is a heap, and there are at most ten.
-/
namespace Go.Proofs.Ytlfncplldppncaa
open Go.RowKit

/-- The first one of the least of the first i. -/
def LMin (l : List Int) (i b : Nat) : Prop := b < l.length ∧ b ≤ i ∧ (∀ j, j < i → l.getD b 0 ≤ l.getD j 0) ∧ ∀ j, j < b → l.getD b 0 < l.getD j 0
theorem lmin_start {l : List Int} (h : 0 < l.length) : LMin l 0 0 := ⟨h, Nat.le_refl _, fun _ h => absurd h (by omega), fun _ h => absurd h (by omega)⟩
theorem lmin_turn {l : List Int} {i b : Nat} (h : LMin l i b) (hi : i < l.length) (hlt : l.getD i 0 < l.getD b 0) : LMin l (i + 1) i := by
  refine ⟨hi, by omega, fun j hj => ?_, fun j hj => ?_⟩
  · rcases Nat.lt_or_ge j i with h1 | h1
    · have := h.2.2.1 j h1; omega
    · obtain rfl : j = i := by omega
      exact Int.le_refl _
  · have := h.2.2.1 j hj; omega
theorem lmin_stay {l : List Int} {i b : Nat} (h : LMin l i b) (hge : ¬ l.getD i 0 < l.getD b 0) : LMin l (i + 1) b := by
  refine ⟨h.1, by have := h.2.1; omega, fun j hj => ?_, h.2.2.2⟩
  rcases Nat.lt_or_ge j i with h1 | h1
  · exact h.2.2.1 j h1
  · obtain rfl : j = i := by omega
    omega
theorem lmin_end {l : List Int} {b : Nat} (h : LMin l l.length b) : FMin l b := ⟨h.1, h.2.2.1, h.2.2.2⟩
theorem fst_tr (ts : List Tr) (k : Nat) : (ts.map Prod.fst).getD k 0 = (ts.getD k tz).1 := by
  by_cases hk : k < ts.length <;> simp [hk, tz]

set_option maxRecDepth 100000 in
set_option maxHeartbeats 1000000 in
theorem lightest_any (T cap n : Nat) (ts : List Tr) (w : World) (hT : TreesAt w T 53 cap ts) (hn : ts.length = n) (h0 : 0 < n) (h10 : n ≤ 10) :
    Calls Try.prog 29 #[.slice (some ⟨T, 0, none⟩) n cap] w fun e w' => ∃ k : Nat, FMin (ts.map Prod.fst) k ∧ e = .returned (.int .i64 k) ∧ Below w.heap.size w w' := by
  have HT := hid hT
  have HN := hid hn
  have hTlt := hT.lt
  have hS := lmin_start (l := ts.map Prod.fst) (by simpa [hn] using h0)
  have HS := hid hS
  clear hT hn hS
  go_enter Try.func29, Try.ntmps29
  go_wp2_with fail
  go_loopw [3, 8] (fun v x wr => ∃ i b : Nat, i ≤ n ∧ b < n ∧ x = .int .i64 i ∧ v = .int .i64 b ∧ Hid (LMin (ts.map Prod.fst) i b) ∧ Below w.heap.size w wr) (fun _ x _ => n - (intOf x).toNat)
  case atStart => exact ⟨0, 0, by omega, h0, rfl, rfl, HS, Below.refl _ _⟩
  case round =>
    obtain ⟨i, b, hin, hbn, rfl, rfl, HM, hb⟩ := hrel
    by_cases hlt : i < n
    · obtain ⟨c1, c2⟩ := HT.out.cell (k := i) (by have := HN.out; omega)
      obtain ⟨c3, _⟩ := HT.out.cell (k := b) (by have := HN.out; omega)
      have c1 := (hb.cell (p := ⟨T, i * 2, none⟩) hTlt).trans c1
      have c2 := (hb.cell (p := ⟨T, i * 2 + 1, none⟩) hTlt).trans c2
      have c3 := (hb.cell (p := ⟨T, b * 2, none⟩) hTlt).trans c3
      have hTr : T < wr.heap.size := by have := hb.size; omega
      have hY : (((ts.getD i tz).1 < (ts.getD b tz).1) ∧ Hid (LMin (ts.map Prod.fst) (i + 1) i)) ∨ (¬ ((ts.getD i tz).1 < (ts.getD b tz).1) ∧ Hid (LMin (ts.map Prod.fst) (i + 1) b)) := by
        by_cases h : (ts.getD i tz).1 < (ts.getD b tz).1
        · exact .inl ⟨h, hid (lmin_turn HM.out (by simpa [HN.out] using hlt) (by rw [fst_tr, fst_tr]; exact h))⟩
        · exact .inr ⟨h, hid (lmin_stay HM.out (by rw [fst_tr, fst_tr]; exact h))⟩
      generalize (ts.getD i tz).1 = X at c1 hY
      unfold sv at c2
      generalize (ts.getD i tz).2.1.1 = G, (ts.getD i tz).2.1.2 = C, (ts.getD i tz).2.2.length = M at c2
      generalize (ts.getD b tz).1 = Y at c3 hY
      clear HM HS
      have b1 : (0 : Int) ≤ (b : Int) := by omega
      have b2 : (b : Int) < (n : Int) := by omega
      go_wp2_with fail
      rcases hY with ⟨hy, HM⟩ | ⟨hy, HM⟩
      · go_quiet (fail)
        go_wp2_with fail
        go_roundw
        case rel => exact ⟨i + 1, i, by omega, hlt, by go_num, rfl, HM, below_drewN (hb.alloc hb.size _) _⟩
        case measure => simp [intOf]; omega
      · go_quiet (fail)
        go_wp2_with fail
        go_roundw
        case rel => exact ⟨i + 1, b, by omega, hbn, by go_num, rfl, HM, below_drewN (hb.alloc hb.size _) _⟩
        case measure => simp [intOf]; omega
    · obtain rfl : i = n := by omega
      have HF : Hid (FMin (ts.map Prod.fst) b) := hid (lmin_end (by rw [List.length_map, HN.out]; exact HM.out))
      clear HM
      go_wp2_with fail
      go_ret
      exact ⟨b, HF.out, rfl, hb⟩
end Go.Proofs.Ytlfncplldppncaa

/-
  Contract of the function that huff.Long makes: it takes the first one of the lightest heaps out. Conditions: there is a heap, and there is room for at most ten.
-/
namespace Go.Proofs.Ytlfncplldppncaa
open Go.RowKit

/-- The variable in block V holds the heaps ts, which lie in block T. -/
structure Trs (w : World) (V T cap : Nat) (ts : List Tr) : Prop where
  v : BlkAt w V 50 [.slice (some ⟨T, 0, none⟩) ts.length cap]
  t : TreesAt w T 53 cap ts
  ne : V ≠ T
theorem Trs.chg {S : Nat → Prop} {w w' : World} {V T cap : Nat} {ts : List Tr} (h : Trs w V T cap ts) (hc : Chg S w w') (h1 : ¬ S V) (h2 : ¬ S T) : Trs w' V T cap ts := ⟨h.v.chg hc h1, h.t.chg hc h2, h.ne⟩
theorem Trs.below {w w' : World} {V T cap : Nat} {ts : List Tr} (h : Trs w V T cap ts) (hb : Below w.heap.size w w') : Trs w' V T cap ts := h.chg (S := fun _ => False) (Chg.of_below hb) (fun h => h) (fun h => h)

set_option maxRecDepth 100000 in
set_option maxHeartbeats 2000000 in
theorem take_any (V T cap : Nat) (ts : List Tr) (w : World) (h : Trs w V T cap ts) (h0 : 0 < ts.length) (h10 : cap ≤ 10) :
    Calls Try.prog 28 #[.pointer (some ⟨V, 0, none⟩)] w fun e w' => ∃ k : Nat, FMin (ts.map Prod.fst) k ∧ k < ts.length ∧ e = .returned (.agg #[.int .i64 (ts.getD k tz).1, sv (ts.getD k tz)]) ∧ Trs w' V T cap (ts.eraseIdx k) ∧ Chg (fun b => b = V ∨ b = T) w w' := by
  have hcap := h.t.1
  have hVlt := h.v.lt
  have hTlt := h.t.lt
  have hne := h.ne
  have cV := h.v.cell (k := 0) (v := .slice (some ⟨T, 0, none⟩) ts.length cap) rfl
  have HL := fun (w1 : World) (h1 : TreesAt w1 T 53 cap ts) => hid (lightest_any T cap ts.length ts w1 h1 rfl h0 (by omega))
  have HD : ∀ (k : Nat) (w1 : World), TreesAt w1 T 53 cap ts → k < ts.length → Hid (Calls Try.prog 30 #[.slice (some ⟨T, 0, none⟩) ts.length cap, .int .i64 (k : Int), .int .i64 ((k : Int) + 1)] w1
      fun e w' => e = .returned (.slice (some ⟨T, 0, none⟩) (ts.length - 1) cap) ∧ TreesAt w' T 53 cap (ts.eraseIdx k) ∧ Only T w1 w') :=
    fun k w1 h1 h2 => hid (delete_any T cap ts.length k (k + 1) ts w1 h1 rfl h2 rfl)
  have HH := hid h
  clear h
  obtain ⟨n, hn⟩ : ∃ n, n = ts.length := ⟨_, rfl⟩
  have HN := hid hn
  rw [← hn] at h0 hcap cV HL HD ⊢
  clear hn
  go_enter Try.func28, Try.ntmps28
  go_wp2_with fail
  generalize hwa : World.alloc w _ = wa
  have hba : Below w.heap.size w wa := by rw [← hwa]; exact (Below.refl _ _).alloc (Nat.le_refl _) _
  have hRa : wa.heap.size = w.heap.size + 1 := by rw [← hwa]; simp
  have hr0 : wa.heap[w.heap.size]? = some (.cells #[.int .i64 0, .slice none 0 0] 53 (0, 0)) := by rw [← hwa]; exact heap_alloc_new w _
  clear hwa cV
  have HHa := hid (HH.out.below hba)
  refine ((HL wa HHa.out.t).out).mono ?_
  rintro e w1 ⟨k, hmin, rfl, hb1⟩
  have hkn : k < n := by have := hmin.1; rw [List.length_map, ← HN.out] at this; exact this
  have HM := hid hmin
  have HH1 := hid (HHa.out.below hb1)
  have hb01 := hba.trans (hb1.mono (by omega))
  have cV := HH1.out.v.cell (k := 0) (v := .slice (some ⟨T, 0, none⟩) ts.length cap) rfl
  rw [← HN.out] at cV
  obtain ⟨c1, c2⟩ := HH1.out.t.cell (k := k) (by have := HN.out; omega)
  unfold sv at c2
  have k1 : (k : Int) < (n : Int) := by omega
  have k2 : (0 : Int) ≤ (k : Int) := by omega
  have l1 := hb01.size
  have l2 := hb1.size
  have hV1 : V < w1.heap.size := by omega
  have hT1 : T < w1.heap.size := by omega
  have hR1 : w.heap.size < w1.heap.size := by omega
  have hr1 := (hb1.block w.heap.size (by omega)).trans hr0
  clear hmin hr0 HHa hba hb1 HH
  obtain ⟨X, hX⟩ : ∃ X, X = (ts.getD k tz).1 := ⟨_, rfl⟩
  obtain ⟨G, hG⟩ : ∃ G, G = (ts.getD k tz).2.1.1 := ⟨_, rfl⟩
  obtain ⟨C, hC⟩ : ∃ C, C = (ts.getD k tz).2.1.2 := ⟨_, rfl⟩
  obtain ⟨M, hM⟩ : ∃ M, M = (ts.getD k tz).2.2.length := ⟨_, rfl⟩
  have HE : Hid (Value.agg #[.int .i64 (ts.getD k tz).1, sv (ts.getD k tz)] = .agg #[.int .i64 X, .slice (some ⟨G, 0, none⟩) M C]) := hid (by rw [hX, hG, hC, hM]; rfl)
  rw [← hX] at c1
  rw [← hG, ← hC, ← hM] at c2
  clear hX hG hC hM
  have HLt := hid (show V < w.heap.size ∧ T < w.heap.size from ⟨hVlt, hTlt⟩)
  clear hVlt hTlt
  go_wp2_with fail
  generalize hwb : World.alloc w1 _ = w2
  have hb2 : Below w1.heap.size w1 w2 := by rw [← hwb]; exact (Below.refl _ _).alloc (Nat.le_refl _) _
  have hq2 : BlkAt w2 w1.heap.size 53 [.int .i64 X, .slice (some ⟨G, 0, none⟩) M C] := by rw [← hwb]; exact heap_alloc_new w1 _
  have hr2 : BlkAt w2 w.heap.size 53 [.int .i64 0, .slice none 0 0] := (hb2.block w.heap.size hR1).trans hr1
  have HH2 := hid (HH1.out.below hb2)
  have hb02 := hb01.trans (hb2.mono l1)
  clear hwb HH1 hb2 cV c1 c2 hr1
  refine ((HD k w2 HH2.out.t hkn).out).mono ?_
  rintro e w3 ⟨rfl, hT3, hO3⟩
  have q3 := hq2.only hO3 (by omega)
  have r3 := hr2.only hO3 (by have := HLt.out; omega)
  have v3 := HH2.out.v.only hO3 hne
  obtain ⟨v4, hO4⟩ := v3.stored 0 (.slice (some ⟨T, 0, none⟩) (n - 1) cap)
  have q4 := q3.only hO4 (by omega)
  have r4 := r3.only hO4 (by have := HLt.out; omega)
  have t4 := hT3.only hO4 (Ne.symm hne)
  obtain ⟨r5, hO5⟩ := r4.stored 0 (.int .i64 X)
  obtain ⟨r6, hO6⟩ := r5.stored 1 (.slice (some ⟨G, 0, none⟩) M C)
  have hF : Hid (Trs (((w3.setCell ⟨V, 0, none⟩ (.slice (some ⟨T, 0, none⟩) (n - 1) cap)).setCell ⟨w.heap.size, 0, none⟩ (.int .i64 X)).setCell ⟨w.heap.size, 1, none⟩ (.slice (some ⟨G, 0, none⟩) M C)) V T cap (ts.eraseIdx k) ∧
      Chg (fun b => b = V ∨ b = T) w (((w3.setCell ⟨V, 0, none⟩ (.slice (some ⟨T, 0, none⟩) (n - 1) cap)).setCell ⟨w.heap.size, 0, none⟩ (.int .i64 X)).setCell ⟨w.heap.size, 1, none⟩ (.slice (some ⟨G, 0, none⟩) M C))) := by
    have hl := HLt.out
    have he : (ts.eraseIdx k).length = n - 1 := by rw [List.length_eraseIdx_of_lt (by have := HN.out; omega), ← HN.out]
    refine ⟨⟨?_, (t4.only hO5 (by omega)).only hO6 (by omega), hne⟩, ?_⟩
    · rw [he]
      exact (v4.only hO5 (by omega)).only hO6 (by omega)
    · have hc2 : Chg (fun b => b = V ∨ b = T) w w2 := Chg.of_below hb02
      have hc4 := (hc2.trans (Chg.of_only hO3 (.inr rfl))).trans (Chg.of_only hO4 (.inl rfl))
      have hc6 := (hO5.below (B := w.heap.size) (Nat.le_refl _)).trans (hO6.below (B := w.heap.size) (Nat.le_refl _))
      exact ⟨hc6.os.trans hc4.os, hc6.tape.trans hc4.tape, hc6.output.trans hc4.output, Nat.le_trans hc4.size hc6.size, fun b hb hs => (hc6.block b hb).trans (hc4.block b hb hs)⟩
  have cV := v3.cell (k := 0) rfl
  have fV := v3.frozen 0
  have cQ0 := q4.cell (k := 0) rfl
  have cQ1 := q4.cell (k := 1) rfl
  have cR0 := r4.cell (k := 0) rfl
  have cR1 := r4.cell (k := 1) rfl
  have fR0 := r4.frozen 0
  have fR1 := r4.frozen 1
  have HR6 := hid r6
  clear hT3 hO3 q3 r3 v3 v4 hO4 q4 r4 t4 r5 hO5 r6 hO6 HH2 hq2 hr2 hb02
  go_wp2_with fail
  refine bodyPost_ret (run_results_blk rfl _ _ w.heap.size _ _ rfl HR6.out Try.underlying53 (by kernel_rfl)) rfl ?_
  exact ⟨k, HM.out, hkn, by rw [HE.out]; rfl, hF.out⟩
end Go.Proofs.Ytlfncplldppncaa

/-
  Contracts of slices.Grow at numbers (of nil), slices.Concat of two slices of places, and huff.join. Conditions: each slice holds a place, at most ten; weights are at most ten thousand.
-/
namespace Go.Proofs.Ytlfncplldppncaa
open Go.RowKit

set_option maxHeartbeats 1000000 in
theorem grow_any (n : Nat) (w : World) (h0 : 0 < n) (h20 : n ≤ 20) :
    Calls Try.prog 42 #[.slice none 0 0, .int .i64 (n : Int)] w fun e w' => ∃ v, e = .returned v ∧ OwnI w' w.heap.size 3 v [] ∧ Below w.heap.size w w' := by
  obtain ⟨i0, hi, hz0, hz1, hz2⟩ := info_parts int_info
  have hrun : ∀ ty, (Builtin.append_ #[28, 3] ty #[.slice none 0 0, .int .i64 (n : Int)]).run Try.prog w = .ok (.slice (some ⟨w.heap.size, 0, none⟩) n (grownCap w n 0 3)) (w.drew.alloc (.cells (Builtin.zeroCells (Value.int .i64 0).cells n ++ Builtin.zeroCells (Value.int .i64 0).cells (grownCap w n 0 3 - n)) 3)) :=
    fun ty => Lib.run_append_nil_zeros w _ _ ty _ i0 _ _ _ Try.underlying28 Try.underlying3 hi hz0 n h0 (by rw [hz1]; decide) (by omega) (by rw [hz2]; omega)
  have hown : OwnI (w.drew.alloc (.cells (Builtin.zeroCells (Value.int .i64 0).cells n ++ Builtin.zeroCells (Value.int .i64 0).cells (grownCap w n 0 3 - n)) 3)) w.heap.size 3 (.slice (some ⟨w.heap.size, 0, none⟩) 0 (grownCap w n 0 3)) [] := by
    have hge := grownCap_ge w n 0 3
    refine World.ownsRow_made w.drew _ _ (Nat.le_refl _) (grownCap_le_maxLen w n 0 _ (by unfold maxLen; omega)) ?_
    rw [Array.size_append, size_zeroCells, size_zeroCells]
    show n * 1 + (grownCap w n 0 3 - n) * 1 = grownCap w n 0 3 * 1
    omega
  have hb : Below w.heap.size w (w.drew.alloc (.cells (Builtin.zeroCells (Value.int .i64 0).cells n ++ Builtin.zeroCells (Value.int .i64 0).cells (grownCap w n 0 3 - n)) 3)) := (Below.refl _ _).drew.alloc (Nat.le_refl _) _
  have hcap : (0 : Nat) ≤ grownCap w n 0 3 := Nat.zero_le _
  generalize World.alloc w.drew _ = W at hrun hown hb
  generalize grownCap w n 0 3 = K at hrun hown hcap
  have HO := hid hown
  have HR := hid hrun
  clear hown hrun
  go_enter Try.func42, Try.ntmps42
  go_wp2_with (at_builtin; refine Lib.wpList_append_run _ rfl (.tmp 20) (.tmp 21) 28 3 rfl (.slice none 0 0) (.int .i64 (n : Int)) rfl rfl _ _ (HR.out _) ?_)
  go_wp2_with fail
  go_ret
  exact ⟨_, rfl, HO.out, hb⟩

/-- How many places the first i of two slices hold. -/
def len2 (a b i : Nat) : Nat := if i = 0 then 0 else if i = 1 then a else a + b
/-- The places of the first i of two slices. -/
def cat2 (xs ys : List Int) (i : Nat) : List Int := if i = 0 then [] else if i = 1 then xs else xs ++ ys

set_option maxRecDepth 100000 in
set_option maxHeartbeats 2000000 in
theorem concat_any (D : Nat) (t u : Tr) (S : Nat → Prop) (w : World) (hD : BlkAt w D 28 [sv t, sv u]) (ht : Leaf w S t) (hu : Leaf w S u) (h1 : t.2.2.length ≤ 10) (h2 : u.2.2.length ≤ 10) :
    Calls Try.prog 37 #[.slice (some ⟨D, 0, none⟩) 2 2] w fun e w' => ∃ g c : Nat, e = .returned (.slice (some ⟨g, 0, none⟩) (t.2.2 ++ u.2.2).length c) ∧ (t.2.2 ++ u.2.2).length ≤ c ∧ w.heap.size ≤ g ∧ IsInts w' w'.heap.size (some ⟨g, 0, none⟩) (t.2.2 ++ u.2.2).length (nums (t.2.2 ++ u.2.2)) ∧ Below w.heap.size w w' := by
  obtain ⟨i0, hi, hz0, hz1, hz2⟩ := info_parts int_info
  have hDlt := hD.lt
  have HC : Hid (∀ i, i < 2 → ∃ (G M C : Nat) (xs : List Int), w.cell? ⟨D, i, none⟩ = some (.slice (some ⟨G, 0, none⟩) M C) ∧ 0 < M ∧ M ≤ 10 ∧ M ≤ C ∧ len2 t.2.2.length u.2.2.length (i + 1) = len2 t.2.2.length u.2.2.length i + M ∧
      cat2 (nums t.2.2) (nums u.2.2) (i + 1) = cat2 (nums t.2.2) (nums u.2.2) i ++ xs ∧ xs.length = M ∧ G < w.heap.size ∧ ∀ j, j < M → w.cell? ⟨G, j, none⟩ = some (.int .i64 (xs.getD j 0))) := by
    intro i hi2
    match i, hi2 with
    | 0, _ => exact ⟨t.2.1.1, t.2.2.length, t.2.1.2, nums t.2.2, hD.cell rfl, ht.1, h1, ht.2.1, by simp [len2], by simp [cat2], nums_len _, ht.2.2.2.1, fun j hj => by rw [nums_at]; exact ht.2.2.2.2 j hj⟩
    | 1, _ => exact ⟨u.2.1.1, u.2.2.length, u.2.1.2, nums u.2.2, hD.cell rfl, hu.1, h2, hu.2.1, by simp [len2], by simp [cat2], nums_len _, hu.2.2.2.1, fun j hj => by rw [nums_at]; exact hu.2.2.2.2 j hj⟩
  have HL : Hid (∀ i, i ≤ 2 → len2 t.2.2.length u.2.2.length i ≤ 20 ∧ (cat2 (nums t.2.2) (nums u.2.2) i).length ≤ 20) := by
    intro i hi2
    match i, hi2 with
    | 0, _ => simp [len2, cat2]
    | 1, _ => simp [len2, cat2, nums_len]; omega
    | 2, _ => simp [len2, cat2, nums_len]; omega
  have hG := fun w1 => hid (grow_any (len2 t.2.2.length u.2.2.length 2) w1 (by have := ht.1; simp [len2]; omega) (HL.out 2 (by omega)).1)
  have HE : Hid (cat2 (nums t.2.2) (nums u.2.2) 2 = nums (t.2.2 ++ u.2.2) ∧ cat2 (nums t.2.2) (nums u.2.2) 0 = [] ∧ len2 t.2.2.length u.2.2.length 0 = 0 ∧ 0 < (t.2.2 ++ u.2.2).length) := hid ⟨by simp [cat2, nums_app], rfl, rfl, by have := ht.1; simp; omega⟩
  generalize t.2.2 ++ u.2.2 = zs at HE ⊢
  generalize cat2 (nums t.2.2) (nums u.2.2) = cat at HC HL HE
  generalize len2 t.2.2.length u.2.2.length = len at HC HL hG HE
  clear hD ht hu h1 h2
  go_enter Try.func37, Try.ntmps37
  go_wp2_with fail
  go_loopw [3, 11] (fun v x wr => ∃ i : Nat, i ≤ 2 ∧ x = .int .i64 i ∧ v = .int .i64 (len i : Nat) ∧ wr = w) (fun _ x _ => 2 - (intOf x).toNat)
  case atStart => exact ⟨0, by omega, rfl, by rw [HE.out.2.2.1]; rfl, rfl⟩
  case round =>
    obtain ⟨i, hi2, rfl, rfl, hw⟩ := hrel
    subst wr
    by_cases hlt : i < 2
    · obtain ⟨G, M, C, xs, c1, m0, m1, m2, hlen, _, _, _, _⟩ := HC.out i hlt
      have hl1 := (HL.out i hi2).1
      have hl2 := (HL.out (i + 1) (by omega)).1
      have HS := hid hlen
      rw [hlen] at hl2
      clear hlen
      generalize len i = s at hl1 hl2 HS
      have i1 : (i : Int) < 2 := by omega
      have s1 : ¬ ((s : Int) + (M : Int) < 0) := by omega
      go_wp2_with fail
      go_roundw
      case rel => exact ⟨i + 1, by omega, by go_num, by rw [HS.out]; push_cast; rfl, by first | rfl | trivial⟩
      case measure => simp [intOf]; omega
    · obtain rfl : i = 2 := by omega
      go_wp2_with fail
      refine ((hG w).out).mono ?_
      rintro e w1 ⟨v, rfl, hown, hb1⟩
      have HO : Hid (OwnI w1 w.heap.size 3 v (cat 0)) := hid (by rw [HE.out.2.1]; exact hown)
      clear hown
      go_wp2_with fail
      go_loopw [6, 27] (fun v x wr => ∃ i : Nat, i ≤ 2 ∧ x = .int .i64 i ∧ Hid (OwnI wr w.heap.size 3 v (cat i)) ∧ Below w.heap.size w wr) (fun _ x _ => 2 - (intOf x).toNat)
      case atStart => exact ⟨0, by omega, rfl, HO, hb1⟩
      case round =>
        clear HO hb1
        obtain ⟨i, hi2, rfl, HO, hb⟩ := hrel
        by_cases hlt : i < 2
        · obtain ⟨G, M, C, xs, c1, m0, m1, m2, _, hcat, hxl, hGlt, hx⟩ := HC.out i hlt
          have c1 := (hb.cell (p := ⟨D, i, none⟩) hDlt).trans c1
          have hx : ∀ j, j < M → wr.cell? ⟨G, j, none⟩ = some (.int .i64 (xs.getD j 0)) := fun j hj => (hb.cell (p := ⟨G, j, none⟩) hGlt).trans (hx j hj)
          have hl1 := (HL.out i hi2).2
          have HX : Hid (∀ j, j < M → wr.cell? ⟨G, 0 + j, none⟩ = some (.int .i64 (xs.getD j 0))) := hid (fun j hj => by rw [Nat.zero_add]; exact hx j hj)
          have HCt := hid hcat
          have hsz := hb.size
          have i1 : (i : Int) < 2 := by omega
          clear hx hcat
          go_wp2_with (at_builtin; refine wpList_append_ints _ rfl (.tmp 31) (.tmp 32) 28 rfl w.heap.size 3 i0 Try.underlying28 hi hz0 hz1 hz2 _ (cat i) rfl HO.out G 0 M C xs hxl rfl HX.out (by omega) hsz ?_)
          intro v' w6 hown6 hb6
          have HO6 : Hid (OwnI w6 w.heap.size 3 v' (cat (i + 1))) := hid (by rw [HCt.out]; exact hown6)
          clear hown6
          go_wp2_with fail
          go_roundw
          case rel => exact ⟨i + 1, by omega, by go_num, HO6, hb.trans hb6⟩
          case measure => simp [intOf]; omega
        · obtain rfl : i = 2 := by omega
          have hO2 := HO.out
          rw [HE.out.1] at hO2
          obtain ⟨g, c, rfl, hc, hg, hI⟩ := hO2.blk (by rw [nums_len]; exact HE.out.2.2.2)
          rw [nums_len] at hc hI ⊢
          have HI := hid hI
          clear HO hO2 hI
          go_wp2_with fail
          go_ret
          exact ⟨g, c, rfl, hc, hg, HI.out, hb⟩

set_option maxRecDepth 100000 in
set_option maxHeartbeats 4000000 in
theorem join_any (t u : Tr) (S : Nat → Prop) (w : World) (ht : Leaf w S t) (hu : Leaf w S u) (hS : ∀ b, S b → b < w.heap.size) (h1 : t.2.2.length ≤ 10) (h2 : u.2.2.length ≤ 10) (ht0 : 0 ≤ t.1) (ht1 : t.1 ≤ 10000) (hu0 : 0 ≤ u.1) (hu1 : u.1 ≤ 10000) :
    Calls Try.prog 31 #[.agg #[.int .i64 t.1, sv t], .agg #[.int .i64 u.1, sv u]] w fun e w' => ∃ g c : Nat, e = .returned (.agg #[.int .i64 (t.1 + u.1), sv (t.1 + u.1, (g, c), t.2.2 ++ u.2.2)]) ∧ Leaf w' S (t.1 + u.1, (g, c), t.2.2 ++ u.2.2) ∧ Below w.heap.size w w' := by
  have HC := fun (D : Nat) (w1 : World) (hD : BlkAt w1 D 28 [sv t, sv u]) (h3 : Below w.heap.size w w1) => hid (concat_any D t u S w1 hD (ht.chg (Chg.of_below h3)) (hu.chg (Chg.of_below h3)) h1 h2)
  have H0 : Hid (0 < (t.2.2 ++ u.2.2).length) := hid (by have := ht.1; simp; omega)
  have HSS := hid hS
  clear ht hu hS h1 h2
  unfold sv at HC ⊢
  obtain ⟨x, ⟨g1, c1⟩, xs⟩ := t
  obtain ⟨y, ⟨g2, c2⟩, ys⟩ := u
  simp only at HC H0 ht0 ht1 hu0 hu1 ⊢
  generalize xs ++ ys = zs at HC H0 ⊢
  generalize xs.length = m1 at HC ⊢
  generalize ys.length = m2 at HC ⊢
  have hxy : IntKind.i64.wrap (x + y) = x + y := IntWalk.i64_in _ (by omega)
  go_enter Try.func31, Try.ntmps31
  go_wp2_with fail
  generalize hwa : World.alloc (World.alloc (World.alloc w _) _) _ = wa
  have b1 : BlkAt wa w.heap.size 53 [.int .i64 x, .slice (some ⟨g1, 0, none⟩) m1 c1] := by
    rw [← hwa]
    exact ((BlkAt.new w _ [.int .i64 x, .slice (some ⟨g1, 0, none⟩) m1 c1] _ rfl).alloc _).alloc _
  have b2 : BlkAt wa (w.heap.size + 1) 53 [.int .i64 y, .slice (some ⟨g2, 0, none⟩) m2 c2] := by
    rw [← hwa]
    exact (BlkAt.new _ _ [.int .i64 y, .slice (some ⟨g2, 0, none⟩) m2 c2] _ (by simp)).alloc _
  have b3 : BlkAt wa (w.heap.size + 1 + 1) 53 [.int .i64 0, .slice none 0 0] := by
    rw [← hwa]
    exact BlkAt.new _ _ [.int .i64 0, .slice none 0 0] _ (by simp)
  have hba : Below w.heap.size w wa := by
    rw [← hwa]
    exact (((Below.refl _ w).alloc (Nat.le_refl _) _).alloc (by simp) _).alloc (by simp; omega) _
  have hsz : wa.heap.size = w.heap.size + 1 + 1 + 1 := by rw [← hwa]; simp
  clear hwa
  have e12 : w.heap.size ≠ w.heap.size + 1 + 1 := by omega
  have e23 : w.heap.size + 1 ≠ w.heap.size + 1 + 1 := by omega
  obtain ⟨R1, hR1⟩ : ∃ R, R = w.heap.size := ⟨_, rfl⟩
  obtain ⟨R2, hR2⟩ : ∃ R, R = w.heap.size + 1 := ⟨_, rfl⟩
  obtain ⟨R3, hR3⟩ : ∃ R, R = w.heap.size + 1 + 1 := ⟨_, rfl⟩
  have HR := hid (show w.heap.size ≤ R1 ∧ w.heap.size ≤ R3 ∧ R1 < wa.heap.size ∧ R2 < wa.heap.size ∧ R3 < wa.heap.size ∧ w.heap.size ≤ wa.heap.size by omega)
  rw [← hR3] at b3 e12 e23 ⊢
  rw [← hR2] at b2 e23 ⊢
  rw [← hR1] at b1 e12 ⊢
  clear hR1 hR2 hR3 hsz
  have HK : ∀ W : World, Hid (BlkAt W wa.heap.size 28 [.slice (some ⟨g1, 0, none⟩) m1 c1, .slice (some ⟨g2, 0, none⟩) m2 c2]) → Hid (Below wa.heap.size wa W) →
      Calls Try.prog 37 #[.slice (some ⟨wa.heap.size, 0, none⟩) 2 2] W fun e w' => ∃ g c : Nat, e = .returned (.slice (some ⟨g, 0, none⟩) zs.length c) ∧
        w'.cell? ⟨R1, 0, none⟩ = some (.int .i64 x) ∧ w'.cell? ⟨R1, 1, none⟩ = some (.slice (some ⟨g1, 0, none⟩) m1 c1) ∧ w'.cell? ⟨R2, 0, none⟩ = some (.int .i64 y) ∧ w'.cell? ⟨R2, 1, none⟩ = some (.slice (some ⟨g2, 0, none⟩) m2 c2) ∧
        w'.cell? ⟨R3, 0, none⟩ = some (.int .i64 0) ∧ w'.cell? ⟨R3, 1, none⟩ = some (.slice none 0 0) ∧ w'.frozen? ⟨R3, 0, none⟩ = false ∧ w'.frozen? ⟨R3, 1, none⟩ = false ∧
        Hid (BlkAt w' R3 53 [.int .i64 0, .slice none 0 0] ∧ zs.length ≤ c ∧ w.heap.size ≤ g ∧ R3 ≠ g ∧ IsInts w' w'.heap.size (some ⟨g, 0, none⟩) zs.length (nums zs) ∧ Below w.heap.size w w') := by
    intro W hD hB
    have hr := HR.out
    have hsW := hB.out.size
    refine ((HC _ W hD.out (hba.trans (hB.out.mono (by omega)))).out).mono ?_
    rintro e w' ⟨g, c, rfl, hc, hg, hI, hb⟩
    have d1 := (b1.below hB.out (Nat.le_refl _)).below hb (Nat.le_refl _)
    have d2 := (b2.below hB.out (Nat.le_refl _)).below hb (Nat.le_refl _)
    have d3 := (b3.below hB.out (Nat.le_refl _)).below hb (Nat.le_refl _)
    exact ⟨g, c, rfl, d1.cell rfl, d1.cell rfl, d2.cell rfl, d2.cell rfl, d3.cell rfl, d3.cell rfl, d3.frozen 0, d3.frozen 1, d3, hc, by omega, by omega, hI, (hba.trans (hB.out.mono (by omega))).trans (hb.mono (by omega))⟩
  have k1 := b1.cell (k := 0) rfl
  have k2 := b1.cell (k := 1) rfl
  have k3 := b2.cell (k := 0) rfl
  have k4 := b2.cell (k := 1) rfl
  have k5 := b3.cell (k := 0) rfl
  have k6 := b3.cell (k := 1) rfl
  have k7 := b3.frozen 0
  have k8 := b3.frozen 1
  have HK1 := hid (HK ((wa.alloc (.cells #[.slice (some ⟨g1, 0, none⟩) m1 c1, .slice (some ⟨g2, 0, none⟩) m2 c2] 28)).drew) (hid (BlkAt.new wa _ [.slice (some ⟨g1, 0, none⟩) m1 c1, .slice (some ⟨g2, 0, none⟩) m2 c2] _ rfl)) (hid ((Below.refl _ wa).alloc (Nat.le_refl _) _).drew))
  clear b1 b2 b3 HC HK
  have KK : Hid (∀ (W : World) (v1 v2 : Value), W.cell? ⟨R1, 0, none⟩ = some (.int .i64 x) ∧ W.cell? ⟨R1, 1, none⟩ = some (.slice (some ⟨g1, 0, none⟩) m1 c1) ∧ W.cell? ⟨R2, 0, none⟩ = some (.int .i64 y) ∧ W.cell? ⟨R2, 1, none⟩ = some (.slice (some ⟨g2, 0, none⟩) m2 c2) → ((W.setCell ⟨R3, 0, none⟩ v1).setCell ⟨R3, 1, none⟩ v2).cell? ⟨R1, 0, none⟩ = some (.int .i64 x) ∧ ((W.setCell ⟨R3, 0, none⟩ v1).setCell ⟨R3, 1, none⟩ v2).cell? ⟨R1, 1, none⟩ = some (.slice (some ⟨g1, 0, none⟩) m1 c1) ∧ ((W.setCell ⟨R3, 0, none⟩ v1).setCell ⟨R3, 1, none⟩ v2).cell? ⟨R2, 0, none⟩ = some (.int .i64 y) ∧ ((W.setCell ⟨R3, 0, none⟩ v1).setCell ⟨R3, 1, none⟩ v2).cell? ⟨R2, 1, none⟩ = some (.slice (some ⟨g2, 0, none⟩) m2 c2)) := by
    intro W v1 v2 h
    have n1 : ∀ (b o k : Nat), b ≠ R3 → (⟨R3, k, none⟩ : Addr) ≠ ⟨b, o, none⟩ := fun b o k h e => h (congrArg Addr.block e).symm
    rw [World.cell?_setCell_other _ _ _ _ (n1 R1 0 1 e12), World.cell?_setCell_other _ _ _ _ (n1 R1 0 0 e12), World.cell?_setCell_other _ _ _ _ (n1 R1 1 1 e12), World.cell?_setCell_other _ _ _ _ (n1 R1 1 0 e12),
      World.cell?_setCell_other _ _ _ _ (n1 R2 0 1 e23), World.cell?_setCell_other _ _ _ _ (n1 R2 0 0 e23), World.cell?_setCell_other _ _ _ _ (n1 R2 1 1 e23), World.cell?_setCell_other _ _ _ _ (n1 R2 1 0 e23)]
    exact h
  go_region_held3 (fun w' => w'.cell? ⟨R1, 0, none⟩ = some (.int .i64 x) ∧ w'.cell? ⟨R1, 1, none⟩ = some (.slice (some ⟨g1, 0, none⟩) m1 c1) ∧ w'.cell? ⟨R2, 0, none⟩ = some (.int .i64 y) ∧ w'.cell? ⟨R2, 1, none⟩ = some (.slice (some ⟨g2, 0, none⟩) m2 c2)) (first | go_keep | exact KK.out _ _ _ ⟨by assumption, by assumption, by assumption, by assumption⟩)
    (first | (go_at_call 37; refine HK1.out.mono ?_; rintro e w6 ⟨g, c, rfl, j1, j2, j3, j4, j5, j6, j7, j8, HF⟩; clear k1 k2 k3 k4 k5 k6 k7 k8))
  obtain ⟨d3, hc, hg, hne, hI, hb⟩ := HF.out
  obtain ⟨d4, hO4⟩ := d3.stored 0 (.int .i64 (x + y))
  obtain ⟨d5, hO5⟩ := d4.stored 1 (.slice (some ⟨g, 0, none⟩) zs.length c)
  have hr := HR.out
  have hO := hO4.trans hO5
  have HE := hid (show Below w.heap.size w _ from hb.trans (hO.below (B := w.heap.size) (by omega)))
  have HI := hid (show IsInts _ _ (some ⟨g, 0, none⟩) zs.length (nums zs) from by
    have := hI
    exact (⟨this.1, fun h => by
      obtain ⟨g', off, e, hg', hx⟩ := this.2 h
      injection e with e
      injection e with e1 e2
      subst e1
      subst e2
      exact ⟨g, 0, rfl, by rw [hO.size]; exact hg', fun j hj => (hO.cell (Ne.symm hne)).trans (hx j hj)⟩⟩ : IsInts ((w6.setCell ⟨R3, 0, none⟩ (.int .i64 (x + y))).setCell ⟨R3, 1, none⟩ (.slice (some ⟨g, 0, none⟩) zs.length c)) ((w6.setCell ⟨R3, 0, none⟩ (.int .i64 (x + y))).setCell ⟨R3, 1, none⟩ (.slice (some ⟨g, 0, none⟩) zs.length c)).heap.size (some ⟨g, 0, none⟩) zs.length (nums zs)))
  have HD := hid d5
  have HCs := hid (show zs.length ≤ c ∧ w.heap.size ≤ g from ⟨hc, hg⟩)
  clear d3 d4 d5 hO4 hO5 hO hI hb hr HF hc hg
  go_wp2_with fail
  refine bodyPost_ret (run_results_blk rfl _ _ R3 _ _ rfl HD.out Try.underlying53 (by kernel_rfl)) rfl ?_
  exact ⟨g, c, rfl, Leaf.of_ints HI.out H0.out HCs.out.1 (fun h => by have := HSS.out g h; have := HCs.out.2; omega), HE.out⟩
end Go.Proofs.Ytlfncplldppncaa
