/-
  Plain facts on memory for Huffman's heaps: worlds that differ in some blocks alone, a row of heaps (a weight and a slice of places each) that lies whole in one block, one of them taken out and one put behind, and slices of places. No condition.
-/
import Derived.Test.YtmfpjbhgmcmceaaDoorBlk
import Derived.Deep.RegionLaw
import Derived.Lib.SliceRun
namespace Go.Proofs.YtmfpjbhgmcmceaaDoor
open Go.RowKit

/-! ### Worlds that differ in the blocks of S alone -/
/-- Blocks outside S are as they were; new ones may have been made. -/
structure Chg (S : Nat → Prop) (w w' : World) : Prop where
  os : w'.os = w.os
  tape : w'.tape = w.tape
  output : w'.output = w.output
  size : w.heap.size ≤ w'.heap.size
  block : ∀ b, b < w.heap.size → ¬ S b → w'.heap[b]? = w.heap[b]?
theorem Chg.refl (S : Nat → Prop) (w : World) : Chg S w w := ⟨rfl, rfl, rfl, Nat.le_refl _, fun _ _ _ => rfl⟩
theorem Chg.trans {S : Nat → Prop} {a b c : World} (h : Chg S a b) (k : Chg S b c) : Chg S a c :=
  ⟨k.os.trans h.os, k.tape.trans h.tape, k.output.trans h.output, Nat.le_trans h.size k.size, fun i hi hs => (k.block i (Nat.lt_of_lt_of_le hi h.size) hs).trans (h.block i hi hs)⟩
theorem Chg.of_below {S : Nat → Prop} {w w' : World} (h : Below w.heap.size w w') : Chg S w w' := ⟨h.os, h.tape, h.output, h.size, fun b hb _ => h.block b hb⟩
theorem Chg.of_only {S : Nat → Prop} {g : Nat} {w w' : World} (h : Only g w w') (hg : S g) : Chg S w w' :=
  ⟨h.os, h.tape, h.output, Nat.le_of_eq h.size.symm, fun b _ hn => h.block b (fun e => hn (e ▸ hg))⟩
theorem Chg.drewN {S : Nat → Prop} {a b : World} (h : Chg S a b) (q : Nat) : Chg S a (b.drewN q) := ⟨h.os, h.tape, h.output, h.size, h.block⟩
theorem Chg.alloc (S : Nat → Prop) (w : World) (o : Obj) : Chg S w (w.alloc o) := Chg.of_below ((Below.refl _ w).alloc (Nat.le_refl _) o)
theorem Chg.below {S : Nat → Prop} {B : Nat} {w w' : World} (h : Chg S w w') (hS : ∀ b, S b → B ≤ b) (hB : B ≤ w.heap.size) : Below B w w' :=
  ⟨h.os, h.tape, h.output, h.size, fun k hk => h.block k (by omega) (fun hs => by have := hS k hs; omega)⟩
theorem Chg.mono {S S' : Nat → Prop} {w w' : World} (h : Chg S w w') (hS : ∀ b, S b → S' b) : Chg S' w w' := ⟨h.os, h.tape, h.output, h.size, fun b hb hn => h.block b hb fun hs => hn (hS b hs)⟩
theorem Chg.cell {S : Nat → Prop} {b o : Nat} {w w' : World} (h : Chg S w w') (hb : b < w.heap.size) (hn : ¬ S b) : w'.cell? ⟨b, o, none⟩ = w.cell? ⟨b, o, none⟩ := by
  unfold World.cell?
  rw [h.block b hb hn]
theorem BlkAt.chg {S : Nat → Prop} {w w' : World} {g : Nat} {e : TypeId} {vs : List Value} (h : BlkAt w g e vs) (hc : Chg S w w') (hn : ¬ S g) : BlkAt w' g e vs :=
  (hc.block g h.lt hn).trans h
theorem BlkAt.only {w w' : World} {g k : Nat} {e : TypeId} {vs : List Value} (h : BlkAt w g e vs) (hc : Only k w w') (hn : g ≠ k) : BlkAt w' g e vs := (hc.block g hn).trans h
theorem BlkAt.below {w w' : World} {g B : Nat} {e : TypeId} {vs : List Value} (h : BlkAt w g e vs) (hc : Below B w w') (hB : w.heap.size ≤ B) : BlkAt w' g e vs := (hc.block g (Nat.lt_of_lt_of_le h.lt hB)).trans h
theorem BlkAt.new (w : World) (e : TypeId) (vs : List Value) (g : Nat) (hg : w.heap.size = g) : BlkAt (w.alloc (.cells vs.toArray e)) g e vs := by
  subst hg
  exact heap_alloc_new w _
theorem BlkAt.alloc {w : World} {g : Nat} {e : TypeId} {vs : List Value} (h : BlkAt w g e vs) (o : Obj) : BlkAt (w.alloc o) g e vs := h.below ((Below.refl _ w).alloc (Nat.le_refl _) o) (Nat.le_refl _)
/-- Several cells stored. -/
theorem BlkAt.stores {g : Nat} {e : TypeId} : ∀ (cs : List Value) (o : Nat) (vs : List Value) (w : World), BlkAt w g e vs → o + cs.length ≤ vs.length → BlkAt (w.setCells g o cs) g e (splice vs o cs) ∧ Only g w (w.setCells g o cs)
  | [], o, vs, w, h, _ => ⟨by simpa [splice, World.setCells] using h, Only.refl _ _⟩
  | c :: cs, o, vs, w, h, hl => by
    rw [List.length_cons] at hl
    obtain ⟨h1, h2⟩ := h.stored o c
    obtain ⟨h3, h4⟩ := BlkAt.stores cs (o + 1) (vs.set o c) _ h1 (by rw [List.length_set]; omega)
    rw [World.setCells]
    refine ⟨?_, h2.trans h4⟩
    have e : splice (vs.set o c) (o + 1) cs = splice vs o (c :: cs) := by
      unfold splice
      rw [List.length_cons, List.take_set, List.drop_set_of_lt (by omega), List.take_add_one, show o + 1 + cs.length = o + (cs.length + 1) by omega]
      have ho : o < vs.length := by omega
      simp only [List.getElem?_eq_getElem ho, Option.toList_some]
      rw [List.set_append_right _ _ (by rw [List.length_take]; omega), List.length_take, Nat.min_eq_left (by omega)]
      simp
    rwa [e] at h3

/-! ### A row of heaps -/
/-- A heap: its weight, the block that holds its places and that slice's capacity, and the places. -/
abbrev Tr := Int × (Nat × Nat) × List Nat
def tz : Tr := (0, (0, 0), [])
/-- A heap's slice. -/
def sv (t : Tr) : Value := .slice (some ⟨t.2.1.1, 0, none⟩) t.2.2.length t.2.1.2
/-- A heap's two cells. -/
def encT (t : Tr) : List Value := [.int .i64 t.1, sv t]
/-- A heap without the slice. -/
def hp (t : Tr) : Int × List Nat := (t.1, t.2.2)
theorem flatT_len (ts : List Tr) : (ts.flatMap encT).length = ts.length * 2 := by
  induction ts with
  | nil => rfl
  | cons x xs ih => rw [List.flatMap_cons, List.length_append, ih]; simp [encT]; omega
theorem flatT_get (ts : List Tr) : ∀ j, j < ts.length → (ts.flatMap encT)[j * 2]? = some (.int .i64 (ts.getD j tz).1) ∧ (ts.flatMap encT)[j * 2 + 1]? = some (sv (ts.getD j tz)) := by
  induction ts with
  | nil => intro j hj; simp at hj
  | cons x xs ih =>
    intro j hj
    cases j with
    | zero => simp [encT]
    | succ j =>
      have := ih j (by simpa using hj)
      rw [List.flatMap_cons, show (j + 1) * 2 = j * 2 + 2 by omega, show j * 2 + 2 + 1 = (j * 2 + 1) + 2 by omega]
      simpa [encT] using this
theorem flatT_take (ts : List Tr) : ∀ i, (ts.take i).flatMap encT = (ts.flatMap encT).take (i * 2) := by
  induction ts with
  | nil => simp
  | cons x xs ih =>
    intro i
    cases i with
    | zero => simp
    | succ i =>
      rw [List.take_succ_cons, List.flatMap_cons, List.flatMap_cons, ih, show (i + 1) * 2 = i * 2 + 2 by omega]
      simp [encT]
theorem flatT_drop (ts : List Tr) : ∀ i, (ts.drop i).flatMap encT = (ts.flatMap encT).drop (i * 2) := by
  induction ts with
  | nil => simp
  | cons x xs ih =>
    intro i
    cases i with
    | zero => simp
    | succ i =>
      rw [List.drop_succ_cons, List.flatMap_cons, ih, show (i + 1) * 2 = i * 2 + 2 by omega]
      simp [encT]
/-- Block g has room for cap heaps, and ts are the first of them. -/
def TreesAt (w : World) (g : Nat) (e : TypeId) (cap : Nat) (ts : List Tr) : Prop := ts.length ≤ cap ∧ ∃ rest : List Value, ts.length * 2 + rest.length = cap * 2 ∧ BlkAt w g e (ts.flatMap encT ++ rest)
theorem TreesAt.lt {w : World} {g cap : Nat} {e : TypeId} {ts : List Tr} (h : TreesAt w g e cap ts) : g < w.heap.size := by
  obtain ⟨_, _, _, hb⟩ := h
  exact hb.lt
theorem TreesAt.cell {w : World} {g cap : Nat} {e : TypeId} {ts : List Tr} (h : TreesAt w g e cap ts) {k : Nat} (hk : k < ts.length) : w.cell? ⟨g, k * 2, none⟩ = some (.int .i64 (ts.getD k tz).1) ∧ w.cell? ⟨g, k * 2 + 1, none⟩ = some (sv (ts.getD k tz)) := by
  obtain ⟨_, rest, _, hb⟩ := h
  have hf := flatT_get ts k hk
  have hl := flatT_len ts
  exact ⟨hb.cell (by rw [List.getElem?_append_left (by omega)]; exact hf.1), hb.cell (by rw [List.getElem?_append_left (by omega)]; exact hf.2)⟩
theorem TreesAt.chg {S : Nat → Prop} {w w' : World} {g cap : Nat} {e : TypeId} {ts : List Tr} (h : TreesAt w g e cap ts) (hc : Chg S w w') (hn : ¬ S g) : TreesAt w' g e cap ts := by
  obtain ⟨h1, rest, h2, hb⟩ := h
  exact ⟨h1, rest, h2, hb.chg hc hn⟩
theorem TreesAt.only {w w' : World} {g k cap : Nat} {e : TypeId} {ts : List Tr} (h : TreesAt w g e cap ts) (hc : Only k w w') (hn : g ≠ k) : TreesAt w' g e cap ts := by
  obtain ⟨h1, rest, h2, hb⟩ := h
  exact ⟨h1, rest, h2, hb.only hc hn⟩
theorem TreesAt.below {w w' : World} {g B cap : Nat} {e : TypeId} {ts : List Tr} (h : TreesAt w g e cap ts) (hc : Below B w w') (hB : w.heap.size ≤ B) : TreesAt w' g e cap ts := by
  obtain ⟨h1, rest, h2, hb⟩ := h
  exact ⟨h1, rest, h2, hb.below hc hB⟩
/-- Room for heaps, as it has just been made. -/
theorem TreesAt.made {w : World} {base g n : Nat} {e : TypeId} {xs : List Value} (h : w.ownsRow base e 2 (.slice (some ⟨g, 0, none⟩) n n) n xs) : TreesAt w g e n [] ∧ base ≤ g := by
  have hl := h.1
  rcases h.2 with ⟨h1, _⟩ | ⟨g', cap, cur, h1, hg, h3, _, _, h5, h6⟩
  · cases h1
  · injection h1 with a1 a2 a3
    subst a3
    injection a1 with a1
    injection a1 with a1
    subst a1
    refine ⟨⟨by simp, xs, by simp; omega, ?_⟩, hg⟩
    unfold BlkAt
    rw [h3, List.flatMap_nil, List.nil_append, ← h6, List.take_of_length_le (by rw [Array.length_toList, h5]; exact Nat.le_refl _)]
/-- One heap more is written. -/
theorem TreesAt.more {w : World} {g cap : Nat} {e : TypeId} {ts : List Tr} (h : TreesAt w g e cap ts) {i : Nat} (hi : ts.length = i) (hc : i < cap) (t : Tr) :
    (∀ j, j < 2 → (w.cell? ⟨g, i * 2 + j, none⟩).isSome = true) ∧ (∀ j, w.frozen? ⟨g, j, none⟩ = false) ∧
    TreesAt ((w.setCell ⟨g, i * 2, none⟩ (.int .i64 t.1)).setCell ⟨g, i * 2 + 1, none⟩ (sv t)) g e cap (ts ++ [t]) ∧ Only g w ((w.setCell ⟨g, i * 2, none⟩ (.int .i64 t.1)).setCell ⟨g, i * 2 + 1, none⟩ (sv t)) := by
  subst hi
  obtain ⟨h1, rest, h2, hb⟩ := h
  have hl := flatT_len ts
  obtain ⟨x, y, rest, rfl⟩ : ∃ x y r, rest = x :: y :: r := by
    match rest, h2 with
    | [], h2 => simp at h2; omega
    | [x], h2 => simp at h2; omega
    | x :: y :: r, _ => exact ⟨x, y, r, rfl⟩
  obtain ⟨h3, h4⟩ := hb.stores [.int .i64 t.1, sv t] (ts.length * 2) _ _ (by rw [List.length_append, hl]; simp)
  refine ⟨fun j hj => ?_, hb.frozen, ⟨by rw [List.length_append]; simp; omega, rest, by rw [List.length_append]; simp at h2 ⊢; omega, ?_⟩, h4⟩
  · match j, hj with
    | 0, _ => rw [hb.cell (v := x) (by rw [List.getElem?_append_right (by omega), hl]; simp)]; rfl
    | 1, _ => rw [hb.cell (v := y) (by rw [List.getElem?_append_right (by omega), hl, show ts.length * 2 + 1 - ts.length * 2 = 1 by omega]; rfl)]; rfl
  · have e : splice (ts.flatMap encT ++ x :: y :: rest) (ts.length * 2) [.int .i64 t.1, sv t] = (ts ++ [t]).flatMap encT ++ rest := by
      unfold splice
      rw [List.take_append_of_le_length (by omega), List.take_of_length_le (by omega), List.drop_append, List.flatMap_append]
      have d1 : List.drop (ts.length * 2 + [Value.int .i64 t.1, sv t].length) (List.flatMap encT ts) = [] := List.drop_eq_nil_of_le (by rw [hl]; simp)
      rw [d1, hl, show ts.length * 2 + [Value.int .i64 t.1, sv t].length - ts.length * 2 = 2 by simp]
      simp [encT]
    rwa [e] at h3
/-- What deleting heap i leaves. -/
theorem TreesAt.del {w : World} {g cap : Nat} {e : TypeId} {ts : List Tr} (h : TreesAt w g e cap ts) {i : Nat} (hi : i < ts.length) (x y : Value) :
    TreesAt ((w.setCells g (i * 2) ((ts.drop (i + 1)).flatMap encT)).setCells g ((ts.length - 1) * 2) [x, y]) g e cap (ts.eraseIdx i) ∧ Only g w ((w.setCells g (i * 2) ((ts.drop (i + 1)).flatMap encT)).setCells g ((ts.length - 1) * 2) [x, y]) := by
  obtain ⟨h1, rest, h2, hb⟩ := h
  have hl := flatT_len ts
  have hd : ((ts.drop (i + 1)).flatMap encT).length = (ts.length - (i + 1)) * 2 := by rw [flatT_len, List.length_drop]
  obtain ⟨h3, h4⟩ := hb.stores ((ts.drop (i + 1)).flatMap encT) (i * 2) _ _ (by rw [List.length_append, hl, hd]; omega)
  have hsl := length_splice (ts.flatMap encT ++ rest) (i * 2) ((ts.drop (i + 1)).flatMap encT) (by rw [List.length_append, hl, hd]; omega)
  obtain ⟨h5, h6⟩ := h3.stores [x, y] ((ts.length - 1) * 2) _ _ (by rw [hsl, List.length_append, hl]; simp; omega)
  have he : (ts.eraseIdx i).length = ts.length - 1 := List.length_eraseIdx_of_lt hi
  refine ⟨⟨by omega, [x, y] ++ rest, by rw [he]; simp; omega, ?_⟩, h4.trans h6⟩
  have e : splice (splice (ts.flatMap encT ++ rest) (i * 2) ((ts.drop (i + 1)).flatMap encT)) ((ts.length - 1) * 2) [x, y] = (ts.eraseIdx i).flatMap encT ++ ([x, y] ++ rest) := by
    have e1 : splice (ts.flatMap encT ++ rest) (i * 2) ((ts.drop (i + 1)).flatMap encT) = (ts.eraseIdx i).flatMap encT ++ ((ts.flatMap encT).drop ((ts.length - 1) * 2) ++ rest) := by
      rw [List.eraseIdx_eq_take_drop_succ, List.flatMap_append, flatT_take]
      unfold splice
      rw [hd, List.take_append_of_le_length (by omega), List.drop_append_of_le_length (by omega), show i * 2 + (ts.length - (i + 1)) * 2 = (ts.length - 1) * 2 by omega]
      simp
    rw [e1]
    have l1 : ((ts.eraseIdx i).flatMap encT).length = (ts.length - 1) * 2 := by rw [flatT_len, he]
    unfold splice
    rw [List.take_append_of_le_length (by omega), List.take_of_length_le (by omega), List.drop_append, l1]
    have l2 : (List.drop ((ts.length - 1) * 2) (ts.flatMap encT)).length = 2 := by rw [List.length_drop, hl]; omega
    have d1 : List.drop ((ts.length - 1) * 2 + [x, y].length) ((ts.eraseIdx i).flatMap encT) = [] := List.drop_eq_nil_of_le (by rw [l1]; simp)
    have d2 : List.drop 2 (List.drop ((ts.length - 1) * 2) (ts.flatMap encT)) = [] := List.drop_eq_nil_of_le (by omega)
    rw [d1, List.nil_append, show (ts.length - 1) * 2 + [x, y].length - (ts.length - 1) * 2 = 2 by simp, List.drop_append, l2, d2]
    simp
  rwa [e] at h5
/-- Built-in clear at one element. -/
theorem run_clear_one {P : Program} (w : World) (t e ty : TypeId) (z : Value) (ht : P.underlying t = some (.slice e)) (hv : ∀ w, (zeroValue e).run P w = .ok z w) (b o c k : Nat) (hk : k = 1) (x y : Value) (hz : z.cells = #[x, y]) (h1 : x.oneCell' = true) (h2 : y.oneCell' = true)
    (hc : ∀ j, j < 2 → (w.cell? ⟨b, o + j, none⟩).isSome = true) (hf : ∀ j, j < 2 → w.frozen? ⟨b, o + j, none⟩ = false) :
    (Builtin.clear_ #[t] ty #[.slice (some ⟨b, o, none⟩) k c]).run P w = .ok (.tuple #[]) (w.setCells b o [x, y]) := by
  subst hk
  have hzc : (Builtin.zeroCells z.cells 1).toList = [x, y] := by
    rw [hz]
    simp [Builtin.zeroCells, List.range_succ]
  have hst := run_storeCells_cells (P := P) b o [x, y] 0 w (by simpa using hc) (by simpa using hf) (by intro v hv'; simp at hv'; rcases hv' with rfl | rfl <;> assumption)
  simp only [Nat.add_zero] at hst
  simp [Builtin.clear_, run_underlying ht, hv, hzc, hst]
/-- 'ts = append(ts, t)' where there is room. -/
theorem wpList_append_tree {P : Program} (wr : World) {ops : Array Oper} {rest : List Oper} {o : Oper} {a : Act} {Q : Exit → Act → World → Prop} (hgd : o.guard = none) (s x : Operand) (t : TypeId)
    (ho : o.op = .call { callee := .builtin .append, args := #[s, x], argTypes := #[t, t] }) (e : TypeId) (i : TypeInfo)
    (ht : P.underlying t = some (.slice e)) (hi : P.info? e = some i) (hsize : i.size = 2) (g cap n : Nat) (ts : List Tr) (hn : ts.length = n)
    (hs : a.eval s = .slice (some ⟨g, 0, none⟩) n cap) (hT : TreesAt wr g e cap ts) (hroom : n < cap) (k : Tr) (ad : Addr) (c : Nat) (hx : a.eval x = .slice (some ad) 1 c)
    (hc0 : wr.cell? (ad.add 0) = some (.int .i64 k.1)) (hc1 : wr.cell? (ad.add 1) = some (sv k))
    (h : ∀ w', TreesAt w' g e cap (ts ++ [k]) → Only g wr w' → wpList P ops Q rest (a.put o.dst (.slice (some ⟨g, 0, none⟩) (n + 1) cap)) w') :
    wpList P ops Q (o :: rest) a wr := by
  subst hn
  obtain ⟨h1, re, h2, hb⟩ := hT
  have hl := flatT_len ts
  refine wpList_plain hgd fun K hK => ?_
  have hrun := run_append_room (P := P) wr t o.type e i ht hi g ts.length cap _ hb ad 1 c [.int .i64 k.1, sv k] (by rw [hsize]; rfl) (by
    intro j u hj
    match j, hj with
    | 0, hj => simp at hj; subst hj; exact hc0
    | 1, hj => simp at hj; subst hj; exact hc1) (by
    intro u hu
    simp at hu
    rcases hu with rfl | rfl
    · rfl
    · rfl) (by omega) (by rw [hsize]; simp [hl]; omega)
  unfold Oper.wp
  simp only [execOp, ho, resolve, invoke, builtin, Sem.run_bind, Sem.run_pure, Result.andThen_ok, List.map_toArray, List.map_cons, List.map_nil, hs, hx, hrun]
  refine hK _ _ (h _ ?_ (Only.setRow _ _ _))
  refine ⟨by rw [List.length_append]; simp; omega, re.drop 2, by rw [List.length_append, List.length_drop]; simp; omega, ?_⟩
  unfold BlkAt
  rw [setRow_heap wr g _ _ e _ hb, hsize]
  congr 3
  have l1 : (List.flatMap encT ts ++ re).length = cap * 2 := by rw [List.length_append, hl]; omega
  simp only [List.length_cons, List.length_nil]
  have d1 : List.drop (ts.length * 2 + (0 + 1 + 1)) (List.flatMap encT ts) = [] := List.drop_eq_nil_of_le (by omega)
  rw [List.take_append_of_le_length (by omega), List.take_of_length_le (by omega), List.drop_append, d1, hl, List.flatMap_append]
  simp [encT]

/-- A struct in a result's variable. -/
theorem run_results_blk {P : Program} {fn : Func} {p : Tmp} {t : TypeId} (h : fn.results = #[.cell p t]) (tmps : Array Value) (w : World) (g : Nat) (fs : Array Field) (vs : List Value)
    (hp : tmps.getD p undef = .pointer (some ⟨g, 0, none⟩)) (hB : BlkAt w g t vs) (hu : P.underlying t = some (.struct fs)) (hi : (P.info? t).map (·.size) = some vs.length) :
    (results fn tmps).run P w = .ok (.agg vs.toArray) w := by
  have hl := run_loadVar_row (P := P) w g t t vs.toArray (0, 0) _ hB hu rfl (by simpa using hi)
  have hp' : tmps[p]?.getD undef = .pointer (some ⟨g, 0, none⟩) := by simpa using hp
  simp only [results, h]
  simp [hp', asAddr, hl]
/-- A row of the call's own that holds something, by its block. -/
theorem OwnI.blk {w : World} {base : Nat} {e : TypeId} {v : Value} {xs : List Int} (h : OwnI w base e v xs) (h0 : 0 < xs.length) :
    ∃ g c, v = .slice (some ⟨g, 0, none⟩) xs.length c ∧ xs.length ≤ c ∧ base ≤ g ∧ IsInts w w.heap.size (some ⟨g, 0, none⟩) xs.length xs := by
  obtain ⟨A, c, rfl, hc, hI⟩ := IsInts.of_own h
  unfold OwnI at h
  rcases h.2 with ⟨_, hz⟩ | ⟨g, cap, cur, e, hg, _⟩
  · omega
  · injection e with e1 e2 e3
    subst e1
    exact ⟨g, c, rfl, hc, hg, hI⟩
/-- A literal of one number. -/
theorem OwnI.lit (w : World) (e : TypeId) (k : Int) : OwnI (w.alloc (.cells #[.int .i64 k] e)) w.heap.size e (.slice (some ⟨w.heap.size, 0, none⟩) 1 1) [k] :=
  ⟨rfl, .inr ⟨w.heap.size, 1, _, rfl, Nat.le_refl _, heap_alloc_new w _, Nat.le_refl _, by unfold maxLen; omega, rfl, rfl⟩⟩
/-- 'append(out, x...)', out nil or the call's own, x a slice of numbers that is not nil: nothing below 'base' has turned. -/
theorem wpList_append_ints {P : Program} (wr : World) {ops : Array Oper} {rest : List Oper} {o : Oper} {a : Act} {Q : Exit → Act → World → Prop} (hgd : o.guard = none) (s x : Operand) (t : TypeId)
    (ho : o.op = .call { callee := .builtin .append, args := #[s, x], argTypes := #[t, t] }) (base : Nat) (e : TypeId) (i : TypeInfo)
    (ht : P.underlying t = some (.slice e)) (hi : P.info? e = some i) (hz : i.zero = some (.int .i64 0)) (hsize : i.size = 1) (hby : i.bytes = 8)
    (v : Value) (cs : List Int) (hs : a.eval s = v) (hown : OwnI wr base e v cs) (g off m c : Nat) (xs : List Int) (hm : xs.length = m) (hx : a.eval x = .slice (some ⟨g, off, none⟩) m c) (hxs : ∀ j, j < m → wr.cell? ⟨g, off + j, none⟩ = some (.int .i64 (xs.getD j 0)))
    (hlen : cs.length + m ≤ 1099511627776) (hbase : base ≤ wr.heap.size)
    (h : ∀ v' w', OwnI w' base e v' (cs ++ xs) → Below base wr w' → wpList P ops Q rest (a.put o.dst v') w') :
    wpList P ops Q (o :: rest) a wr := by
  refine wpList_append_own _ hgd s x t ho base e i (.int .i64 0) 1 8 ht hi hz hsize hby rfl (by decide) v _ _ hs hown ⟨g, off, none⟩ m c (xs.map (Value.int .i64)) hx (by simp [hm]) ?_ ?_ ?_ ?_ hbase ?_
  · intro j u hj
    have hl : j < xs.length := by
      have := (List.getElem?_eq_some_iff.1 hj).1
      simpa using this
    rw [Addr.add_lit, hxs j (by omega)]
    simp [hl] at hj
    simp [hl, hj]
  · intro u hu
    obtain ⟨_, _, rfl⟩ := List.mem_map.1 hu
    rfl
  · unfold maxLen; omega
  · omega
  · intro v' w' ho hg _
    refine h v' w' (OwnI.mk_ (by rw [List.map_append, List.length_append, hm]; exact ho)) ((Below.refl base wr).grown hg hbase fun b hb => ?_)
    exact (World.ownsRow.lt hown b hb).1
/-! ### Slices of places -/
/-- The heap's slice holds its places, in a block outside S. -/
def Leaf (w : World) (S : Nat → Prop) (t : Tr) : Prop := 0 < t.2.2.length ∧ t.2.2.length ≤ t.2.1.2 ∧ ¬ S t.2.1.1 ∧ t.2.1.1 < w.heap.size ∧ ∀ j, j < t.2.2.length → w.cell? ⟨t.2.1.1, j, none⟩ = some (.int .i64 ((t.2.2.getD j 0 : Nat) : Int))
theorem Leaf.chg {S : Nat → Prop} {w w' : World} {t : Tr} (h : Leaf w S t) (hc : Chg S w w') : Leaf w' S t := by
  obtain ⟨h0, hl, hs, hg, hx⟩ := h
  exact ⟨h0, hl, hs, Nat.lt_of_lt_of_le hg hc.size, fun j hj => (hc.cell hg hs).trans (hx j hj)⟩
theorem Leaf.mono {S S' : Nat → Prop} {w : World} {t : Tr} (h : Leaf w S t) (hS : ∀ b, b < w.heap.size → S' b → S b) : Leaf w S' t := by
  obtain ⟨h0, hl, hs, hg, hx⟩ := h
  exact ⟨h0, hl, fun hn => hs (hS _ hg hn), hg, hx⟩
/-- The places as numbers. -/
def nums (xs : List Nat) : List Int := xs.map fun (j : Nat) => (j : Int)
theorem nums_len (xs : List Nat) : (nums xs).length = xs.length := by simp [nums]
theorem nums_at (xs : List Nat) (j : Nat) : (nums xs).getD j 0 = ((xs.getD j 0 : Nat) : Int) := by
  by_cases hj : j < xs.length <;> simp [nums, hj]
theorem nums_set (xs : List Nat) (k y : Nat) : (nums xs).set k ((y : Int) + 1) = nums (xs.set k (y + 1)) := by
  unfold nums
  rw [List.map_set]
  rfl
theorem nums_app (xs ys : List Nat) : nums (xs ++ ys) = nums xs ++ nums ys := by simp [nums]
theorem Leaf.ints {S : Nat → Prop} {w : World} {t : Tr} (h : Leaf w S t) : IsInts w w.heap.size (some ⟨t.2.1.1, 0, none⟩) t.2.2.length (nums t.2.2) := by
  obtain ⟨h0, hl, hs, hg, hx⟩ := h
  refine ⟨nums_len _, fun _ => ⟨t.2.1.1, 0, rfl, hg, fun j hj => ?_⟩⟩
  rw [Nat.zero_add, hx j hj, nums_at]
theorem Leaf.of_ints {S : Nat → Prop} {w : World} {x : Int} {g c : Nat} {xs : List Nat} (h : IsInts w w.heap.size (some ⟨g, 0, none⟩) xs.length (nums xs)) (h0 : 0 < xs.length) (hc : xs.length ≤ c) (hs : ¬ S g) : Leaf w S (x, (g, c), xs) := by
  obtain ⟨g', off, e, hg, hx⟩ := h.2 h0
  injection e with e
  injection e with e1 e2
  subst e1
  subst e2
  refine ⟨h0, hc, hs, hg, fun j hj => ?_⟩
  have := hx j hj
  rw [Nat.zero_add, nums_at] at this
  exact this
/-- Every heap's slice holds its places. -/
def Leaves (w : World) (S : Nat → Prop) (ts : List Tr) : Prop := ∀ t ∈ ts, Leaf w S t
theorem Leaves.chg {S : Nat → Prop} {w w' : World} {ts : List Tr} (h : Leaves w S ts) (hc : Chg S w w') : Leaves w' S ts := fun t ht => (h t ht).chg hc
theorem Leaves.erase {S : Nat → Prop} {w : World} {ts : List Tr} (h : Leaves w S ts) (k : Nat) : Leaves w S (ts.eraseIdx k) := fun t ht => h t (List.mem_of_mem_eraseIdx ht)
theorem Leaves.snoc {S : Nat → Prop} {w : World} {ts : List Tr} (h : Leaves w S ts) {t : Tr} (ht : Leaf w S t) : Leaves w S (ts ++ [t]) := fun u hu => by
  rcases List.mem_append.1 hu with hu | hu
  · exact h u hu
  · obtain rfl : u = t := by simpa using hu
    exact ht
theorem Leaves.at {S : Nat → Prop} {w : World} {ts : List Tr} (h : Leaves w S ts) {k : Nat} (hk : k < ts.length) : Leaf w S (ts.getD k tz) := by
  refine h _ ?_
  rw [List.getD_eq_getElem?_getD, List.getElem?_eq_getElem hk]
  exact List.getElem_mem hk
end Go.Proofs.YtmfpjbhgmcmceaaDoor
