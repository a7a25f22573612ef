/-
  Plain facts on memory for this seat's proofs: a slice of ints that reads as a list (nil let in), kept by draws, by new blocks and by whatever leaves the old blocks alone. No condition.
-/
import Derived.WalkKit
import Derived.ProofKit
import Derived.Deep.QuietTactic
import Derived.BigQuiet
import Derived.Deep.Draws
import Derived.Handy
namespace Go.Proofs.YtdhklkpeepmedaaDoor
open Go.RowKit

/-- The slice value '.slice A n _' holds the numbers xs in world w, below block B. -/
def IsInts (w : World) (B : Nat) (A : Option Addr) (n : Nat) (xs : List Int) : Prop :=
  xs.length = n ∧ (0 < n → ∃ g off, A = some ⟨g, off, none⟩ ∧ g < B ∧ ∀ j, j < n → w.cell? ⟨g, off + j, none⟩ = some (.int .i64 (xs.getD j 0)))

theorem IsInts.keep {w w' : World} {B B' n : Nat} {A : Option Addr} {xs : List Int} (h : IsInts w B A n xs) (hB : B ≤ B')
    (hk : ∀ b o, b < B → w'.cell? ⟨b, o, none⟩ = w.cell? ⟨b, o, none⟩) : IsInts w' B' A n xs :=
  ⟨h.1, fun hn => by
    obtain ⟨g, off, e, hg, hc⟩ := h.2 hn
    exact ⟨g, off, e, by omega, fun j hj => (hk _ _ hg).trans (hc j hj)⟩⟩
theorem IsInts.drewN {w : World} {B n : Nat} {A : Option Addr} {xs : List Int} (h : IsInts w B A n xs) (q : Nat) : IsInts (w.drewN q) B A n xs := h
theorem IsInts.below {w w' : World} {B n : Nat} {A : Option Addr} {xs : List Int} (h : IsInts w B A n xs) (hb : Below B w w') : IsInts w' B A n xs :=
  h.keep (Nat.le_refl _) fun _ _ hp => hb.cell hp
theorem IsInts.nil {w : World} {B : Nat} {A : Option Addr} : IsInts w B A 0 [] := ⟨rfl, fun h => absurd h (by omega)⟩
theorem IsInts.take {w : World} {B n k : Nat} {A : Option Addr} {xs : List Int} (h : IsInts w B A n xs) (hk : k ≤ n) : IsInts w B A k (xs.take k) := by
  refine ⟨by rw [List.length_take, h.1]; omega, fun h0 => ?_⟩
  obtain ⟨g, off, e, hg, hc⟩ := h.2 (by omega)
  refine ⟨g, off, e, hg, fun j hj => ?_⟩
  rw [hc j (by omega)]
  simp [List.getD_eq_getElem?_getD, hj]

theorem hid {p : Prop} (h : p) : Hid p := h

/-- Are two lists the same? Kept shut for the walk. -/
def sameInts (xs ys : List Int) : Bool := decide (xs = ys)
theorem sameInts_true {xs ys : List Int} (h : xs = ys) : sameInts xs ys = true := by simp [sameInts, h]

theorem take_eq_succ {xs ys : List Int} {k : Nat} (hx : k < xs.length) (hy : k < ys.length) (h : xs.take k = ys.take k) (e : xs.getD k 0 = ys.getD k 0) : xs.take (k + 1) = ys.take (k + 1) := by
  rw [List.take_succ_eq_append_getElem hx, List.take_succ_eq_append_getElem hy, h]
  simp [List.getD_eq_getElem?_getD, hx, hy] at e
  rw [e]
theorem ne_of_getD {xs ys : List Int} {k : Nat} (e : xs.getD k 0 ≠ ys.getD k 0) : sameInts xs ys = false := by
  simp only [sameInts, decide_eq_false_iff_not]; rintro rfl; exact e rfl
theorem ne_of_len {xs ys : List Int} (e : xs.length ≠ ys.length) : sameInts xs ys = false := by
  simp only [sameInts, decide_eq_false_iff_not]; rintro rfl; exact e rfl
theorem same_of_take {xs ys : List Int} {k : Nat} (hx : xs.length ≤ k) (hy : ys.length ≤ k) (h : xs.take k = ys.take k) : sameInts xs ys = true := by
  rw [List.take_of_length_le hx, List.take_of_length_le hy] at h; exact sameInts_true h
/-- A row of the call's own, of numbers, by a function on places. -/
def rowF (n : Nat) (f : Nat → Int) : List Value := (List.range n).map fun j => Value.int .i64 (f j)
theorem rowF_len (n : Nat) (f : Nat → Int) : (rowF n f).length = n := by simp [rowF]
theorem rowF_get (n : Nat) (f : Nat → Int) (j : Nat) (h : j < n) : (rowF n f)[j]? = some (.int .i64 (f j)) := by simp [rowF, h]
theorem rowF_set (n : Nat) (f : Nat → Int) (k : Nat) (x : Int) : (rowF n f).set k (.int .i64 x) = rowF n (fun j => if j = k then x else f j) := by
  apply List.ext_getElem?
  intro j
  by_cases hj : j < n
  · by_cases hk : j = k
    · subst hk; simp [rowF, hj]
    · simp [rowF, hj, hk, Ne.symm hk]
  · simp [rowF, hj]
theorem rowF_congr {n : Nat} {f g : Nat → Int} (h : ∀ j, j < n → f j = g j) : rowF n f = rowF n g :=
  List.map_congr_left fun j hj => by rw [h j (by simpa using hj)]
theorem rowF_made (n : Nat) : (madeCells #[Value.int .i64 0] n).toList = rowF n (fun _ => 0) := by
  rw [toList_madeCells_one]
  apply List.ext_getElem?
  intro j
  by_cases hj : j < n <;> simp [rowF, hj]

theorem rowF_of_list (xs : List Int) : xs.map (Value.int .i64) = rowF xs.length fun j => xs.getD j 0 := by
  apply List.ext_getElem?
  intro j
  by_cases hj : j < xs.length <;> simp [rowF, hj]
theorem rowF_rev (xs : List Int) : (rowF xs.length fun j => xs.getD (xs.length - 1 - j) 0) = xs.reverse.map (Value.int .i64) := by
  apply List.ext_getElem?
  intro j
  by_cases hj : j < xs.length
  · simp [rowF, hj, show xs.length - 1 - j < xs.length by omega]
  · simp [rowF, hj]
/-- A slice value that is the call's own (nil, or a row from block 'base' on) and holds the numbers xs. Shut for the walk. -/
def OwnI (w : World) (base : Nat) (e : TypeId) (v : Value) (xs : List Int) : Prop := w.ownsRow base e 1 v xs.length (xs.map (Value.int .i64))
theorem OwnI.mk_ {w : World} {base : Nat} {e : TypeId} {v : Value} {xs : List Int} (h : w.ownsRow base e 1 v xs.length (xs.map (Value.int .i64))) : OwnI w base e v xs := h
theorem OwnI.nil (w : World) (base : Nat) (e : TypeId) : OwnI w base e (.slice none 0 0) [] := World.ownsRow_nil _ _ _ _
theorem OwnI.base {w : World} {b b' : Nat} {e : TypeId} {v : Value} {xs : List Int} (h : OwnI w b e v xs) (hb : b' ≤ b) : OwnI w b' e v xs := by
  refine ⟨h.1, ?_⟩
  rcases h.2 with h' | ⟨g, cap, cur, h1, h2, h3⟩
  · exact .inl h'
  · exact .inr ⟨g, cap, cur, h1, by omega, h3⟩
/-- What is owned stays owned where all that lay there is kept. -/
theorem OwnI.below {w w' : World} {base B : Nat} {e : TypeId} {v : Value} {xs : List Int} (h : OwnI w base e v xs) (hb : Below B w w') (hB : w.heap.size ≤ B) : OwnI w' base e v xs := by
  refine ⟨h.1, ?_⟩
  rcases h.2 with h' | ⟨g, cap, cur, h1, h2, h3, h4⟩
  · exact .inl h'
  · refine .inr ⟨g, cap, cur, h1, h2, ?_, h4⟩
    have hlt : g < w.heap.size := by
      rcases Nat.lt_or_ge g w.heap.size with hlt | hge
      · exact hlt
      · rw [Array.getElem?_eq_none hge] at h3; cases h3
    rw [hb.block g (by omega)]; exact h3
theorem OwnI.drewN {w : World} {base : Nat} {e : TypeId} {v : Value} {xs : List Int} (h : OwnI w base e v xs) (q : Nat) : OwnI (w.drewN q) base e v xs := h
/-- A row of the call's own reads as its list. -/
theorem IsInts.of_own {w : World} {base : Nat} {e : TypeId} {v : Value} {xs : List Int} (h : OwnI w base e v xs) :
    ∃ A c, v = .slice A xs.length c ∧ xs.length ≤ c ∧ IsInts w w.heap.size A xs.length xs := by
  unfold OwnI at h
  generalize hn : xs.length = n at h ⊢
  have hl : xs.length = n := by have := h.1; simpa using this
  rcases h.2 with ⟨rfl, rfl⟩ | ⟨g, cap, cur, rfl, hg, hh, hnc, hcm, hcs, htk⟩
  · exact ⟨none, 0, rfl, Nat.le_refl _, hl, fun h => absurd h (by omega)⟩
  · refine ⟨_, _, rfl, hnc, hl, fun hn => ⟨g, 0, rfl, ?_, fun j hj => ?_⟩⟩
    · rcases Nat.lt_or_ge g w.heap.size with hlt | hge
      · exact hlt
      · rw [Array.getElem?_eq_none hge] at hh; cases hh
    · rw [Nat.zero_add, h.cellAt j (by omega)]
      simp [show j < xs.length by omega]

/-- 'out = append(out, k)', out nil or the call's own: one number more, and nothing below 'base' has turned. -/
theorem wpList_append_int {P : Program} (wr : World) {ops : Array Oper} {rest : List Oper} {o : Oper} {a : Act} {Q : Exit → Act → World → Prop} (hgd : o.guard = none) (s x : Operand) (t : TypeId)
    (ho : o.op = .call { callee := .builtin .append, args := #[s, x], argTypes := #[t, t] }) (base : Nat) (e : TypeId) (i : TypeInfo)
    (ht : P.underlying t = some (.slice e)) (hi : P.info? e = some i) (hz : i.zero = some (.int .i64 0)) (hsize : i.size = 1) (hby : i.bytes = 8)
    (v : Value) (cs : List Int) (hs : a.eval s = v) (hown : OwnI wr base e v cs) (k : Int) (hx : a.eval x = .slice (some ⟨wr.heap.size, 0, none⟩) 1 1)
    (hlen : cs.length ≤ 1099511627776) (hbase : base ≤ wr.heap.size)
    (h : ∀ v' w', OwnI w' base e v' (cs ++ [k]) → Below base wr w' → wpList P ops Q rest (a.put o.dst v') w') :
    wpList P ops Q (o :: rest) a (wr.alloc (.cells #[.int .i64 k] e)) := by
  refine wpList_append_own _ hgd s x t ho base e i (.int .i64 0) 1 8 ht hi hz hsize hby rfl (by decide) v _ _ hs (World.ownsRow.alloc hown _) ⟨wr.heap.size, 0, none⟩ 1 1 [.int .i64 k] hx rfl ?_ ?_ ?_ ?_ ?_ ?_
  · intro j u hj
    match j, hj with
    | 0, hj => simp at hj; subst hj; simp [Addr.add]
  · intro u hu; simp at hu; subst hu; rfl
  · unfold maxLen; omega
  · omega
  · simp; omega
  · intro v' w' ho hg _
    refine h v' w' (OwnI.mk_ (by simpa using ho)) (((Below.refl base wr).alloc hbase _).grown hg (by simp; omega) fun b hb => ?_)
    exact (World.ownsRow.lt hown b hb).1

/-- A slice literal of numbers, as it has just been laid. -/
theorem IsInts.lit (w : World) (xs : List Int) (cs : Array Value) (e : TypeId) (h : cs = (xs.map (Value.int .i64)).toArray) :
    IsInts (w.alloc (.cells cs e)) (w.heap.size + 1) (some ⟨w.heap.size, 0, none⟩) xs.length xs := by
  subst h
  refine ⟨rfl, fun _ => ⟨w.heap.size, 0, rfl, by omega, fun j hj => ?_⟩⟩
  rw [Nat.zero_add, cell_of_row _ _ j _ e (0, 0) (heap_alloc_new w _)]
  simp [hj]
theorem IsInts.alloc {w : World} {B n : Nat} {A : Option Addr} {xs : List Int} (h : IsInts w B A n xs) (hB : B ≤ w.heap.size) (o : Obj) : IsInts (w.alloc o) B A n xs :=
  h.below ((Below.refl B w).alloc hB o)
theorem below_drewN {B : Nat} {a w : World} (h : Below B a w) (n : Nat) : Below B a (w.drewN n) := ⟨h.os, h.tape, h.output, h.size, h.block⟩
theorem own_drewN {w : World} {base : Nat} {e : TypeId} {size : Nat} {v : Value} {n : Nat} {xs : List Value} (h : w.ownsRow base e size v n xs) (q : Nat) : (w.drewN q).ownsRow base e size v n xs := h

theorem ret_bool {a b : Bool} (h : a = b) : Ending.returned (.bool a) = .returned (.bool b) := by rw [h]
theorem ret_int {k : IntKind} {a b : Int} (h : a = b) : Ending.returned (.int k a) = .returned (.int k b) := by rw [h]

end Go.Proofs.YtdhklkpeepmedaaDoor
