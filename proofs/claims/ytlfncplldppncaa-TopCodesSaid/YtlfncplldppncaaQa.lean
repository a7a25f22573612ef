/-
  Several of this claim's texts in one (Post, Mem, Border, Base, Iarg, Huf, Apart, Rmem): what each proves stands at its own head. Conditions: as each says.
-/
import Derived.Below
import Derived.ChangeSame
import Derived.ProofKit
import Derived.WalkKit
import Derived.Deep.QuietTactic
import Derived.BigQuiet
import Derived.Deep.Draws
import Derived.Handy
import Derived.Test.YtlfncplldppncaaProg
import Derived.Outline
import Derived.ChangeSlices
import Derived.Carry
import Derived.Deep.AppendLies

/-
  The last step of a law's row where the call has laid new blocks of which only 'Below' is known: what was there before reads as it did. No condition.
-/
namespace Go.Proofs.Ytlfncplldppncaa
open Go.RowKit Go.WideShapes Go.ChangeShapes

theorem post_fresh {H : Type} {enc : TypeId × Value → H} {P : Program} {f : Func} {s : ChangeSpec} {apart fresh handsOn again : Bool} {W W' : World} {args : Array Value} {v : Value} {ds gs : List (DataW H)}
    {before pa pv : List MemPlace} (hW : DataW.Whole enc P f.params.toList s.vars apart W args.toList ds gs before)
    (hres : ∀ (b : Nat) (sp : Nat → Bool) (hd : Bool), DataW.TrodAll enc P W' b sp hd f.resultTypes.toList (v.resultList f.resultTypes.size) (s.fn H (ds ++ gs)).results [])
    (hargs : ∀ sp : Nat → Bool, (∀ p ∈ before, sp p.block = true) → DataW.TrodAll enc P W' 0 sp true f.params.toList args.toList (s.fn H (ds ++ gs)).args pa)
    (hvars : ∀ sp : Nat → Bool, (∀ p ∈ before, sp p.block = true) → DataW.TrodVars enc P W' sp s.vars (s.fn H (ds ++ gs)).vars pv)
    (hps : before = pa ++ pv) (hb : Below W.heap.size W W')
    (hok : ∀ (j : Nat) (t : TypeId) (r : Value), f.resultTypes[j]? = some t → (v.resultList f.resultTypes.size)[j]? = some r → Value.okWide P W' .any 0 t r) :
    s.post enc P f apart fresh handsOn again W args v W' := by
  have old : ∀ p ∈ before, p.block < W.heap.size := fun p hp => hW.lt p hp
  have old' : ∀ p ∈ before, (fun b => decide (b < W.heap.size)) p.block = true := fun p hp => by simpa using old p hp
  refine ⟨ds, gs, before, [], pa, pv, hW, hres _ _ _, hargs _ old', hvars _ old', World.keptBut_mono (fun p hp => ⟨hp, Or.inr ?_⟩) (hb.frame (· ∈ before)), fun _ => ?_⟩
  · simpa [hps] using hp
  · obtain ⟨_, _, _, _, _, hz, hn⟩ := hW
    refine ⟨hok, _, _, ([] ++ pa) ++ pv, ⟨[] ++ pa, pv, trodAll_append (hargs _ (fun _ _ => rfl)) (hres _ _ _), hvars _ (fun _ _ => rfl), rfl, ?_, ?_⟩, ?_⟩
    · intro b off hp
      have hin : MemPlace.cell b off ∈ before := by simpa [hps] using hp
      rw [hb.frozen (old _ hin)]
      exact hz b off hin
    · intro ha
      have := hn ha
      simpa [hps] using this
    · intro p hp _
      simpa [hps] using hp
end Go.Proofs.Ytlfncplldppncaa

/-
  Plain facts on memory for this seat's proofs: a slice of ints that reads as a list (nil let in), kept by draws, by new blocks and by whatever leaves the old blocks alone. No condition.
-/
namespace Go.Proofs.Ytlfncplldppncaa
open Go.RowKit

/-- The slice value '.slice A n _' holds the numbers xs in world w, below block B. -/
def IsInts (w : World) (B : Nat) (A : Option Addr) (n : Nat) (xs : List Int) : Prop :=
  xs.length = n ∧ (0 < n → ∃ g off, A = some ⟨g, off, none⟩ ∧ g < B ∧ ∀ j, j < n → w.cell? ⟨g, off + j, none⟩ = some (.int .i64 (xs.getD j 0)))

theorem IsInts.keep {w w' : World} {B B' n : Nat} {A : Option Addr} {xs : List Int} (h : IsInts w B A n xs) (hB : B ≤ B')
    (hk : ∀ b o, b < B → w'.cell? ⟨b, o, none⟩ = w.cell? ⟨b, o, none⟩) : IsInts w' B' A n xs :=
  ⟨h.1, fun hn => by
    obtain ⟨g, off, e, hg, hc⟩ := h.2 hn
    exact ⟨g, off, e, by omega, fun j hj => (hk _ _ hg).trans (hc j hj)⟩⟩
theorem IsInts.drewN {w : World} {B n : Nat} {A : Option Addr} {xs : List Int} (h : IsInts w B A n xs) (q : Nat) : IsInts (w.drewN q) B A n xs := h
theorem IsInts.below {w w' : World} {B n : Nat} {A : Option Addr} {xs : List Int} (h : IsInts w B A n xs) (hb : Below B w w') : IsInts w' B A n xs :=
  h.keep (Nat.le_refl _) fun _ _ hp => hb.cell hp
theorem IsInts.nil {w : World} {B : Nat} {A : Option Addr} : IsInts w B A 0 [] := ⟨rfl, fun h => absurd h (by omega)⟩
theorem IsInts.take {w : World} {B n k : Nat} {A : Option Addr} {xs : List Int} (h : IsInts w B A n xs) (hk : k ≤ n) : IsInts w B A k (xs.take k) := by
  refine ⟨by rw [List.length_take, h.1]; omega, fun h0 => ?_⟩
  obtain ⟨g, off, e, hg, hc⟩ := h.2 (by omega)
  refine ⟨g, off, e, hg, fun j hj => ?_⟩
  rw [hc j (by omega)]
  simp [List.getD_eq_getElem?_getD, hj]

theorem hid {p : Prop} (h : p) : Hid p := h

/-- Are two lists the same? Kept shut for the walk. -/
def sameInts (xs ys : List Int) : Bool := decide (xs = ys)
theorem sameInts_true {xs ys : List Int} (h : xs = ys) : sameInts xs ys = true := by simp [sameInts, h]

theorem take_eq_succ {xs ys : List Int} {k : Nat} (hx : k < xs.length) (hy : k < ys.length) (h : xs.take k = ys.take k) (e : xs.getD k 0 = ys.getD k 0) : xs.take (k + 1) = ys.take (k + 1) := by
  rw [List.take_succ_eq_append_getElem hx, List.take_succ_eq_append_getElem hy, h]
  simp [List.getD_eq_getElem?_getD, hx, hy] at e
  rw [e]
theorem ne_of_getD {xs ys : List Int} {k : Nat} (e : xs.getD k 0 ≠ ys.getD k 0) : sameInts xs ys = false := by
  simp only [sameInts, decide_eq_false_iff_not]; rintro rfl; exact e rfl
theorem ne_of_len {xs ys : List Int} (e : xs.length ≠ ys.length) : sameInts xs ys = false := by
  simp only [sameInts, decide_eq_false_iff_not]; rintro rfl; exact e rfl
theorem same_of_take {xs ys : List Int} {k : Nat} (hx : xs.length ≤ k) (hy : ys.length ≤ k) (h : xs.take k = ys.take k) : sameInts xs ys = true := by
  rw [List.take_of_length_le hx, List.take_of_length_le hy] at h; exact sameInts_true h
/-- A row of the call's own, of numbers, by a function on places. -/
def rowF (n : Nat) (f : Nat → Int) : List Value := (List.range n).map fun j => Value.int .i64 (f j)
theorem rowF_len (n : Nat) (f : Nat → Int) : (rowF n f).length = n := by simp [rowF]
theorem rowF_get (n : Nat) (f : Nat → Int) (j : Nat) (h : j < n) : (rowF n f)[j]? = some (.int .i64 (f j)) := by simp [rowF, h]
theorem rowF_set (n : Nat) (f : Nat → Int) (k : Nat) (x : Int) : (rowF n f).set k (.int .i64 x) = rowF n (fun j => if j = k then x else f j) := by
  apply List.ext_getElem?
  intro j
  by_cases hj : j < n
  · by_cases hk : j = k
    · subst hk; simp [rowF, hj]
    · simp [rowF, hj, hk, Ne.symm hk]
  · simp [rowF, hj]
theorem rowF_congr {n : Nat} {f g : Nat → Int} (h : ∀ j, j < n → f j = g j) : rowF n f = rowF n g :=
  List.map_congr_left fun j hj => by rw [h j (by simpa using hj)]
theorem rowF_made (n : Nat) : (madeCells #[Value.int .i64 0] n).toList = rowF n (fun _ => 0) := by
  rw [toList_madeCells_one]
  apply List.ext_getElem?
  intro j
  by_cases hj : j < n <;> simp [rowF, hj]

theorem rowF_of_list (xs : List Int) : xs.map (Value.int .i64) = rowF xs.length fun j => xs.getD j 0 := by
  apply List.ext_getElem?
  intro j
  by_cases hj : j < xs.length <;> simp [rowF, hj]
theorem rowF_rev (xs : List Int) : (rowF xs.length fun j => xs.getD (xs.length - 1 - j) 0) = xs.reverse.map (Value.int .i64) := by
  apply List.ext_getElem?
  intro j
  by_cases hj : j < xs.length
  · simp [rowF, hj, show xs.length - 1 - j < xs.length by omega]
  · simp [rowF, hj]
/-- A slice value that is the call's own (nil, or a row from block 'base' on) and holds the numbers xs. Shut for the walk. -/
def OwnI (w : World) (base : Nat) (e : TypeId) (v : Value) (xs : List Int) : Prop := w.ownsRow base e 1 v xs.length (xs.map (Value.int .i64))
theorem OwnI.mk_ {w : World} {base : Nat} {e : TypeId} {v : Value} {xs : List Int} (h : w.ownsRow base e 1 v xs.length (xs.map (Value.int .i64))) : OwnI w base e v xs := h
theorem OwnI.nil (w : World) (base : Nat) (e : TypeId) : OwnI w base e (.slice none 0 0) [] := World.ownsRow_nil _ _ _ _
theorem OwnI.base {w : World} {b b' : Nat} {e : TypeId} {v : Value} {xs : List Int} (h : OwnI w b e v xs) (hb : b' ≤ b) : OwnI w b' e v xs := by
  refine ⟨h.1, ?_⟩
  rcases h.2 with h' | ⟨g, cap, cur, h1, h2, h3⟩
  · exact .inl h'
  · exact .inr ⟨g, cap, cur, h1, by omega, h3⟩
/-- What is owned stays owned where all that lay there is kept. -/
theorem OwnI.below {w w' : World} {base B : Nat} {e : TypeId} {v : Value} {xs : List Int} (h : OwnI w base e v xs) (hb : Below B w w') (hB : w.heap.size ≤ B) : OwnI w' base e v xs := by
  refine ⟨h.1, ?_⟩
  rcases h.2 with h' | ⟨g, cap, cur, h1, h2, h3, h4⟩
  · exact .inl h'
  · refine .inr ⟨g, cap, cur, h1, h2, ?_, h4⟩
    have hlt : g < w.heap.size := by
      rcases Nat.lt_or_ge g w.heap.size with hlt | hge
      · exact hlt
      · rw [Array.getElem?_eq_none hge] at h3; cases h3
    rw [hb.block g (by omega)]; exact h3
theorem OwnI.drewN {w : World} {base : Nat} {e : TypeId} {v : Value} {xs : List Int} (h : OwnI w base e v xs) (q : Nat) : OwnI (w.drewN q) base e v xs := h
/-- A row of the call's own reads as its list. -/
theorem IsInts.of_own {w : World} {base : Nat} {e : TypeId} {v : Value} {xs : List Int} (h : OwnI w base e v xs) :
    ∃ A c, v = .slice A xs.length c ∧ xs.length ≤ c ∧ IsInts w w.heap.size A xs.length xs := by
  unfold OwnI at h
  generalize hn : xs.length = n at h ⊢
  have hl : xs.length = n := by have := h.1; simpa using this
  rcases h.2 with ⟨rfl, rfl⟩ | ⟨g, cap, cur, rfl, hg, hh, hnc, hcm, hcs, htk⟩
  · exact ⟨none, 0, rfl, Nat.le_refl _, hl, fun h => absurd h (by omega)⟩
  · refine ⟨_, _, rfl, hnc, hl, fun hn => ⟨g, 0, rfl, ?_, fun j hj => ?_⟩⟩
    · rcases Nat.lt_or_ge g w.heap.size with hlt | hge
      · exact hlt
      · rw [Array.getElem?_eq_none hge] at hh; cases hh
    · rw [Nat.zero_add, h.cellAt j (by omega)]
      simp [show j < xs.length by omega]

/-- 'out = append(out, k)', out nil or the call's own: one number more, and nothing below 'base' has turned. -/
theorem wpList_append_int {P : Program} (wr : World) {ops : Array Oper} {rest : List Oper} {o : Oper} {a : Act} {Q : Exit → Act → World → Prop} (hgd : o.guard = none) (s x : Operand) (t : TypeId)
    (ho : o.op = .call { callee := .builtin .append, args := #[s, x], argTypes := #[t, t] }) (base : Nat) (e : TypeId) (i : TypeInfo)
    (ht : P.underlying t = some (.slice e)) (hi : P.info? e = some i) (hz : i.zero = some (.int .i64 0)) (hsize : i.size = 1) (hby : i.bytes = 8)
    (v : Value) (cs : List Int) (hs : a.eval s = v) (hown : OwnI wr base e v cs) (k : Int) (hx : a.eval x = .slice (some ⟨wr.heap.size, 0, none⟩) 1 1)
    (hlen : cs.length ≤ 1099511627776) (hbase : base ≤ wr.heap.size)
    (h : ∀ v' w', OwnI w' base e v' (cs ++ [k]) → Below base wr w' → wpList P ops Q rest (a.put o.dst v') w') :
    wpList P ops Q (o :: rest) a (wr.alloc (.cells #[.int .i64 k] e)) := by
  refine wpList_append_own _ hgd s x t ho base e i (.int .i64 0) 1 8 ht hi hz hsize hby rfl (by decide) v _ _ hs (World.ownsRow.alloc hown _) ⟨wr.heap.size, 0, none⟩ 1 1 [.int .i64 k] hx rfl ?_ ?_ ?_ ?_ ?_ ?_
  · intro j u hj
    match j, hj with
    | 0, hj => simp at hj; subst hj; simp [Addr.add]
  · intro u hu; simp at hu; subst hu; rfl
  · unfold maxLen; omega
  · omega
  · simp; omega
  · intro v' w' ho hg _
    refine h v' w' (OwnI.mk_ (by simpa using ho)) (((Below.refl base wr).alloc hbase _).grown hg (by simp; omega) fun b hb => ?_)
    exact (World.ownsRow.lt hown b hb).1

/-- A slice literal of numbers, as it has just been laid. -/
theorem IsInts.lit (w : World) (xs : List Int) (cs : Array Value) (e : TypeId) (h : cs = (xs.map (Value.int .i64)).toArray) :
    IsInts (w.alloc (.cells cs e)) (w.heap.size + 1) (some ⟨w.heap.size, 0, none⟩) xs.length xs := by
  subst h
  refine ⟨rfl, fun _ => ⟨w.heap.size, 0, rfl, by omega, fun j hj => ?_⟩⟩
  rw [Nat.zero_add, cell_of_row _ _ j _ e (0, 0) (heap_alloc_new w _)]
  simp [hj]
theorem IsInts.alloc {w : World} {B n : Nat} {A : Option Addr} {xs : List Int} (h : IsInts w B A n xs) (hB : B ≤ w.heap.size) (o : Obj) : IsInts (w.alloc o) B A n xs :=
  h.below ((Below.refl B w).alloc hB o)
theorem below_drewN {B : Nat} {a w : World} (h : Below B a w) (n : Nat) : Below B a (w.drewN n) := ⟨h.os, h.tape, h.output, h.size, h.block⟩
theorem own_drewN {w : World} {base : Nat} {e : TypeId} {size : Nat} {v : Value} {n : Nat} {xs : List Value} (h : w.ownsRow base e size v n xs) (q : Nat) : (w.drewN q).ownsRow base e size v n xs := h

theorem ret_bool {a b : Bool} (h : a = b) : Ending.returned (.bool a) = .returned (.bool b) := by rw [h]
theorem ret_int {k : IntKind} {a b : Int} (h : a = b) : Ending.returned (.int k a) = .returned (.int k b) := by rw [h]

end Go.Proofs.Ytlfncplldppncaa

/-
  Plain mathematics of borders, without a program: borders of borders, the longest border of each beginning, how it grows, and borders from the end. No condition.
-/
namespace Go.Proofs.Ytlfncplldppncaa

/-- Of the first m signs, k are a border (a proper one). -/
def Bd (f : Nat → UInt8) (m k : Nat) : Prop := k < m ∧ ∀ j, j < k → f j = f (m - k + j)
def bdB (f : Nat → UInt8) (m k : Nat) : Bool := decide (k < m) && (List.range k).all fun j => f j == f (m - k + j)
theorem bdB_iff {f : Nat → UInt8} {m k : Nat} : bdB f m k = true ↔ Bd f m k := by simp [bdB, Bd]

theorem bd_zero {f : Nat → UInt8} {m : Nat} (h : 0 < m) : Bd f m 0 := ⟨h, fun j hj => absurd hj (by omega)⟩
theorem bd_trans {f : Nat → UInt8} {m k j : Nat} (h : Bd f m k) (h' : Bd f k j) : Bd f m j := by
  refine ⟨by have := h.1; have := h'.1; omega, fun i hi => ?_⟩
  have h1 := h.1; have h2 := h'.1
  rw [h'.2 i hi, h.2 (k - j + i) (by omega)]
  congr 1; omega
theorem bd_nest {f : Nat → UInt8} {m k j : Nat} (h : Bd f m k) (h' : Bd f m j) (hlt : j < k) : Bd f k j := by
  refine ⟨hlt, fun i hi => ?_⟩
  have h1 := h.1; have h2 := h'.1
  rw [h'.2 i hi, h.2 (k - j + i) (by omega)]
  congr 1; omega
theorem bd_pred {f : Nat → UInt8} {m k : Nat} (h : Bd f (m + 1) (k + 1)) : Bd f m k := by
  refine ⟨by have := h.1; omega, fun i hi => ?_⟩
  have h1 := h.1
  rw [h.2 i (by omega)]
  congr 1; omega
theorem bd_last {f : Nat → UInt8} {m k : Nat} (h : Bd f (m + 1) (k + 1)) : f k = f m := by
  have h1 := h.1
  rw [h.2 k (by omega)]
  congr 1; omega
theorem bd_succ {f : Nat → UInt8} {m k : Nat} (h : Bd f m k) (e : f k = f m) : Bd f (m + 1) (k + 1) := by
  have h1 := h.1
  refine ⟨by omega, fun i hi => ?_⟩
  by_cases hik : i = k
  · subst hik; rw [e]; congr 1; omega
  · rw [h.2 i (by omega)]; congr 1; omega

/-- The greatest border of m signs that has at most k. -/
def top (f : Nat → UInt8) (m : Nat) : Nat → Nat
  | 0 => 0
  | k + 1 => if bdB f m (k + 1) then k + 1 else top f m k
/-- The longest border of the first m signs. -/
def lon (f : Nat → UInt8) (m : Nat) : Nat := top f m (m - 1)

theorem top_le (f : Nat → UInt8) (m k : Nat) : top f m k ≤ k := by
  induction k with
  | zero => exact Nat.le_refl _
  | succ k ih => unfold top; split <;> omega
theorem top_bd {f : Nat → UInt8} {m : Nat} (h : 0 < m) (k : Nat) : Bd f m (top f m k) := by
  induction k with
  | zero => exact bd_zero h
  | succ k ih =>
    unfold top
    split
    · exact bdB_iff.1 ‹_›
    · exact ih
theorem top_max {f : Nat → UInt8} {m k j : Nat} (h : Bd f m j) (hj : j ≤ k) : j ≤ top f m k := by
  induction k with
  | zero => omega
  | succ k ih =>
    unfold top
    split
    · exact hj
    · rename_i hn
      have : j ≠ k + 1 := by rintro rfl; exact hn (bdB_iff.2 h)
      exact ih (by omega)
theorem lon_bd {f : Nat → UInt8} {m : Nat} (h : 0 < m) : Bd f m (lon f m) := top_bd h _
theorem lon_max {f : Nat → UInt8} {m j : Nat} (h : Bd f m j) : j ≤ lon f m := top_max h (by have := h.1; omega)
theorem lon_lt {f : Nat → UInt8} {m : Nat} (h : 0 < m) : lon f m < m := (lon_bd h).1
theorem lon_eq {f : Nat → UInt8} {m k : Nat} (h : Bd f m k) (hm : ∀ j, Bd f m j → j ≤ k) : lon f m = k :=
  Nat.le_antisymm (hm _ (lon_bd (by have := h.1; omega))) (lon_max h)
theorem lon_one (f : Nat → UInt8) : lon f 1 = 0 := rfl

/-- The search's state: l is a border of i signs, and no border of i + 1 signs is longer than l + 1. -/
def St (f : Nat → UInt8) (i l : Nat) : Prop := Bd f i l ∧ ∀ k, Bd f (i + 1) k → k ≤ l + 1
theorem st_start {f : Nat → UInt8} {i : Nat} (h : 0 < i) : St f i (lon f i) := by
  refine ⟨lon_bd h, fun k hk => ?_⟩
  rcases k with _ | k
  · omega
  · have := lon_max (bd_pred hk); omega
theorem st_step {f : Nat → UInt8} {i l : Nat} (h : St f i l) (hl : 0 < l) (hne : f l ≠ f i) : St f i (lon f l) := by
  refine ⟨bd_trans h.1 (lon_bd hl), fun k hk => ?_⟩
  rcases k with _ | k
  · omega
  · have h1 := h.2 _ hk
    have h2 : k ≠ l := by rintro rfl; exact hne (bd_last hk)
    have := lon_max (bd_nest h.1 (bd_pred hk) (by omega))
    omega
theorem st_hit {f : Nat → UInt8} {i l : Nat} (h : St f i l) (e : f l = f i) : lon f (i + 1) = l + 1 := lon_eq (bd_succ h.1 e) h.2
theorem st_miss {f : Nat → UInt8} {i : Nat} (h : St f i 0) (hne : f 0 ≠ f i) : lon f (i + 1) = 0 := by
  refine lon_eq (bd_zero (by omega)) fun j hj => ?_
  rcases j with _ | j
  · omega
  · have h1 := h.2 _ hj
    have : j = 0 := by omega
    subst this
    exact absurd (bd_last hj) hne

theorem lon_grow (f : Nat → UInt8) (m : Nat) : lon f (m + 1) ≤ lon f m + 1 := by
  have h := lon_bd (f := f) (m := m + 1) (by omega)
  generalize lon f (m + 1) = k at h
  rcases k with _ | k
  · omega
  · have := lon_max (bd_pred h); omega
theorem lon_sign {f : Nat → UInt8} {m : Nat} (h : 0 < lon f (m + 1)) : f (lon f (m + 1) - 1) = f m := by
  have hb := lon_bd (f := f) (m := m + 1) (by omega)
  generalize lon f (m + 1) = k at h hb ⊢
  rcases k with _ | k
  · omega
  · exact bd_last hb

/-- All borders but the empty one, rising. -/
def eds (f : Nat → UInt8) (m : Nat) : List Nat := (List.range m).filter fun k => decide (0 < k) && bdB f m k
theorem mem_eds {f : Nat → UInt8} {m k : Nat} : k ∈ eds f m ↔ 0 < k ∧ Bd f m k := by
  simp only [eds, List.mem_filter, List.mem_range, Bool.and_eq_true, decide_eq_true_eq, bdB_iff]
  exact ⟨fun h => h.2, fun h => ⟨h.2.1, h⟩⟩

theorem filter_range_stop (p : Nat → Bool) (a : Nat) : ∀ b, a ≤ b → (∀ k, a ≤ k → k < b → p k = false) → (List.range b).filter p = (List.range a).filter p := by
  intro b
  induction b with
  | zero => intro h _; have : a = 0 := by omega
            subst this; rfl
  | succ b ih =>
    intro hab h
    by_cases e : a = b + 1
    · subst e; rfl
    · rw [List.range_succ, List.filter_append, ih (by omega) (fun k h1 h2 => h k h1 (by omega))]
      simp [h b (by omega) (by omega)]
theorem filter_range_congr (p q : Nat → Bool) (b : Nat) (h : ∀ k, k < b → p k = q k) : (List.range b).filter p = (List.range b).filter q :=
  List.filter_congr fun k hk => h k (by simpa using hk)

/-- The borders of a text are those of its longest one, and that one. -/
theorem eds_chain {f : Nat → UInt8} {m : Nat} (h : 0 < lon f m) : eds f m = eds f (lon f m) ++ [lon f m] := by
  have hm : 0 < m := by
    rcases m with _ | m
    · simp [lon, top] at h
    · omega
  have hb := lon_bd (f := f) hm
  have hlt := hb.1
  unfold eds
  rw [filter_range_stop _ (lon f m + 1) m (by omega), List.range_succ, List.filter_append]
  · congr 1
    · refine filter_range_congr _ _ _ fun k hk => ?_
      by_cases hk0 : 0 < k
      · simp only [hk0, decide_true, Bool.true_and]
        rw [Bool.eq_iff_iff, bdB_iff, bdB_iff]
        exact ⟨fun h' => bd_nest hb h' hk, fun h' => bd_trans hb h'⟩
      · simp [hk0]
    · simp [h, bdB_iff.2 hb]
  · intro k h1 h2
    have : bdB f m k = false := by
      rw [← Bool.not_eq_true, bdB_iff]
      intro hk
      have := lon_max hk
      omega
    simp [this]
theorem eds_none {f : Nat → UInt8} {m : Nat} (h : lon f m = 0) : eds f m = [] := by
  rw [List.eq_nil_iff_forall_not_mem]
  intro k hk
  have ⟨h1, h2⟩ := mem_eds.1 hk
  have := lon_max h2
  omega

/-- The borders that the search has still to tell, at l. -/
def edsAt (f : Nat → UInt8) (l : Nat) : List Nat := if l = 0 then [] else eds f l ++ [l]
theorem edsAt_start {f : Nat → UInt8} {m : Nat} : edsAt f (lon f m) = eds f m := by
  unfold edsAt
  split
  · rw [eds_none ‹_›]
  · rw [← eds_chain (by omega)]
theorem edsAt_step {f : Nat → UInt8} {l : Nat} (h : 0 < l) : edsAt f l = edsAt f (lon f l) ++ [l] := by
  rw [edsAt_start]
  unfold edsAt
  rw [if_neg (by omega)]
theorem eds_len (f : Nat → UInt8) (m : Nat) : (eds f m).length ≤ m := by
  unfold eds
  have := List.length_filter_le (fun k => decide (0 < k) && bdB f m k) (List.range m)
  simpa using this
/-- What is gathered at l, the longest first. -/
def Got (f : Nat → UInt8) (m l : Nat) (cs : List Int) : Prop := ∃ c : List Nat, cs = c.map (fun k => ((k : Nat) : Int)) ∧ eds f m = edsAt f l ++ c.reverse
theorem got_start (f : Nat → UInt8) (m : Nat) : Got f m (lon f m) [] := ⟨[], rfl, by rw [edsAt_start]; simp⟩
theorem got_step {f : Nat → UInt8} {m l : Nat} {cs : List Int} (h : Got f m l cs) (hl : 0 < l) : Got f m (lon f l) (cs ++ [(l : Int)]) := by
  obtain ⟨c, rfl, e⟩ := h
  exact ⟨c ++ [l], by simp, by rw [e, edsAt_step hl]; simp⟩
theorem got_end {f : Nat → UInt8} {m : Nat} {cs : List Int} (h : Got f m 0 cs) : cs.reverse = (eds f m).map fun k => ((k : Nat) : Int) := by
  obtain ⟨c, rfl, e⟩ := h
  rw [e]; simp [edsAt]
theorem got_len {f : Nat → UInt8} {m l : Nat} {cs : List Int} (h : Got f m l cs) : cs.length ≤ m := by
  obtain ⟨c, rfl, e⟩ := h
  have := eds_len f m
  rw [e] at this
  simp at this ⊢
  omega

/-- Only the first m signs matter. -/
theorem bd_congr {f g : Nat → UInt8} {m k : Nat} (h : ∀ i, i < m → f i = g i) (hb : Bd f m k) : Bd g m k := by
  refine ⟨hb.1, fun j hj => ?_⟩
  have := hb.1
  rw [← h j (by omega), ← h (m - k + j) (by omega)]
  exact hb.2 j hj
theorem eds_congr {f g : Nat → UInt8} {m : Nat} (h : ∀ i, i < m → f i = g i) : eds f m = eds g m := by
  refine filter_range_congr _ _ _ fun k _ => ?_
  congr 1
  rw [Bool.eq_iff_iff, bdB_iff, bdB_iff]
  exact ⟨bd_congr h, bd_congr fun i hi => (h i hi).symm⟩
/-- From its end a text has borders as long. -/
theorem bd_back {f g : Nat → UInt8} {m k : Nat} (h : ∀ i, i < m → g i = f (m - 1 - i)) (hb : Bd f m k) : Bd g m k := by
  refine ⟨hb.1, fun j hj => ?_⟩
  have := hb.1
  rw [h j (by omega), h (m - k + j) (by omega)]
  have e := hb.2 (k - 1 - j) (by omega)
  have e1 : m - 1 - (m - k + j) = k - 1 - j := by omega
  have e2 : m - k + (k - 1 - j) = m - 1 - j := by omega
  rw [e1, e, e2]
theorem eds_back {f g : Nat → UInt8} {m : Nat} (h : ∀ i, i < m → g i = f (m - 1 - i)) : eds g m = eds f m := by
  refine filter_range_congr _ _ _ fun k _ => ?_
  congr 1
  rw [Bool.eq_iff_iff, bdB_iff, bdB_iff]
  refine ⟨bd_back fun i hi => ?_, bd_back h⟩
  rw [h (m - 1 - i) (by omega)]
  congr 1; omega

/-- The signs of a text. -/
def sg (s : ByteArray) (i : Nat) : UInt8 := s.data.toList.getD i 0
theorem sg_eq (s : ByteArray) (i : Nat) (h : i < s.size) : sg s i = s[i] := by
  have h' : i < s.data.size := h
  simp only [sg, List.getD_eq_getElem?_getD, Array.getElem?_toList, Array.getElem?_eq_getElem h', Option.getD_some]
  rfl
/-- What 'Of' answers. -/
def ofL (s : ByteArray) (n : Nat) : List Int := (List.range n).map fun i => ((lon (sg s) (i + 1) : Nat) : Int)
/-- What 'All' answers. -/
def allL (s : ByteArray) : List Int := (eds (sg s) s.size).map fun k => ((k : Nat) : Int)
theorem all_len (s : ByteArray) : (allL s).length ≤ s.size := by simpa [allL] using eds_len (sg s) s.size
theorem sg_cut (s : ByteArray) (a b i : Nat) (hb : b ≤ s.size) (h : i < b - a) : sg (s.extract a b) i = sg s (a + i) := by
  rw [sg_eq _ _ (by rw [ByteArray.size_extract]; omega), sg_eq _ _ (by omega), ByteArray.getElem_extract]
theorem all_cut (s : ByteArray) (k : Nat) (h : k ≤ s.size) : (eds (sg s) k).map (fun j => ((j : Nat) : Int)) = allL (s.extract 0 k) := by
  unfold allL
  have e : (s.extract 0 k).size = k := by rw [ByteArray.size_extract]; omega
  rw [e, eds_congr (g := sg (s.extract 0 k)) fun i hi => by rw [sg_cut s 0 k i h (by omega), Nat.zero_add]]
theorem ofL_len (s : ByteArray) (n : Nat) : (ofL s n).length = n := by simp [ofL]
theorem ofL_get (s : ByteArray) (n j : Nat) (h : j < n) : (ofL s n).getD j 0 = ((lon (sg s) (j + 1) : Nat) : Int) := by simp [ofL, h]
/-- The borders shorter than k. -/
def edsTo (f : Nat → UInt8) (m k : Nat) : List Int := ((List.range k).filter fun j => decide (0 < j) && bdB f m j).map fun j => ((j : Nat) : Int)
theorem edsTo_one (f : Nat → UInt8) (m : Nat) : edsTo f m 1 = [] := by simp [edsTo]
theorem edsTo_yes {f : Nat → UInt8} {m k : Nat} (h0 : 0 < k) (h : Bd f m k) : edsTo f m (k + 1) = edsTo f m k ++ [(k : Int)] := by
  simp [edsTo, List.range_succ, h0, bdB_iff.2 h]
theorem edsTo_no {f : Nat → UInt8} {m k : Nat} (h : ¬ Bd f m k) : edsTo f m (k + 1) = edsTo f m k := by
  have : bdB f m k = false := by rw [← Bool.not_eq_true, bdB_iff]; exact h
  simp [edsTo, List.range_succ, this]
theorem edsTo_len (f : Nat → UInt8) (m k : Nat) : (edsTo f m k).length ≤ k := by
  have := List.length_filter_le (fun j => decide (0 < j) && bdB f m j) (List.range k)
  simpa [edsTo] using this
theorem edsTo_all (s : ByteArray) : edsTo (sg s) s.size s.size = allL s := rfl
theorem edsTo_end (s : ByteArray) (k : Nat) (hk : k ≤ s.size ∨ k = 1) (hlt : ¬ k < s.size) : edsTo (sg s) s.size k = allL s := by
  rcases hk with hk | hk
  · rw [show k = s.size by omega]; rfl
  · subst hk
    rcases Nat.eq_zero_or_pos s.size with e | e
    · rw [edsTo_one]; simp [allL, e, eds]
    · rw [show s.size = 1 by omega, edsTo_one]; simp [allL, show s.size = 1 by omega, eds]

end Go.Proofs.Ytlfncplldppncaa

/-
  What every walk of this seat rests on: comparisons of two signs as the walk spells them, and the row of the type int. No condition.
-/
namespace Go.Proofs.Ytlfncplldppncaa
open Go.RowKit

theorem byte_eq (s : ByteArray) (a b : Nat) (ha : a < s.size) (hb : b < s.size) (h : sg s a = sg s b) : ((s[a].toNat : Int) == (s[b].toNat : Int)) = true := by
  rw [sg_eq s a ha, sg_eq s b hb] at h; simp [h]
theorem byte_ne_false (s : ByteArray) (a b : Nat) (ha : a < s.size) (hb : b < s.size) (h : sg s a = sg s b) : ((s[a].toNat : Int) != (s[b].toNat : Int)) = false := by
  rw [sg_eq s a ha, sg_eq s b hb] at h; simp [h]
theorem byte_apart {x y : UInt8} (h : x ≠ y) : (x.toNat : Int) ≠ (y.toNat : Int) := fun e => h (UInt8.toNat_inj.1 (by omega))
theorem byte_eq_false (s : ByteArray) (a b : Nat) (ha : a < s.size) (hb : b < s.size) (h : sg s a ≠ sg s b) : ((s[a].toNat : Int) == (s[b].toNat : Int)) = false := by
  rw [sg_eq s a ha, sg_eq s b hb] at h; simpa using byte_apart h
theorem byte_ne (s : ByteArray) (a b : Nat) (ha : a < s.size) (hb : b < s.size) (h : sg s a ≠ sg s b) : ((s[a].toNat : Int) != (s[b].toNat : Int)) = true := by
  rw [sg_eq s a ha, sg_eq s b hb] at h; simpa using byte_apart h

/-- A byte's number is a sign's. -/
theorem byte_of {a : Int} (h : (Lit.int .u8 a).wf = true) : ∃ c : UInt8, a = (c.toNat : Int) := by
  have hx : 0 ≤ a ∧ a ≤ 255 := by simpa [Lit.wf, IntKind.min, IntKind.max, IntKind.signed, IntKind.bits] using h
  refine ⟨UInt8.ofNat a.toNat, ?_⟩
  rw [UInt8.toNat_ofNat']
  omega

theorem int_info : (Try.prog.info? 3).map (fun i => (i.zero, i.size, i.bytes)) = some (some (.int .i64 0), 1, 8) := by kernel_rfl

end Go.Proofs.Ytlfncplldppncaa

/-
  A slice of numbers among a law's arguments: opened as a list of numbers, and read again behind the call. No condition.
-/
namespace Go.Proofs.Ytlfncplldppncaa
open Go.RowKit Go.ChangeShapes Go.WideShapes

set_option maxRecDepth 100000 in
theorem open_nums {H : Type} {enc : TypeId × Value → H} {W : World} {base : Nat} {v : Value} {d : DataW H} {p : List MemPlace} (hv : Value.okWide Try.prog W .any base 28 v)
    (h : DataW.Trod enc Try.prog W 0 (fun _ => true) true 28 v d p) :
    ∃ (A : Option Addr) (n c : Nat) (l : List Int), v = .slice A n c ∧ n ≤ maxLen ∧ (∀ k ∈ l, (Lit.int .i64 k).wf = true) ∧ n ≤ c ∧ IsInts W W.heap.size A n l := by
  obtain ⟨a0, len, cap, rfl⟩ := okWide_slice Try.underlying28 hv
  obtain ⟨fuel, hf⟩ := h
  have e : (Value.slice a0 len cap).cells.toList = [.slice a0 len cap] := rfl
  rcases open_ints Try.underlying28 Try.underlying3 (by kernel_rfl) hf with ⟨hcs, _⟩ | ⟨a, len', cap', zs, hcs, _, hl, hm, hz, _, hcell, hwf⟩
  · rw [e] at hcs
    simp only [List.cons.injEq, Value.slice.injEq, and_true] at hcs
    obtain ⟨rfl, rfl, rfl⟩ := hcs
    exact ⟨none, 0, 0, [], rfl, by unfold maxLen; omega, fun k hk => (by cases hk), by omega, IsInts.nil⟩
  · rw [e] at hcs
    simp only [List.cons.injEq, Value.slice.injEq, and_true] at hcs
    obtain ⟨rfl, rfl, rfl⟩ := hcs
    rw [if_pos rfl] at hz
    have hw : ∀ i, i < len → (zs.take len).getD i 0 = zs.getD i 0 := fun i hi => by simp [List.getD_eq_getElem?_getD, hi]
    refine ⟨some a, len, cap, zs.take len, rfl, by omega, fun k hk => hwf k (List.mem_of_mem_take hk), by omega, by rw [List.length_take]; omega, fun h0 => ?_⟩
    have h1 := hcell 0 (by omega)
    have hsp : a.spot = none := by
      cases es : a.spot with
      | none => rfl
      | some x =>
        have : (a.add 0).spot = some x := by simp [Addr.add, es]
        simp [World.cell?, this] at h1
        split at h1 <;> simp at h1
    have ha : a = ⟨a.block, a.off, none⟩ := by cases a; simp at hsp; simp [hsp]
    refine ⟨a.block, a.off, by rw [← ha], ?_, fun j hj => ?_⟩
    · rcases Nat.lt_or_ge a.block W.heap.size with h' | h'
      · exact h'
      · simp [World.cell?, Addr.add, Array.getElem?_eq_none h'] at h1
    · have := hcell j (by omega)
      rw [ha] at this
      rw [show (⟨a.block, a.off, none⟩ : Addr).add j = ⟨a.block, a.off + j, none⟩ by by_cases e : j = 0 <;> simp [Addr.add, e]] at this
      rw [hw j hj]
      exact this
set_option maxRecDepth 100000 in
theorem stay_nums {H : Type} {enc : TypeId × Value → H} {W W' : World} {v : Value} {d : DataW H} {p : List MemPlace} (h : DataW.Trod enc Try.prog W 0 (fun _ => true) true 28 v d p) (hb : Below W.heap.size W W')
    (hlt : ∀ x ∈ p, x.block < W.heap.size) (sp : Nat → Bool) (hs : ∀ x ∈ p, sp x.block = true) : DataW.Trod enc Try.prog W' 0 sp true 28 v d p :=
  WideElems.Trod_stays (by kernel_rfl) (by kernel_rfl) (of_decide_eq_true (by kernel_rfl)) h (fun x hx => hb.same (hlt x hx)) hs
end Go.Proofs.Ytlfncplldppncaa

/-
  Plain mathematics of Huffman's codes, without a program: what codes cost, how much room they take, that joining the two lightest again and again costs least, that it leaves no room, and the lengths that it gives where the first one of several is taken. No condition.
-/
namespace Go.Proofs.Ytlfncplldppncaa

/-- What weights with lengths cost. -/
def cst : List (Int × Nat) → Int
  | [] => 0
  | x :: P => x.1 * (x.2 : Int) + cst P
/-- The room that they take, of 2 ^ M. -/
def kr (M : Nat) : List (Int × Nat) → Nat
  | [] => 0
  | x :: P => 2 ^ (M - x.2) + kr M P
theorem cst_app (P Q : List (Int × Nat)) : cst (P ++ Q) = cst P + cst Q := by
  induction P with
  | nil => simp [cst]
  | cons x P ih => simp only [List.cons_append, cst, ih]; omega
theorem kr_app (M : Nat) (P Q : List (Int × Nat)) : kr M (P ++ Q) = kr M P + kr M Q := by
  induction P with
  | nil => simp [kr]
  | cons x P ih => simp only [List.cons_append, kr, ih]; omega
theorem cst_perm {P Q : List (Int × Nat)} (h : P.Perm Q) : cst P = cst Q := by
  induction h with
  | nil => rfl
  | cons x _ ih => simp only [cst, ih]
  | swap x y l => simp only [cst]; omega
  | trans _ _ h1 h2 => exact h1.trans h2
theorem kr_perm (M : Nat) {P Q : List (Int × Nat)} (h : P.Perm Q) : kr M P = kr M Q := by
  induction h with
  | nil => rfl
  | cons x _ ih => simp only [kr, ih]
  | swap x y l => simp only [kr]; omega
  | trans _ _ h1 h2 => exact h1.trans h2
theorem kr_up {N : Nat} : ∀ {P : List (Int × Nat)}, (∀ x ∈ P, x.2 ≤ N) → kr (N + 1) P = 2 * kr N P
  | [], _ => rfl
  | x :: P, h => by
    have h1 := h x (by simp)
    have ih := kr_up (P := P) fun y hy => h y (by simp [hy])
    simp only [kr]
    rw [ih, show N + 1 - x.2 = (N - x.2) + 1 by omega, Nat.pow_succ]
    omega
/-- A list that is another one's by some part of its elements can be put in that order. -/
theorem perm_lift {α β : Type} {f : α → β} {L1 L2 : List β} (h : L1.Perm L2) : ∀ P : List α, P.map f = L1 → ∃ P', P.Perm P' ∧ P'.map f = L2 := by
  induction h with
  | nil => intro P hP; exact ⟨P, List.Perm.refl _, hP⟩
  | cons x _ ih =>
    intro P hP
    cases P with
    | nil => simp at hP
    | cons y P =>
      simp only [List.map_cons, List.cons.injEq] at hP
      obtain ⟨P', h1, h2⟩ := ih P hP.2
      exact ⟨y :: P', h1.cons y, by simp [hP.1, h2]⟩
  | swap x y l =>
    intro P hP
    match P, hP with
    | u :: v :: P, hP =>
      simp only [List.map_cons, List.cons.injEq] at hP
      exact ⟨v :: u :: P, List.Perm.swap v u P, by simp [hP.1, hP.2.1, hP.2.2]⟩
  | trans _ _ ih1 ih2 =>
    intro P hP
    obtain ⟨P', h1, h2⟩ := ih1 P hP
    obtain ⟨P'', h3, h4⟩ := ih2 P' h2
    exact ⟨P'', h1.trans h3, h4⟩

/-- The lightest one may have the longest code. -/
theorem longest_front {a : Int} : ∀ (R : List (Int × Nat)) (p : Nat), (∀ x ∈ R, a ≤ x.1) → ∃ p' R', R'.map Prod.fst = R.map Prod.fst ∧ (∀ x ∈ R', x.2 ≤ p') ∧ cst ((a, p') :: R') ≤ cst ((a, p) :: R) ∧ (∀ M, kr M ((a, p') :: R') = kr M ((a, p) :: R)) ∧ ∀ B, p ≤ B → (∀ x ∈ R, x.2 ≤ B) → p' ≤ B ∧ ∀ x ∈ R', x.2 ≤ B
  | [], p, _ => ⟨p, [], rfl, by simp, Int.le_refl _, fun _ => rfl, fun B h _ => ⟨h, by simp⟩⟩
  | (x, r) :: R, p, h => by
    obtain ⟨p1, R1, e1, l1, c1, k1, b1⟩ := longest_front R p fun y hy => h y (by simp [hy])
    have hx : a ≤ x := h (x, r) (by simp)
    simp only [cst] at c1
    simp only [kr] at k1
    by_cases hr : r ≤ p1
    · refine ⟨p1, (x, r) :: R1, by simp [e1], ?_, ?_, ?_, ?_⟩
      · intro y hy
        rcases List.mem_cons.1 hy with rfl | hy
        · exact hr
        · exact l1 y hy
      · simp only [cst]; omega
      · intro M; have := k1 M; simp only [kr]; omega
      · intro B hp hB
        obtain ⟨h1, h2⟩ := b1 B hp fun y hy => hB y (by simp [hy])
        refine ⟨h1, fun y hy => ?_⟩
        rcases List.mem_cons.1 hy with rfl | hy
        · exact hB (x, r) (by simp)
        · exact h2 y hy
    · refine ⟨r, (x, p1) :: R1, by simp [e1], ?_, ?_, ?_, ?_⟩
      · intro y hy
        rcases List.mem_cons.1 hy with rfl | hy
        · show p1 ≤ r; omega
        · have := l1 y hy; omega
      · simp only [cst]
        have hm : 0 ≤ (x - a) * ((r : Int) - (p1 : Int)) := Int.mul_nonneg (by omega) (by omega)
        rw [Int.sub_mul, Int.mul_sub, Int.mul_sub] at hm
        omega
      · intro M; have := k1 M; simp only [kr]; omega
      · intro B hp hB
        obtain ⟨h1, h2⟩ := b1 B hp fun y hy => hB y (by simp [hy])
        refine ⟨hB (x, r) (by simp), fun y hy => ?_⟩
        rcases List.mem_cons.1 hy with rfl | hy
        · exact h1
        · exact h2 y hy
theorem kr_dvd {M q : Nat} : ∀ {P : List (Int × Nat)}, (∀ x ∈ P, x.2 ≤ q) → q ≤ M → 2 ^ (M - q) ∣ kr M P
  | [], _, _ => ⟨0, rfl⟩
  | x :: P, h, hq => by
    have h1 := h x (by simp)
    refine Nat.dvd_add ?_ (kr_dvd (fun y hy => h y (by simp [hy])) hq)
    exact Nat.pow_dvd_pow 2 (by omega)
/-- A code that is longer than all others may be as long as the next one. -/
theorem kr_even {M p q : Nat} {a b : Int} {R : List (Int × Nat)} (hq : ∀ x ∈ R, x.2 ≤ q) (hpq : q ≤ p) (hM : p ≤ M) (h : kr M ((a, p) :: (b, q) :: R) ≤ 2 ^ M) : kr M ((a, q) :: (b, q) :: R) ≤ 2 ^ M := by
  have hd : 2 ^ (M - q) ∣ kr M ((b, q) :: R) := kr_dvd (by
    intro x hx
    rcases List.mem_cons.1 hx with rfl | hx
    · exact Nat.le_refl _
    · exact hq x hx) (by omega)
  have hd2 : 2 ^ (M - q) ∣ 2 ^ M := Nat.pow_dvd_pow 2 (by omega)
  have hpos : 0 < 2 ^ (M - p) := Nat.pow_pos (by omega)
  have e1 : kr M ((a, p) :: (b, q) :: R) = 2 ^ (M - p) + kr M ((b, q) :: R) := rfl
  have e2 : kr M ((a, q) :: (b, q) :: R) = 2 ^ (M - q) + kr M ((b, q) :: R) := rfl
  rw [e1] at h
  rw [e2]
  obtain ⟨s, hs⟩ := hd
  obtain ⟨t, ht⟩ := hd2
  rw [hs] at h ⊢
  rw [ht] at h ⊢
  have hlt : 2 ^ (M - q) * s < 2 ^ (M - q) * t := by omega
  have hst : s < t := Nat.lt_of_mul_lt_mul_left hlt
  have : 2 ^ (M - q) * (s + 1) ≤ 2 ^ (M - q) * t := Nat.mul_le_mul_left _ hst
  rw [Nat.mul_add, Nat.mul_one] at this
  omega
theorem cst_pos {P : List (Int × Nat)} (h : ∀ x ∈ P, 0 ≤ x.1) : 0 ≤ cst P := by
  induction P with
  | nil => exact Int.le_refl _
  | cons x P ih =>
    have h1 := ih fun y hy => h y (by simp [hy])
    have h2 : 0 ≤ x.1 * (x.2 : Int) := Int.mul_nonneg (h x (by simp)) (by omega)
    simp only [cst]
    omega

/-- What joining the two lightest again and again costs. -/
inductive HC : List Int → Int → Prop
  | one (w : Int) : HC [w] 0
  | step {l l2 : List Int} {a b c : Int} (hp : l.Perm (a :: b :: l2)) (ha : ∀ x ∈ l, a ≤ x) (hb : ∀ x ∈ l2, b ≤ x) (h : HC (l2 ++ [a + b]) c) : HC l (a + b + c)
/-- HUFFMAN: no code costs less. -/
theorem hc_least {l : List Int} {c : Int} (h : HC l c) : (∀ x ∈ l, 0 ≤ x) → ∀ (P : List (Int × Nat)) (M : Nat), (P.map Prod.fst).Perm l → (∀ x ∈ P, x.2 ≤ M) → kr M P ≤ 2 ^ M → c ≤ cst P := by
  induction h with
  | one w =>
    intro h0 P M hP _ _
    refine cst_pos fun x hx => h0 x.1 ?_
    exact hP.mem_iff.1 (List.mem_map.2 ⟨x, hx, rfl⟩)
  | @step l l2 a b c hp ha hb h ih =>
    intro h0 P M hP hM hk
    obtain ⟨P1, hp1, hf1⟩ := perm_lift (hP.trans hp) P rfl
    match P1, hf1 with
    | (a', p) :: (b', q) :: R, hf1 =>
      simp only [List.map_cons, List.cons.injEq] at hf1
      obtain ⟨rfl, rfl, hR⟩ := hf1
      have ha0 : 0 ≤ a' := h0 a' (hp.mem_iff.2 (by simp))
      have hb0 : 0 ≤ b' := h0 b' (hp.mem_iff.2 (by simp))
      have hab : a' ≤ b' := ha b' (hp.mem_iff.2 (by simp))
      have hR2 : ∀ x ∈ R, x.1 ∈ l2 := fun x hx => by rw [← hR]; exact List.mem_map.2 ⟨x, hx, rfl⟩
      have hM1 : ∀ x ∈ (a', p) :: (b', q) :: R, x.2 ≤ M := fun x hx => hM x (hp1.mem_iff.2 hx)
      rw [cst_perm hp1]
      rw [kr_perm M hp1] at hk
      -- the lightest one in front
      obtain ⟨p1, S, e1, l1, c1, k1, b1⟩ := longest_front (a := a') ((b', q) :: R) p (by
        intro x hx
        rcases List.mem_cons.1 hx with rfl | hx
        · exact hab
        · exact ha x.1 (hp.mem_iff.2 (by simp [hR2 x hx])))
      match S, e1, l1, c1, k1, b1 with
      | (b'', q1) :: R1, e1, l1, c1, k1, b1 =>
        simp only [List.map_cons, List.cons.injEq] at e1
        obtain ⟨rfl, f1⟩ := e1
        obtain ⟨hp1M, hM2⟩ := b1 M (hM1 (a', p) (by simp)) fun x hx => hM1 x (by simp at hx ⊢; exact .inr hx)
        have hR3 : ∀ x ∈ R1, b'' ≤ x.1 := fun x hx => hb x.1 (by rw [← hR, ← f1]; exact List.mem_map.2 ⟨x, hx, rfl⟩)
        -- the next one behind it
        obtain ⟨q2, R2, e2, l2', c2, k2, b2⟩ := longest_front R1 q1 hR3
        have hq2p : q2 ≤ p1 := (b2 p1 (l1 (b'', q1) (by simp)) fun x hx => l1 x (by simp [hx])).1
        have hk1 : kr M ((a', p1) :: (b'', q2) :: R2) ≤ 2 ^ M := by
          have h1 := k1 M
          have h2 := k2 M
          simp only [kr] at h1 h2 hk ⊢
          omega
        have hk2 := kr_even l2' hq2p hp1M hk1
        have hq1 : 1 ≤ q2 := by
          rcases Nat.eq_zero_or_pos q2 with e | e
          · subst e
            simp only [kr, Nat.sub_zero] at hk2
            have : 0 < 2 ^ M := Nat.pow_pos (by omega)
            omega
          · exact e
        obtain ⟨r, rfl⟩ : ∃ r, q2 = r + 1 := ⟨q2 - 1, by omega⟩
        have hw : 2 ^ (M - (r + 1)) + 2 ^ (M - (r + 1)) = 2 ^ (M - r) := by
          rw [show M - r = (M - (r + 1)) + 1 by omega, Nat.pow_succ]; omega
        have hM3 := (b2 M (hM2 (b'', q1) (by simp)) fun x hx => hM2 x (by simp [hx])).2
        have hi := ih (by
          intro x hx
          rcases List.mem_append.1 hx with hx | hx
          · exact h0 x (hp.mem_iff.2 (by simp [hx]))
          · rw [List.mem_singleton.1 hx]; omega) (R2 ++ [(a' + b'', r)]) M (by
          rw [List.map_append, e2, f1, hR]; exact List.Perm.refl _) (by
          intro x hx
          rcases List.mem_append.1 hx with hx | hx
          · exact hM3 x hx
          · rw [List.mem_singleton.1 hx]; show r ≤ M; omega) (by
          rw [kr_app]
          simp only [kr] at hk2 ⊢
          omega)
        rw [cst_app] at hi
        simp only [cst] at hi c1 c2 ⊢
        have hap : a' * ((r : Int) + 1) ≤ a' * (p1 : Int) := Int.mul_le_mul_of_nonneg_left (by omega) ha0
        have e3 : (a' + b'') * (r : Int) = a' * (r : Int) + b'' * (r : Int) := Int.add_mul _ _ _
        have e4 : a' * ((r : Int) + 1) = a' * (r : Int) + a' := by rw [Int.mul_add, Int.mul_one]
        have e5 : b'' * ((r : Int) + 1) = b'' * (r : Int) + b'' := by rw [Int.mul_add, Int.mul_one]
        have e6 : (((r + 1 : Nat)) : Int) = (r : Int) + 1 := by omega
        rw [e6] at c2
        rw [e5] at c2
        omega

/-- A list with something at its end. -/
theorem map_snoc {α β : Type} {f : α → β} {P : List α} {l : List β} {b : β} (h : P.map f = l ++ [b]) : ∃ R x, P = R ++ [x] ∧ R.map f = l ∧ f x = b := by
  rcases List.eq_nil_or_concat P with rfl | ⟨R, x, rfl⟩
  · simp at h
  · rw [List.concat_eq_append, List.map_append] at h
    obtain ⟨h1, h2⟩ := List.append_inj' h rfl
    exact ⟨R, x, by simp, h1, by simpa using h2⟩
/-- There are codes that cost so much and leave no room. -/
theorem hc_code {l : List Int} {c : Int} (h : HC l c) : ∃ P : List (Int × Nat), P.map Prod.fst = l ∧ cst P = c ∧ ∀ M, l.length ≤ M + 1 → (∀ x ∈ P, x.2 ≤ M) ∧ kr M P = 2 ^ M := by
  induction h with
  | one w => exact ⟨[(w, 0)], rfl, by simp [cst], fun M _ => ⟨by simp, by simp [kr]⟩⟩
  | @step l l2 a b c hp ha hb h ih =>
    obtain ⟨P, hf, hc, hk⟩ := ih
    obtain ⟨R, ⟨s, r⟩, rfl, hR, hs⟩ := map_snoc hf
    obtain rfl : s = a + b := hs
    obtain ⟨Q, hQ, hQf⟩ := perm_lift (f := Prod.fst) hp.symm ((a, r + 1) :: (b, r + 1) :: R) (by simp [hR])
    refine ⟨Q, hQf, ?_, fun M hM => ?_⟩
    · rw [← cst_perm hQ, ← hc, cst_app]
      simp only [cst]
      have e1 : (a + b) * (r : Int) = a * (r : Int) + b * (r : Int) := Int.add_mul _ _ _
      have e2 : a * (((r + 1 : Nat)) : Int) = a * (r : Int) + a := by rw [show (((r + 1 : Nat)) : Int) = (r : Int) + 1 by omega, Int.mul_add, Int.mul_one]
      have e3 : b * (((r + 1 : Nat)) : Int) = b * (r : Int) + b := by rw [show (((r + 1 : Nat)) : Int) = (r : Int) + 1 by omega, Int.mul_add, Int.mul_one]
      omega
    · have hl := hp.length_eq
      simp only [List.length_cons] at hl
      obtain ⟨N, rfl⟩ : ∃ N, M = N + 1 := ⟨M - 1, by omega⟩
      obtain ⟨h1, h2⟩ := hk N (by simp; omega)
      have hr : r ≤ N := h1 (a + b, r) (by simp)
      refine ⟨fun x hx => ?_, ?_⟩
      · have := hQ.mem_iff.2 hx
        simp only [List.mem_cons] at this
        rcases this with rfl | rfl | this
        · show r + 1 ≤ N + 1; omega
        · show r + 1 ≤ N + 1; omega
        · have := h1 x (by simp [this]); omega
      · rw [← kr_perm (N + 1) hQ]
        have hu := kr_up (N := N) (P := R) fun x hx => h1 x (by simp [hx])
        rw [kr_app] at h2
        simp only [kr] at h2 ⊢
        rw [hu, show N + 1 - (r + 1) = N - r by omega, Nat.pow_succ]
        omega
theorem hc_perm {l l' : List Int} {c : Int} (h : HC l c) (hp : l.Perm l') : HC l' c := by
  cases h with
  | one w => rw [List.perm_singleton.1 hp.symm]; exact .one w
  | step hq ha hb h => exact .step (hp.symm.trans hq) (fun x hx => ha x (hp.mem_iff.2 hx)) hb h
theorem hc_one {l : List Int} {c c' : Int} (h : HC l c) (h' : HC l c') (h0 : ∀ x ∈ l, 0 ≤ x) : c = c' := by
  obtain ⟨P, f, e, k⟩ := hc_code h
  obtain ⟨P', f', e', k'⟩ := hc_code h'
  obtain ⟨m1, m2⟩ := k l.length (by omega)
  obtain ⟨m1', m2'⟩ := k' l.length (by omega)
  have h1 := hc_least h h0 P' l.length (by rw [f']) m1' (by omega)
  have h2 := hc_least h' h0 P l.length (by rw [f]) m1 (by omega)
  omega
/-- Twice as heavy, twice as much. -/
theorem hc_twice {l : List Int} {c : Int} (h : HC l c) : HC (l.map fun x => 2 * x) (2 * c) := by
  induction h with
  | one w => exact .one (2 * w)
  | @step l l2 a b c hp ha hb h ih =>
    have hp2 := hp.map fun x => 2 * x
    simp only [List.map_cons] at hp2
    have : HC (l.map fun x => 2 * x) (2 * a + 2 * b + 2 * c) := by
      refine .step hp2 ?_ ?_ ?_
      · intro x hx
        obtain ⟨y, hy, rfl⟩ := List.mem_map.1 hx
        have := ha y hy; omega
      · intro x hx
        obtain ⟨y, hy, rfl⟩ := List.mem_map.1 hx
        have := hb y hy; omega
      · rw [List.map_append] at ih
        simp only [List.map_cons, List.map_nil] at ih
        rw [show 2 * (a + b) = 2 * a + 2 * b by omega] at ih
        exact ih
    rw [show 2 * (a + b + c) = 2 * a + 2 * b + 2 * c by omega]
    exact this
/-- Two put together save no more than both weigh. -/
theorem hc_both {a b c k : Int} {l : List Int} (h : HC (a :: b :: l) c) (h' : HC ((a + b) :: l) k) (h0 : ∀ x ∈ a :: b :: l, 0 ≤ x) : c ≤ k + a + b := by
  obtain ⟨P, f, e, hk⟩ := hc_code h'
  match P, f with
  | (s, r) :: R, f =>
    simp only [List.map_cons, List.cons.injEq] at f
    obtain ⟨rfl, hR⟩ := f
    obtain ⟨m1, m2⟩ := hk l.length (by simp)
    have hr : r ≤ l.length := m1 (a + b, r) (by simp)
    have hu := kr_up (N := l.length) (P := R) fun x hx => m1 x (by simp [hx])
    have := hc_least h h0 ((a, r + 1) :: (b, r + 1) :: R) (l.length + 1) (by simp [hR]) (by
      intro x hx
      simp only [List.mem_cons] at hx
      rcases hx with rfl | rfl | hx
      · show r + 1 ≤ l.length + 1; omega
      · show r + 1 ≤ l.length + 1; omega
      · have := m1 x (by simp [hx]); omega) (by
      simp only [kr] at m2 ⊢
      rw [hu, show l.length + 1 - (r + 1) = l.length - r by omega, Nat.pow_succ]
      omega)
    simp only [cst] at this e
    have e1 : (a + b) * (r : Int) = a * (r : Int) + b * (r : Int) := Int.add_mul _ _ _
    have e2 : a * (((r + 1 : Nat)) : Int) = a * (r : Int) + a := by rw [show (((r + 1 : Nat)) : Int) = (r : Int) + 1 by omega, Int.mul_add, Int.mul_one]
    have e3 : b * (((r + 1 : Nat)) : Int) = b * (r : Int) + b := by rw [show (((r + 1 : Nat)) : Int) = (r : Int) + 1 by omega, Int.mul_add, Int.mul_one]
    omega
/-- In a code that costs least a heavier one has no longer code. -/
theorem hc_heavy {l : List Int} {c : Int} (h : HC l c) (h0 : ∀ x ∈ l, 0 ≤ x) {R : List (Int × Nat)} {x y : Int} {m n M : Nat} (hP : (((x, m) :: (y, n) :: R).map Prod.fst).Perm l) (hM : ∀ z ∈ (x, m) :: (y, n) :: R, z.2 ≤ M) (hk : kr M ((x, m) :: (y, n) :: R) ≤ 2 ^ M) (hc : cst ((x, m) :: (y, n) :: R) = c) (hxy : y < x) : m ≤ n := by
  rcases Nat.lt_or_ge n m with hlt | hge
  · exfalso
    have := hc_least h h0 ((x, n) :: (y, m) :: R) M hP (by
      intro z hz
      simp only [List.mem_cons] at hz
      rcases hz with rfl | rfl | hz
      · exact hM (y, n) (by simp)
      · exact hM (x, m) (by simp)
      · exact hM z (by simp [hz])) (by simp only [kr] at hk ⊢; omega)
    simp only [cst] at hc this
    have hm : 0 < (x - y) * ((m : Int) - (n : Int)) := Int.mul_pos (by omega) (by omega)
    rw [Int.sub_mul, Int.mul_sub, Int.mul_sub] at hm
    omega
  · exact hge

/-! ### The first one of several -/
/-- The first place of the least. -/
def FMin (l : List Int) (k : Nat) : Prop := k < l.length ∧ (∀ j, j < l.length → l.getD k 0 ≤ l.getD j 0) ∧ ∀ j, j < k → l.getD k 0 < l.getD j 0
theorem fmin_one {l : List Int} {k k' : Nat} (h : FMin l k) (h' : FMin l k') : k = k' := by
  rcases Nat.lt_trichotomy k k' with e | e | e
  · have h1 := h'.2.2 k e; have h2 := h.2.1 k' h'.1; omega
  · exact e
  · have h1 := h.2.2 k' e; have h2 := h'.2.1 k h.1; omega
theorem fmin_ex (l : List Int) (h : l ≠ []) : ∃ k, FMin l k := by
  suffices ∀ n, n < l.length → ∃ k, k ≤ n ∧ (∀ j, j ≤ n → l.getD k 0 ≤ l.getD j 0) ∧ ∀ j, j < k → l.getD k 0 < l.getD j 0 by
    have hl : 0 < l.length := List.length_pos_iff.2 h
    obtain ⟨k, h1, h2, h3⟩ := this (l.length - 1) (by omega)
    exact ⟨k, by omega, fun j hj => h2 j (by omega), h3⟩
  intro n
  induction n with
  | zero =>
    intro _
    refine ⟨0, Nat.le_refl _, fun j hj => ?_, fun j hj => by omega⟩
    obtain rfl : j = 0 := by omega
    exact Int.le_refl _
  | succ n ih =>
    intro hn
    obtain ⟨k, h1, h2, h3⟩ := ih (by omega)
    by_cases hlt : l.getD (n + 1) 0 < l.getD k 0
    · refine ⟨n + 1, Nat.le_refl _, fun j hj => ?_, fun j hj => ?_⟩
      · rcases Nat.lt_or_ge n j with e | e
        · obtain rfl : j = n + 1 := by omega
          exact Int.le_refl _
        · have := h2 j e; omega
      · have := h2 j (by omega); omega
    · refine ⟨k, by omega, fun j hj => ?_, h3⟩
      rcases Nat.lt_or_ge n j with e | e
      · obtain rfl : j = n + 1 := by omega
        omega
      · exact h2 j e
theorem fmin_le {l : List Int} {k : Nat} (h : FMin l k) : ∀ x ∈ l, l.getD k 0 ≤ x := by
  intro x hx
  obtain ⟨j, hj, rfl⟩ := List.getElem_of_mem hx
  have := h.2.1 j hj
  rw [List.getD_eq_getElem?_getD (l := l) (i := j), List.getElem?_eq_getElem hj] at this
  exact this
/-- A list is what stands at a place and the rest. -/
theorem perm_at {α : Type} (d : α) : ∀ (l : List α) (k : Nat), k < l.length → l.Perm (l.getD k d :: l.eraseIdx k)
  | x :: l, 0, _ => List.Perm.refl _
  | x :: l, k + 1, h => by
    have ih := perm_at d l k (by simpa using h)
    have e1 : (x :: l).getD (k + 1) d = l.getD k d := rfl
    rw [e1, List.eraseIdx_cons_succ]
    exact (ih.cons x).trans (List.Perm.swap _ _ _)
/-- A place put in among the second parts. -/
theorem zip_ins {α : Type} (d : α) : ∀ (l : List α) (D : List Nat) (k x : Nat), k < l.length → D.length + 1 = l.length → (l.zip (D.insertIdx k x)).Perm ((l.getD k d, x) :: (l.eraseIdx k).zip D)
  | y :: l, D, 0, x, _, _ => by simp
  | y :: l, [], k + 1, x, h, hD => by
    exfalso
    simp only [List.length_cons, List.length_nil] at h hD
    omega
  | y :: l, e :: D, k + 1, x, h, hD => by
    have ih := zip_ins d l D k x (by simpa using h) (by simpa using hD)
    have e1 : (y :: l).getD (k + 1) d = l.getD k d := rfl
    rw [e1, List.eraseIdx_cons_succ, List.insertIdx_succ_cons, List.zip_cons_cons, List.zip_cons_cons]
    exact (ih.cons _).trans (List.Perm.swap _ _ _)
/-- The lengths that come of joining the two lightest, the first one of several, again and again. -/
inductive Dep : List Int → List Nat → Prop
  | one (w : Int) : Dep [w] [0]
  | step {l : List Int} {k m p : Nat} {D : List Nat} (h2 : 2 ≤ l.length) (hk : FMin l k) (hm : FMin (l.eraseIdx k) m) (h : Dep ((l.eraseIdx k).eraseIdx m ++ [l.getD k 0 + (l.eraseIdx k).getD m 0]) (D ++ [p])) :
      Dep l ((D.insertIdx m (p + 1)).insertIdx k (p + 1))
theorem dep_len {l : List Int} {D : List Nat} (h : Dep l D) : D.length = l.length := by
  induction h with
  | one w => rfl
  | @step l k m p D h2 hk hm h ih =>
    have h1 := hk.1
    have h3 := hm.1
    rw [List.length_eraseIdx_of_lt h1] at h3
    simp only [List.length_append, List.length_cons, List.length_nil] at ih
    rw [List.length_eraseIdx_of_lt hm.1, List.length_eraseIdx_of_lt h1] at ih
    rw [List.length_insertIdx_of_le_length, List.length_insertIdx_of_le_length]
    · omega
    · omega
    · rw [List.length_insertIdx_of_le_length (by omega)]; omega
theorem dep_one {l : List Int} {D D' : List Nat} (h : Dep l D) (h' : Dep l D') : D = D' := by
  induction h generalizing D' with
  | one w =>
    cases h' with
    | one _ => rfl
    | step h2 _ _ _ => simp at h2
  | @step l k m p D h2 hk hm h ih =>
    cases h' with
    | one _ => simp at h2
    | @step _ k' m' p' E _ hk' hm' h' =>
      obtain rfl := fmin_one hk hk'
      obtain rfl := fmin_one hm hm'
      have := ih h'
      obtain ⟨e1, e2⟩ := List.append_inj' this rfl
      obtain rfl : p = p' := by simpa using e2
      rw [e1]
theorem dep_ex : ∀ (n : Nat) (l : List Int), l.length = n + 1 → ∃ D, Dep l D
  | 0, l, h => by
    obtain ⟨w, rfl⟩ := List.length_eq_one_iff.1 h
    exact ⟨_, .one w⟩
  | n + 1, l, h => by
    obtain ⟨k, hk⟩ := fmin_ex l (fun e => by rw [e] at h; simp at h)
    have h1 : (l.eraseIdx k).length = n + 1 := by rw [List.length_eraseIdx_of_lt hk.1, h]; omega
    obtain ⟨m, hm⟩ := fmin_ex (l.eraseIdx k) (fun e => by rw [e] at h1; simp at h1)
    have h2 : ((l.eraseIdx k).eraseIdx m).length = n := by rw [List.length_eraseIdx_of_lt hm.1, h1]; omega
    obtain ⟨E, hE⟩ := dep_ex n ((l.eraseIdx k).eraseIdx m ++ [l.getD k 0 + (l.eraseIdx k).getD m 0]) (by simp [h2])
    have hl := dep_len hE
    rcases List.eq_nil_or_concat E with rfl | ⟨D, p, rfl⟩
    · simp [h2] at hl
    · rw [List.concat_eq_append] at hE
      exact ⟨_, .step (by omega) hk hm hE⟩
/-- The weights with their lengths, by the two that are joined. -/
theorem dep_zip {α : Type} (d : α) {hs : List α} {k m p : Nat} {D : List Nat} (hk : k < hs.length) (hm : m < (hs.eraseIdx k).length) (hD : D.length + 2 = hs.length) :
    (hs.zip ((D.insertIdx m (p + 1)).insertIdx k (p + 1))).Perm ((hs.getD k d, p + 1) :: ((hs.eraseIdx k).getD m d, p + 1) :: ((hs.eraseIdx k).eraseIdx m).zip D) := by
  have h1 := List.length_eraseIdx_of_lt hk
  refine (zip_ins d hs (D.insertIdx m (p + 1)) k (p + 1) hk ?_).trans ((zip_ins d (hs.eraseIdx k) D m (p + 1) hm (by omega)).cons _)
  rw [List.length_insertIdx_of_le_length (by omega)]
  omega

theorem dep_zip_all {l : List Int} {k m p : Nat} {D : List Nat} (h2 : 2 ≤ l.length) (hk : FMin l k) (hm : FMin (l.eraseIdx k) m) (h : Dep ((l.eraseIdx k).eraseIdx m ++ [l.getD k 0 + (l.eraseIdx k).getD m 0]) (D ++ [p])) :
    (l.zip ((D.insertIdx m (p + 1)).insertIdx k (p + 1))).Perm ((l.getD k 0, p + 1) :: ((l.eraseIdx k).getD m 0, p + 1) :: ((l.eraseIdx k).eraseIdx m).zip D) ∧
    ((l.eraseIdx k).eraseIdx m ++ [l.getD k 0 + (l.eraseIdx k).getD m 0]).zip (D ++ [p]) = ((l.eraseIdx k).eraseIdx m).zip D ++ [(l.getD k 0 + (l.eraseIdx k).getD m 0, p)] ∧ D.length + 2 = l.length := by
  have hl := dep_len h
  simp only [List.length_append, List.length_cons, List.length_nil] at hl
  have h3 : D.length = ((l.eraseIdx k).eraseIdx m).length := by omega
  have h4 := h3
  rw [List.length_eraseIdx_of_lt hm.1, List.length_eraseIdx_of_lt hk.1] at h4
  have h5 := hm.1
  rw [List.length_eraseIdx_of_lt hk.1] at h5
  refine ⟨dep_zip 0 hk.1 hm.1 (by omega), ?_, by omega⟩
  rw [List.zip_append h3.symm]
  rfl
/-- The lengths cost what joining costs. -/
theorem dep_hc {l : List Int} {D : List Nat} (h : Dep l D) : HC l (cst (l.zip D)) := by
  induction h with
  | one w =>
    have : cst ([w].zip [0]) = 0 := by simp [cst]
    rw [this]
    exact .one w
  | @step l k m p D h2 hk hm h ih =>
    obtain ⟨z1, z2, _⟩ := dep_zip_all h2 hk hm h
    rw [z2, cst_app] at ih
    have hp := (perm_at 0 l k hk.1).trans ((perm_at 0 (l.eraseIdx k) m hm.1).cons _)
    have := HC.step hp (fmin_le hk) (fun x hx => fmin_le hm x (List.mem_of_mem_eraseIdx hx)) ih
    rw [cst_perm z1]
    simp only [cst] at this ⊢
    generalize l.getD k 0 = a at this ⊢
    generalize (l.eraseIdx k).getD m 0 = b at this ⊢
    have e1 : (a + b) * (p : Int) = a * (p : Int) + b * (p : Int) := Int.add_mul _ _ _
    have e2 : a * (((p + 1 : Nat)) : Int) = a * (p : Int) + a := by rw [show (((p + 1 : Nat)) : Int) = (p : Int) + 1 by omega, Int.mul_add, Int.mul_one]
    have e3 : b * (((p + 1 : Nat)) : Int) = b * (p : Int) + b := by rw [show (((p + 1 : Nat)) : Int) = (p : Int) + 1 by omega, Int.mul_add, Int.mul_one]
    rw [e1] at this
    rw [e2, e3]
    have e4 : a * (p : Int) + a + (b * (p : Int) + b + cst (((l.eraseIdx k).eraseIdx m).zip D)) = a + b + (cst (((l.eraseIdx k).eraseIdx m).zip D) + (a * (p : Int) + b * (p : Int) + 0)) := by omega
    rw [e4]
    exact this
/-- The lengths leave no room. -/
theorem dep_kr {l : List Int} {D : List Nat} (h : Dep l D) : ∀ M, l.length ≤ M + 1 → (∀ x ∈ l.zip D, x.2 ≤ M) ∧ kr M (l.zip D) = 2 ^ M := by
  induction h with
  | one w => intro M _; exact ⟨by simp, by simp [kr]⟩
  | @step l k m p D h2 hk hm h ih =>
    intro M hM
    obtain ⟨z1, z2, z3⟩ := dep_zip_all h2 hk hm h
    obtain ⟨N, rfl⟩ : ∃ N, M = N + 1 := ⟨M - 1, by omega⟩
    rw [z2] at ih
    have hl := dep_len h
    simp only [List.length_append, List.length_cons, List.length_nil] at hl
    obtain ⟨h3, h4⟩ := ih N (by simp only [List.length_append, List.length_cons, List.length_nil]; omega)
    have hp : p ≤ N := h3 (_, p) (List.mem_append.2 (.inr (List.mem_singleton.2 rfl)))
    have h5 : ∀ x ∈ ((l.eraseIdx k).eraseIdx m).zip D, x.2 ≤ N := fun x hx => h3 x (List.mem_append.2 (.inl hx))
    refine ⟨fun x hx => ?_, ?_⟩
    · have := z1.mem_iff.1 hx
      simp only [List.mem_cons] at this
      rcases this with rfl | rfl | this
      · show p + 1 ≤ N + 1; omega
      · show p + 1 ≤ N + 1; omega
      · have := h5 x this; omega
    · rw [kr_perm (N + 1) z1]
      rw [kr_app] at h4
      simp only [kr] at h4 ⊢
      rw [kr_up h5, show N + 1 - (p + 1) = N - p by omega, Nat.pow_succ]
      omega
theorem dep_ge {l : List Int} {D : List Nat} (h : Dep l D) : 2 ≤ l.length → ∀ d ∈ D, 1 ≤ d := by
  induction h with
  | one w => intro h; simp at h
  | @step l k m p D h2 hk hm h ih =>
    intro _ d hd
    obtain ⟨_, _, z3⟩ := dep_zip_all h2 hk hm h
    have h1 := hm.1
    rw [List.length_eraseIdx_of_lt hk.1] at h1
    have h3 := hk.1
    have hl : (D.insertIdx m (p + 1)).length = D.length + 1 := List.length_insertIdx_of_le_length (by omega) _
    rcases (List.mem_insertIdx (by omega)).1 hd with rfl | hd
    · omega
    · rcases (List.mem_insertIdx (by omega)).1 hd with rfl | hd
      · omega
      · refine ih ?_ d (by simp [hd])
        have hD : 0 < D.length := List.length_pos_of_mem hd
        rw [List.length_append, List.length_eraseIdx_of_lt hm.1, List.length_eraseIdx_of_lt hk.1]
        simp only [List.length_cons, List.length_nil]
        omega
theorem perm_two {α : Type} (d : α) (P : List α) {i k : Nat} (hi : i < P.length) (hk : k < P.length) (hik : i ≠ k) : ∃ R, P.Perm (P.getD i d :: P.getD k d :: R) := by
  have h1 := perm_at d P i hi
  have hl := List.length_eraseIdx_of_lt hi
  obtain ⟨j, hj, he⟩ : ∃ j, j < (P.eraseIdx i).length ∧ (P.eraseIdx i).getD j d = P.getD k d := by
    rcases Nat.lt_or_ge k i with h | h
    · refine ⟨k, by omega, ?_⟩
      rw [List.getD_eq_getElem?_getD, List.getD_eq_getElem?_getD, List.getElem?_eraseIdx, if_pos h]
    · refine ⟨k - 1, by omega, ?_⟩
      rw [List.getD_eq_getElem?_getD, List.getD_eq_getElem?_getD, List.getElem?_eraseIdx, if_neg (by omega), show k - 1 + 1 = k by omega]
  have h2 := perm_at d (P.eraseIdx i) j hj
  rw [he] at h2
  exact ⟨_, h1.trans (h2.cons _)⟩
theorem zip_at {l : List Int} {D : List Nat} (h : D.length = l.length) {i : Nat} (hi : i < l.length) : (l.zip D).getD i (0, 0) = (l.getD i 0, D.getD i 0) := by
  simp [List.getD_eq_getElem?_getD, hi, h]
theorem zip_fst {l : List Int} {D : List Nat} (h : D.length = l.length) : (l.zip D).map Prod.fst = l := List.map_fst_zip (by omega)
theorem zip_snd {l : List Int} {D : List Nat} (h : D.length = l.length) : (l.zip D).map Prod.snd = D := List.map_snd_zip (by omega)
/-- A heavier one has no longer code. -/
theorem dep_heavy {l : List Int} {D : List Nat} (h : Dep l D) (h0 : ∀ x ∈ l, 0 ≤ x) {i k : Nat} (hi : i < l.length) (hk : k < l.length) (hlt : l.getD k 0 < l.getD i 0) : D.getD i 0 ≤ D.getD k 0 := by
  have hl := dep_len h
  have hz : (l.zip D).length = l.length := by rw [List.length_zip]; omega
  obtain ⟨R, hR⟩ := perm_two (0, 0) (l.zip D) (i := i) (k := k) (by omega) (by omega) (fun e => by subst e; omega)
  rw [zip_at hl hi, zip_at hl hk] at hR
  obtain ⟨h1, h2⟩ := dep_kr h l.length (by omega)
  refine hc_heavy (dep_hc h) h0 (R := R) (M := l.length) ?_ (fun z hz => h1 z (hR.mem_iff.2 hz)) ?_ (cst_perm hR).symm hlt
  · have := hR.symm.map Prod.fst
    rw [zip_fst hl] at this
    exact this
  · rw [← kr_perm _ hR, h2]; exact Nat.le_refl _
/-- The room of lengths alone. -/
def rm (M : Nat) : List Nat → Nat
  | [] => 0
  | d :: D => 2 ^ (M - d) + rm M D
theorem kr_rm (M : Nat) (P : List (Int × Nat)) : kr M P = rm M (P.map Prod.snd) := by
  induction P with
  | nil => rfl
  | cons x P ih => simp only [kr, List.map_cons, rm, ih]
theorem rm_app (M : Nat) (D E : List Nat) : rm M (D ++ E) = rm M D + rm M E := by
  induction D with
  | nil => simp [rm]
  | cons x D ih => simp only [List.cons_append, rm, ih]; omega

/-! ### The heaps of one round and the next -/
theorem dep_inv {l : List Int} {E : List Nat} {k m : Nat} (h : Dep l E) (h2 : 2 ≤ l.length) (hk : FMin l k) (hm : FMin (l.eraseIdx k) m) :
    ∃ D p, E = (D.insertIdx m (p + 1)).insertIdx k (p + 1) ∧ Dep ((l.eraseIdx k).eraseIdx m ++ [l.getD k 0 + (l.eraseIdx k).getD m 0]) (D ++ [p]) := by
  cases h with
  | one _ => simp at h2
  | @step _ k' m' p D _ hk' hm' h =>
    obtain rfl := fmin_one hk hk'
    obtain rfl := fmin_one hm hm'
    exact ⟨D, p, rfl, h⟩
/-- Heaps, and how long codes are so far: what is still to come makes of it the lengths T. -/
structure Hst (T : List Nat) (hs : List (Int × List Nat)) (out : Nat → Nat) : Prop where
  all : (hs.flatMap Prod.snd).Perm (List.range T.length)
  ex : ∃ D, Dep (hs.map Prod.fst) D ∧ ∀ z ∈ hs.zip D, ∀ i ∈ z.1.2, out i + z.2 = T.getD i 0
theorem hst_mem {T : List Nat} {hs : List (Int × List Nat)} {out : Nat → Nat} (h : Hst T hs out) {z : Int × List Nat} (hz : z ∈ hs) {i : Nat} (hi : i ∈ z.2) : i < T.length :=
  List.mem_range.1 (h.all.mem_iff.1 (List.mem_flatMap.2 ⟨z, hz, hi⟩))
/-- The heaps at the beginning: each weight alone. -/
def heaps (ws : List Int) (n : Nat) : List (Int × List Nat) := (List.range n).map fun i => (ws.getD i 0, [i])
theorem heaps_succ (ws : List Int) (n : Nat) : heaps ws (n + 1) = heaps ws n ++ [(ws.getD n 0, [n])] := by simp [heaps, List.range_succ]
theorem heaps_fst (ws : List Int) : (heaps ws ws.length).map Prod.fst = ws := by
  apply List.ext_getElem?
  intro j
  by_cases hj : j < ws.length <;> simp [heaps, hj]
theorem hst_start {ws : List Int} {T : List Nat} (h : Dep ws T) : Hst T (heaps ws ws.length) fun _ => 0 := by
  have hl := dep_len h
  refine ⟨?_, T, by rw [heaps_fst]; exact h, ?_⟩
  · have : (heaps ws ws.length).flatMap Prod.snd = List.range ws.length := by
      unfold heaps
      rw [List.flatMap_map]
      exact List.flatMap_singleton' _
    rw [this, hl]
  · intro z hz i hi
    obtain ⟨j, hj, he⟩ := List.getElem_of_mem hz
    have hjl : j < ws.length := by
      rw [List.length_zip] at hj
      omega
    rw [List.getElem_zip] at he
    subst he
    simp only [heaps, List.getElem_map, List.getElem_range, List.mem_singleton] at hi
    subst hi
    simp [List.getD_eq_getElem?_getD, hl, hjl]
theorem erase_map {α β : Type} (f : α → β) : ∀ (l : List α) (k : Nat), (l.map f).eraseIdx k = (l.eraseIdx k).map f
  | [], _ => by simp
  | x :: l, 0 => by simp
  | x :: l, k + 1 => by simp [erase_map f l k]
theorem fst_at (hs : List (Int × List Nat)) {k : Nat} (h : k < hs.length) : (hs.map Prod.fst).getD k 0 = (hs.getD k (0, [])).1 := by
  simp [List.getD_eq_getElem?_getD, h]
theorem hst_step {T : List Nat} {hs : List (Int × List Nat)} {out : Nat → Nat} {k m : Nat} (h : Hst T hs out) (h2 : 2 ≤ hs.length) (hk : FMin (hs.map Prod.fst) k) (hm : FMin ((hs.eraseIdx k).map Prod.fst) m) :
    Hst T ((hs.eraseIdx k).eraseIdx m ++ [((hs.getD k (0, [])).1 + ((hs.eraseIdx k).getD m (0, [])).1, (hs.getD k (0, [])).2 ++ ((hs.eraseIdx k).getD m (0, [])).2)])
      fun i => out i + if i ∈ (hs.getD k (0, [])).2 ++ ((hs.eraseIdx k).getD m (0, [])).2 then 1 else 0 := by
  obtain ⟨hall, E, hE, hz⟩ := h
  have hk' : k < hs.length := by simpa using hk.1
  have hm' : m < (hs.eraseIdx k).length := by simpa using hm.1
  have e1 := erase_map Prod.fst hs k
  obtain ⟨D, p, rfl, hD⟩ := dep_inv hE (by simpa using h2) hk (by rw [e1]; exact hm)
  rw [e1, erase_map, fst_at hs hk', fst_at (hs.eraseIdx k) hm'] at hD
  have hl := dep_len hD
  simp only [List.length_append, List.length_cons, List.length_nil, List.length_map] at hl
  have h3 : D.length = ((hs.eraseIdx k).eraseIdx m).length := by omega
  have h4 := h3
  rw [List.length_eraseIdx_of_lt hm', List.length_eraseIdx_of_lt hk'] at h4
  have zz := dep_zip (0, []) (hs := hs) (p := p) (D := D) hk' hm' (by omega)
  have hp := (perm_at (0, []) hs k hk').trans ((perm_at (0, []) (hs.eraseIdx k) m hm').cons _)
  generalize hs.getD k (0, []) = a at *
  generalize (hs.eraseIdx k).getD m (0, []) = b at *
  generalize (hs.eraseIdx k).eraseIdx m = rest at *
  have hfl := hp.flatMap_right Prod.snd
  simp only [List.flatMap_cons] at hfl
  have hnd : (a.2 ++ (b.2 ++ rest.flatMap Prod.snd)).Nodup := (hfl.symm.trans hall).nodup_iff.2 List.nodup_range
  refine ⟨?_, D ++ [p], ?_, ?_⟩
  · refine List.Perm.trans ?_ (hfl.symm.trans hall)
    simp only [List.flatMap_append, List.flatMap_cons, List.flatMap_nil, List.append_nil]
    have h9 : a.2 ++ (b.2 ++ rest.flatMap Prod.snd) = (a.2 ++ b.2) ++ rest.flatMap Prod.snd := by rw [List.append_assoc]
    rw [h9]
    exact List.perm_append_comm
  · rw [List.map_append]; exact hD
  · rw [List.zip_append h3.symm]
    intro z hz' i hi
    rcases List.mem_append.1 hz' with hz' | hz'
    · have h5 := hz z (zz.mem_iff.2 (by simp [hz'])) i hi
      have h6 : i ∈ rest.flatMap Prod.snd := List.mem_flatMap.2 ⟨z.1, (List.of_mem_zip hz').1, hi⟩
      have h7 : ¬ i ∈ a.2 ++ b.2 := by
        intro h8
        rw [← List.append_assoc] at hnd
        exact (List.nodup_append.1 hnd).2.2 i h8 i h6 rfl
      rw [if_neg h7]
      exact h5
    · have hz2 : z = ((a.1 + b.1, a.2 ++ b.2), p) := by simpa using hz'
      subst hz2
      have hi : i ∈ a.2 ++ b.2 := hi
      rw [if_pos hi]
      rcases List.mem_append.1 hi with hi | hi
      · have := hz (a, p + 1) (zz.mem_iff.2 (by simp)) i hi
        show out i + 1 + p = _
        omega
      · have := hz (b, p + 1) (zz.mem_iff.2 (by simp)) i hi
        show out i + 1 + p = _
        omega
theorem hst_end {T : List Nat} {hs : List (Int × List Nat)} {out : Nat → Nat} (h : Hst T hs out) (h1 : hs.length ≤ 1) {i : Nat} (hi : i < T.length) : out i = T.getD i 0 := by
  obtain ⟨hall, D, hD, hz⟩ := h
  have hm : i ∈ hs.flatMap Prod.snd := hall.mem_iff.2 (List.mem_range.2 hi)
  match hs, h1 with
  | [], _ => simp at hm
  | [x], _ =>
    cases hD with
    | one _ =>
      have := hz (x, 0) (by simp) i (by simpa using hm)
      exact this
    | step h2 _ _ _ => simp at h2
end Go.Proofs.Ytlfncplldppncaa

/-
  Plain facts on memory: two slices of the call's own that lie apart: an append onto the one leaves the other as it was. No condition.
-/
namespace Go.Proofs.Ytlfncplldppncaa
open Go.RowKit

/-- The value's row, if it has one, lies outside the blocks from lo to hi. -/
def Out (v : Value) (lo hi : Nat) : Prop := ∀ b, v.ownBlock = some b → b < lo ∨ hi ≤ b
/-- The blocks from lo to hi are as they were. -/
def Kept (lo hi : Nat) (w w' : World) : Prop := ∀ b, lo ≤ b → b < hi → w'.heap[b]? = w.heap[b]?
theorem Kept.refl (lo hi : Nat) (w : World) : Kept lo hi w w := fun _ _ _ => rfl
theorem Kept.trans {lo hi : Nat} {a b c : World} (h : Kept lo hi a b) (k : Kept lo hi b c) : Kept lo hi a c := fun i h1 h2 => (k i h1 h2).trans (h i h1 h2)
theorem Kept.drewN {lo hi : Nat} {a b : World} (h : Kept lo hi a b) (q : Nat) : Kept lo hi a (b.drewN q) := h

theorem OwnI.kept {w w' : World} {base hi : Nat} {e : TypeId} {v : Value} {xs : List Int} (h : OwnI w base e v xs) (hk : Kept base hi w w') (hs : w.heap.size ≤ hi) : OwnI w' base e v xs := by
  refine ⟨h.1, ?_⟩
  rcases h.2 with h' | ⟨g, cap, cur, h1, h2, h3, h4⟩
  · exact .inl h'
  · refine .inr ⟨g, cap, cur, h1, h2, ?_, h4⟩
    have hlt : g < w.heap.size := by
      rcases Nat.lt_or_ge g w.heap.size with hlt | hge
      · exact hlt
      · rw [Array.getElem?_eq_none hge] at h3; cases h3
    rw [hk g h2 (by omega)]; exact h3
theorem OwnI.ints {w : World} {base n c : Nat} {e : TypeId} {A : Option Addr} {xs : List Int} (h : OwnI w base e (.slice A n c) xs) : n = xs.length ∧ IsInts w w.heap.size A n xs := by
  obtain ⟨A', c', he, _, hI⟩ := IsInts.of_own h
  injection he with h1 h2 _
  subst h1; subst h2
  exact ⟨rfl, hI⟩
/-- What is owned lies below the heap's size. -/
theorem OwnI.out {w : World} {base lo hi : Nat} {e : TypeId} {v : Value} {xs : List Int} (h : OwnI w base e v xs) (hlo : w.heap.size ≤ lo) : Out v lo hi := fun b hb => .inl (by
  have := (World.ownsRow.lt h b hb).2
  omega)

/-- 'out = append(out, k)', out nil or the call's own, lying outside the blocks from lo to hi: they are as they were, and it lies outside them still. -/
theorem wpList_append_apart {P : Program} (wr : World) {ops : Array Oper} {rest : List Oper} {o : Oper} {a : Act} {Q : Exit → Act → World → Prop} (hgd : o.guard = none) (s x : Operand) (t : TypeId)
    (ho : o.op = .call { callee := .builtin .append, args := #[s, x], argTypes := #[t, t] }) (base : Nat) (e : TypeId) (i : TypeInfo)
    (ht : P.underlying t = some (.slice e)) (hi : P.info? e = some i) (hz : i.zero = some (.int .i64 0)) (hsize : i.size = 1) (hby : i.bytes = 8)
    (v : Value) (cs : List Int) (hs : a.eval s = v) (hown : OwnI wr base e v cs) (k : Int) (hx : a.eval x = .slice (some ⟨wr.heap.size, 0, none⟩) 1 1)
    (hlen : cs.length ≤ 1099511627776) (hbase : base ≤ wr.heap.size) (lo hh : Nat) (hout : Out v lo hh) (hhi : hh ≤ wr.heap.size)
    (h : ∀ v' w', OwnI w' base e v' (cs ++ [k]) → Below base wr w' → Out v' lo hh → Kept lo hh wr w' → wpList P ops Q rest (a.put o.dst v') w') :
    wpList P ops Q (o :: rest) a (wr.alloc (.cells #[.int .i64 k] e)) := by
  refine wpList_append_lies _ hgd s x t ho base e i (.int .i64 0) 1 8 ht hi hz hsize hby rfl (by decide) v _ _ hs (World.ownsRow.alloc hown _) ⟨wr.heap.size, 0, none⟩ 1 1 [.int .i64 k] hx rfl ?_ ?_ (by decide) ?_ ?_ ?_ (wr.heap.size + 1) (by simp) ?_
  · intro j u hj
    match j, hj with
    | 0, hj => simp at hj; subst hj; simp [Addr.add]
  · intro u hu; simp at hu; subst hu; rfl
  · unfold maxLen; omega
  · omega
  · simp; omega
  · intro g cap w' ho hg hat _
    refine h _ w' (OwnI.mk_ (by simpa using ho)) (((Below.refl base wr).alloc hbase _).grown hg (by simp; omega) fun b hb => ?_) ?_ ?_
    · exact (World.ownsRow.lt hown b hb).1
    · intro b hb
      have hb : g = b := by simpa [Value.ownBlock] using hb
      subst hb
      rcases hat with hat | hat
      · exact hout g hat
      · right; omega
    · intro b h1 h2
      rw [hg.block b (by simp; omega) (fun e => by have := hout b e.symm; omega)]
      exact Below.heap_alloc _ _ _ (by omega)
end Go.Proofs.Ytlfncplldppncaa

/-
  Plain facts on slices of runs (structs of a sign and a number) and on slices of signs: what they hold, that it is kept, 'append'. No condition.
-/
namespace Go.Proofs.Ytlfncplldppncaa
open Go.RowKit

theorem Kept.cell {lo hi b o : Nat} {w w' : World} (h : Kept lo hi w w') (h1 : lo ≤ b) (h2 : b < hi) : w'.cell? ⟨b, o, none⟩ = w.cell? ⟨b, o, none⟩ := by
  unfold World.cell?
  rw [h b h1 h2]
/-- A run's two cells. -/
def encR (x : UInt8 × Int) : List Value := [.int .u8 (x.1.toNat : Int), .int .i64 x.2]
/-- The slice value '.slice A n _' holds the runs xs in world w, below block B. -/
def IsRuns (w : World) (B : Nat) (A : Option Addr) (n : Nat) (xs : List (UInt8 × Int)) : Prop :=
  xs.length = n ∧ (0 < n → ∃ g off, A = some ⟨g, off, none⟩ ∧ g < B ∧ ∀ j, j < n → w.cell? ⟨g, off + j * 2, none⟩ = some (.int .u8 ((xs.getD j (0, 0)).1.toNat : Int)) ∧ w.cell? ⟨g, off + j * 2 + 1, none⟩ = some (.int .i64 (xs.getD j (0, 0)).2))
theorem IsRuns.keep {w w' : World} {B B' n : Nat} {A : Option Addr} {xs : List (UInt8 × Int)} (h : IsRuns w B A n xs) (hB : B ≤ B')
    (hk : ∀ b o, b < B → w'.cell? ⟨b, o, none⟩ = w.cell? ⟨b, o, none⟩) : IsRuns w' B' A n xs :=
  ⟨h.1, fun hn => by
    obtain ⟨g, off, e, hg, hc⟩ := h.2 hn
    exact ⟨g, off, e, by omega, fun j hj => ⟨(hk _ _ hg).trans (hc j hj).1, (hk _ _ hg).trans (hc j hj).2⟩⟩⟩
theorem IsRuns.below {w w' : World} {B n : Nat} {A : Option Addr} {xs : List (UInt8 × Int)} (h : IsRuns w B A n xs) (hb : Below B w w') : IsRuns w' B A n xs :=
  h.keep (Nat.le_refl _) fun _ _ hp => hb.cell hp
theorem IsRuns.on {w w' : World} {n : Nat} {A : Option Addr} {xs : List (UInt8 × Int)} (h : IsRuns w w.heap.size A n xs) (hb : Below w.heap.size w w') : IsRuns w' w'.heap.size A n xs :=
  h.keep hb.size fun _ _ hp => hb.cell hp
theorem IsRuns.nil {w : World} {B : Nat} {A : Option Addr} : IsRuns w B A 0 [] := ⟨rfl, fun h => absurd h (by omega)⟩

theorem flatR_len (xs : List (UInt8 × Int)) : (xs.flatMap encR).length = xs.length * 2 := by
  induction xs with
  | nil => rfl
  | cons x xs ih => rw [List.flatMap_cons, List.length_append, ih]; simp [encR]; omega
theorem flatR_get (xs : List (UInt8 × Int)) : ∀ j, j < xs.length → (xs.flatMap encR)[j * 2]? = some (.int .u8 ((xs.getD j (0, 0)).1.toNat : Int)) ∧ (xs.flatMap encR)[j * 2 + 1]? = some (.int .i64 (xs.getD j (0, 0)).2) := by
  induction xs with
  | nil => intro j hj; simp at hj
  | cons x xs ih =>
    intro j hj
    cases j with
    | zero => simp [encR]
    | succ j =>
      have := ih j (by simpa using hj)
      rw [List.flatMap_cons, show (j + 1) * 2 = j * 2 + 2 by omega, show j * 2 + 2 + 1 = (j * 2 + 1) + 2 by omega]
      simpa [encR] using this
/-- A slice value that is the call's own and holds the runs xs. Shut for the walk. -/
def OwnR (w : World) (base : Nat) (e : TypeId) (v : Value) (xs : List (UInt8 × Int)) : Prop := w.ownsRow base e 2 v xs.length (xs.flatMap encR)
theorem OwnR.nil (w : World) (base : Nat) (e : TypeId) : OwnR w base e (.slice none 0 0) [] := World.ownsRow_nil _ _ _ _
theorem OwnR.below {w w' : World} {base B : Nat} {e : TypeId} {v : Value} {xs : List (UInt8 × Int)} (h : OwnR w base e v xs) (hb : Below B w w') (hB : w.heap.size ≤ B) : OwnR w' base e v xs := by
  refine ⟨h.1, ?_⟩
  rcases h.2 with h' | ⟨g, cap, cur, h1, h2, h3, h4⟩
  · exact .inl h'
  · refine .inr ⟨g, cap, cur, h1, h2, ?_, h4⟩
    have hlt : g < w.heap.size := by
      rcases Nat.lt_or_ge g w.heap.size with hlt | hge
      · exact hlt
      · rw [Array.getElem?_eq_none hge] at h3; cases h3
    rw [hb.block g (by omega)]; exact h3
theorem OwnR.drewN {w : World} {base : Nat} {e : TypeId} {v : Value} {xs : List (UInt8 × Int)} (h : OwnR w base e v xs) (q : Nat) : OwnR (w.drewN q) base e v xs := h
theorem IsRuns.of_own {w : World} {base : Nat} {e : TypeId} {v : Value} {xs : List (UInt8 × Int)} (h : OwnR w base e v xs) :
    ∃ A c, v = .slice A xs.length c ∧ xs.length ≤ c ∧ IsRuns w w.heap.size A xs.length xs := by
  unfold OwnR at h
  rcases h.2 with ⟨rfl, h0⟩ | ⟨g, cap, cur, rfl, hg, hh, hnc, hcm, hcs, htk⟩
  · exact ⟨none, 0, by rw [h0], by omega, rfl, fun h => absurd h (by omega)⟩
  · refine ⟨_, _, rfl, hnc, rfl, fun hn => ⟨g, 0, rfl, ?_, fun j hj => ?_⟩⟩
    · rcases Nat.lt_or_ge g w.heap.size with hlt | hge
      · exact hlt
      · rw [Array.getElem?_eq_none hge] at hh; cases hh
    · have hf := flatR_get xs j hj
      rw [Nat.zero_add, h.cellAt (j * 2) (by omega), h.cellAt (j * 2 + 1) (by omega)]
      exact hf
/-- A slice literal of runs, as it has just been laid. -/
theorem IsRuns.lit (w : World) (xs : List (UInt8 × Int)) (cs : Array Value) (e : TypeId) (h : cs = (xs.flatMap encR).toArray) :
    IsRuns (w.alloc (.cells cs e)) (w.heap.size + 1) (some ⟨w.heap.size, 0, none⟩) xs.length xs := by
  subst h
  refine ⟨rfl, fun _ => ⟨w.heap.size, 0, rfl, by omega, fun j hj => ?_⟩⟩
  have := flatR_get xs j hj
  rw [Nat.zero_add, cell_of_row _ _ (j * 2) _ e (0, 0) (heap_alloc_new w _), cell_of_row _ _ (j * 2 + 1) _ e (0, 0) (heap_alloc_new w _)]
  simpa using this

/-- 'out = append(out, run)', out nil or the call's own. -/
theorem wpList_append_run {P : Program} (wr : World) {ops : Array Oper} {rest : List Oper} {o : Oper} {a : Act} {Q : Exit → Act → World → Prop} (hgd : o.guard = none) (s x : Operand) (t : TypeId)
    (ho : o.op = .call { callee := .builtin .append, args := #[s, x], argTypes := #[t, t] }) (base : Nat) (e : TypeId) (i : TypeInfo)
    (ht : P.underlying t = some (.slice e)) (hi : P.info? e = some i) (hz : i.zero = some (.agg #[.int .u8 0, .int .i64 0])) (hsize : i.size = 2) (hby : i.bytes = 16)
    (v : Value) (cs : List (UInt8 × Int)) (hs : a.eval s = v) (hown : OwnR wr base e v cs) (k : UInt8 × Int) (hx : a.eval x = .slice (some ⟨wr.heap.size, 0, none⟩) 1 1)
    (hlen : cs.length ≤ 1099511627776) (hbase : base ≤ wr.heap.size)
    (h : ∀ v' w', OwnR w' base e v' (cs ++ [k]) → Below base wr w' → wpList P ops Q rest (a.put o.dst v') w') :
    wpList P ops Q (o :: rest) a (wr.alloc (.cells #[.int .u8 (k.1.toNat : Int), .int .i64 k.2] e)) := by
  refine wpList_append_own _ hgd s x t ho base e i (.agg #[.int .u8 0, .int .i64 0]) 2 16 ht hi hz hsize hby rfl (by decide) v _ _ hs (World.ownsRow.alloc hown _) ⟨wr.heap.size, 0, none⟩ 1 1 [.int .u8 (k.1.toNat : Int), .int .i64 k.2] hx rfl ?_ ?_ ?_ ?_ ?_ ?_
  · intro j u hj
    match j, hj with
    | 0, hj => simp at hj; subst hj; simp [Addr.add]
    | 1, hj => simp at hj; subst hj; simp [Addr.add]
  · intro u hu; simp at hu; rcases hu with rfl | rfl <;> rfl
  · unfold maxLen; omega
  · omega
  · simp; omega
  · intro v' w' ho hg _
    refine h v' w' ?_ (((Below.refl base wr).alloc hbase _).grown hg (by simp; omega) fun b hb => ?_)
    · unfold OwnR
      rw [List.flatMap_append, List.length_append]
      exact ho
    · exact (World.ownsRow.lt hown b hb).1

/-! ### Signs -/
/-- A sign's cell. -/
def encB (c : UInt8) : Value := .int .u8 (c.toNat : Int)
/-- A slice value that is the call's own and holds the signs xs. Shut for the walk. -/
def OwnB (w : World) (base : Nat) (e : TypeId) (v : Value) (xs : List UInt8) : Prop := w.ownsRow base e 1 v xs.length (xs.map encB)
theorem OwnB.nil (w : World) (base : Nat) (e : TypeId) : OwnB w base e (.slice none 0 0) [] := World.ownsRow_nil _ _ _ _
theorem OwnB.below {w w' : World} {base B : Nat} {e : TypeId} {v : Value} {xs : List UInt8} (h : OwnB w base e v xs) (hb : Below B w w') (hB : w.heap.size ≤ B) : OwnB w' base e v xs := by
  refine ⟨h.1, ?_⟩
  rcases h.2 with h' | ⟨g, cap, cur, h1, h2, h3, h4⟩
  · exact .inl h'
  · refine .inr ⟨g, cap, cur, h1, h2, ?_, h4⟩
    have hlt : g < w.heap.size := by
      rcases Nat.lt_or_ge g w.heap.size with hlt | hge
      · exact hlt
      · rw [Array.getElem?_eq_none hge] at h3; cases h3
    rw [hb.block g (by omega)]; exact h3
theorem OwnB.drewN {w : World} {base : Nat} {e : TypeId} {v : Value} {xs : List UInt8} (h : OwnB w base e v xs) (q : Nat) : OwnB (w.drewN q) base e v xs := h
/-- The signs by their cells, nil let in. -/
theorem OwnB.cells {w : World} {base : Nat} {e : TypeId} {v : Value} {xs : List UInt8} (h : OwnB w base e v xs) :
    ∃ A c, v = .slice A xs.length c ∧ xs.length ≤ c ∧ (0 < xs.length → ∃ g off, A = some ⟨g, off, none⟩ ∧ base ≤ g ∧ g < w.heap.size ∧ ∀ j, j < xs.length → w.cell? ⟨g, off + j, none⟩ = some (.int .u8 ((xs.getD j 0).toNat : Int))) ∧ (xs = [] → A = none ∨ ∃ g off, A = some ⟨g, off, none⟩) := by
  unfold OwnB at h
  rcases h.2 with ⟨rfl, h0⟩ | ⟨g, cap, cur, rfl, hg, hh, hnc, hcm, hcs, htk⟩
  · exact ⟨none, 0, by rw [h0], by omega, fun h => absurd h (by omega), fun _ => .inl rfl⟩
  · refine ⟨_, _, rfl, hnc, fun hn => ⟨g, 0, rfl, hg, ?_, fun j hj => ?_⟩, fun _ => .inr ⟨_, _, rfl⟩⟩
    · rcases Nat.lt_or_ge g w.heap.size with hlt | hge
      · exact hlt
      · rw [Array.getElem?_eq_none hge] at hh; cases hh
    · rw [Nat.zero_add, h.cellAt j (by omega)]
      simp [encB, hj]
theorem OwnB.out {w : World} {base lo hi : Nat} {e : TypeId} {v : Value} {xs : List UInt8} (h : OwnB w base e v xs) (hlo : w.heap.size ≤ lo) : Out v lo hi := fun b hb => .inl (by
  have := (World.ownsRow.lt h b hb).2
  omega)
/-- 'out = append(out, c)', out nil or the call's own, lying outside the blocks from lo to hi: they are as they were, and it lies outside them still. -/
theorem wpList_append_byte {P : Program} (wr : World) {ops : Array Oper} {rest : List Oper} {o : Oper} {a : Act} {Q : Exit → Act → World → Prop} (hgd : o.guard = none) (s x : Operand) (t : TypeId)
    (ho : o.op = .call { callee := .builtin .append, args := #[s, x], argTypes := #[t, t] }) (base : Nat) (e : TypeId) (i : TypeInfo)
    (ht : P.underlying t = some (.slice e)) (hi : P.info? e = some i) (hz : i.zero = some (.int .u8 0)) (hsize : i.size = 1) (hby : i.bytes = 1)
    (v : Value) (cs : List UInt8) (hs : a.eval s = v) (hown : OwnB wr base e v cs) (k : UInt8) (hx : a.eval x = .slice (some ⟨wr.heap.size, 0, none⟩) 1 1)
    (hlen : cs.length ≤ 1099511627776) (hbase : base ≤ wr.heap.size) (lo hh : Nat) (hout : Out v lo hh) (hhi : hh ≤ wr.heap.size)
    (h : ∀ v' w', OwnB w' base e v' (cs ++ [k]) → Below base wr w' → Out v' lo hh → Kept lo hh wr w' → wpList P ops Q rest (a.put o.dst v') w') :
    wpList P ops Q (o :: rest) a (wr.alloc (.cells #[.int .u8 (k.toNat : Int)] e)) := by
  refine wpList_append_lies _ hgd s x t ho base e i (.int .u8 0) 1 1 ht hi hz hsize hby rfl (by decide) v _ _ hs (World.ownsRow.alloc hown _) ⟨wr.heap.size, 0, none⟩ 1 1 [.int .u8 (k.toNat : Int)] hx rfl ?_ ?_ (by decide) ?_ ?_ ?_ (wr.heap.size + 1) (by simp) ?_
  · intro j u hj
    match j, hj with
    | 0, hj => simp at hj; subst hj; simp [Addr.add]
  · intro u hu; simp at hu; subst hu; rfl
  · unfold maxLen; omega
  · omega
  · simp; omega
  · intro g cap w' ho hg hat _
    refine h _ w' (by unfold OwnB; rw [List.map_append, List.length_append]; exact ho) (((Below.refl base wr).alloc hbase _).grown hg (by simp; omega) fun b hb => ?_) ?_ ?_
    · exact (World.ownsRow.lt hown b hb).1
    · intro b hb
      have hb : g = b := by simpa [Value.ownBlock] using hb
      subst hb
      rcases hat with hat | hat
      · exact hout g hat
      · right; omega
    · intro b h1 h2
      rw [hg.block b (by simp; omega) (fun e => by have := hout b e.symm; omega)]
      exact Below.heap_alloc _ _ _ (by omega)
end Go.Proofs.Ytlfncplldppncaa
