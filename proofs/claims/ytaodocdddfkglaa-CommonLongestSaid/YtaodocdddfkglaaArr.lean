/-
  Plain facts on a variable that holds an array of numbers (a block known whole): as it is made, read, written in one place or as a whole, and kept. No condition.
-/
import Derived.Test.YtaodocdddfkglaaMem
import Derived.Laws.Rows
import Derived.Laws.Tables
import Derived.Deep.MidRow
import Derived.Laws.ResultCell
namespace Go.Proofs.Ytaodocdddfkglaa
open Go.RowKit

/-- Block g is a variable of type t, an array of n numbers: F j at place j. -/
def Arr (w : World) (g : Nat) (t : TypeId) (n : Nat) (F : Nat → Int) : Prop := w.heap[g]? = some (.cells (rowF n F).toArray t (0, 0))
/-- The array as a value. -/
def aggF (n : Nat) (F : Nat → Int) : Value := .agg (rowF n F).toArray

theorem rowF_arr_size (n : Nat) (F : Nat → Int) : (rowF n F).toArray.size = n := by simp [rowF_len]
theorem rowF_one (n : Nat) (F : Nat → Int) : (rowF n F).toArray.all (·.oneCell') = true :=
  all_oneCell_toArray fun v hv => by
    obtain ⟨j, _, rfl⟩ := List.mem_map.1 hv
    rfl
theorem Arr.lt {w : World} {g n : Nat} {t : TypeId} {F : Nat → Int} (h : Arr w g t n F) : g < w.heap.size := by
  rcases Nat.lt_or_ge g w.heap.size with hlt | hge
  · exact hlt
  · unfold Arr at h; rw [Array.getElem?_eq_none hge] at h; cases h
theorem Arr.cell {w : World} {g n : Nat} {t : TypeId} {F : Nat → Int} (h : Arr w g t n F) (j : Nat) (hj : j < n) : w.cell? ⟨g, j, none⟩ = some (.int .i64 (F j)) := by
  rw [cell_of_row w g j _ t _ h, List.getElem?_toArray, rowF_get n F j hj]
theorem Arr.frozen {w : World} {g n : Nat} {t : TypeId} {F : Nat → Int} (h : Arr w g t n F) (j : Nat) : w.frozen? ⟨g, j, none⟩ = false := frozen_of_row w g j _ t h
theorem Arr.set {w : World} {g n : Nat} {t : TypeId} {F : Nat → Int} (h : Arr w g t n F) (k : Nat) (x : Int) : Arr (w.setCell ⟨g, k, none⟩ (.int .i64 x)) g t n (fun j => if j = k then x else F j) := by
  unfold Arr
  rw [heap_setCell_same w g k _ t _ h, List.setIfInBounds_toArray, rowF_set]
theorem Arr.congr {w : World} {g n : Nat} {t : TypeId} {F G : Nat → Int} (h : Arr w g t n F) (he : ∀ j, j < n → F j = G j) : Arr w g t n G := by
  unfold Arr at *; rw [← rowF_congr he]; exact h
theorem Arr.below {w w' : World} {B g n : Nat} {t : TypeId} {F : Nat → Int} (h : Arr w g t n F) (hb : Below B w w') (hg : g < B) : Arr w' g t n F := by
  unfold Arr; rw [hb.block g hg]; exact h
theorem Arr.keeps {w w' : World} {g n : Nat} {t : TypeId} {F : Nat → Int} (h : Arr w g t n F) (he : w'.heap[g]? = w.heap[g]?) : Arr w' g t n F := by
  unfold Arr; rw [he]; exact h
theorem Arr.drewN {w : World} {g n : Nat} {t : TypeId} {F : Nat → Int} (h : Arr w g t n F) (q : Nat) : Arr (w.drewN q) g t n F := h

/-- A variable is made. -/
theorem wpList_alloc_arr {P : Program} {ops : Array Oper} {rest : List Oper} {o : Oper} {a : Act} {w : World} {Q : Exit → Act → World → Prop} (hgd : o.guard = none) (t : TypeId) (ho : o.op = .alloc t) (n : Nat)
    (hz : ∀ w, (zeroValue t).run P w = .ok (aggF n fun _ => 0) w)
    (h : ∀ w', Arr w' w.heap.size t n (fun _ => 0) → Below w.heap.size w w' → w'.heap.size = w.heap.size + 1 → wpList P ops Q rest (a.put o.dst (.pointer (some ⟨w.heap.size, 0, none⟩))) w') :
    wpList P ops Q (o :: rest) a w := by
  refine wpList_plain hgd fun _ hK => ?_
  unfold Oper.wp execOp
  simp only [ho, Instr.alloc, Sem.run_bind, hz, Result.andThen_ok, newVar, Sem.run_pure]
  refine hK _ _ (h (w.alloc (.cells (rowF n fun _ => 0).toArray t)) (heap_alloc_new w _) ((Below.refl _ _).alloc (Nat.le_refl _) _) (by simp))
/-- The whole array is read. -/
theorem wpList_load_arr {P : Program} {ops : Array Oper} {rest : List Oper} {o : Oper} {a : Act} {w : World} {Q : Exit → Act → World → Prop} (hgd : o.guard = none) (t : TypeId) (x : Operand) (ho : o.op = .load t x) (n : Nat) (e : TypeId)
    (g : Nat) (hx : a.eval x = .pointer (some ⟨g, 0, none⟩)) (F : Nat → Int) (hA : Arr w g t n F) (hu : P.underlying t = some (.array n e)) (hi : (P.info? t).map (·.size) = some n)
    (h : wpList P ops Q rest (a.put o.dst (aggF n F)) w) : wpList P ops Q (o :: rest) a w :=
  wpList_load_row hgd t x ho g hx t _ _ _ hA hu rfl (by rw [rowF_arr_size]; exact hi) h
/-- The whole array is written. -/
theorem wpList_store_arr {P : Program} {ops : Array Oper} {rest : List Oper} {o : Oper} {a : Act} {w : World} {Q : Exit → Act → World → Prop} (hgd : o.guard = none) (t : TypeId) (x y : Operand) (ho : o.op = .store t x y) (n : Nat)
    (g : Nat) (F G : Nat → Int) (hx : a.eval x = .pointer (some ⟨g, 0, none⟩)) (hy : a.eval y = aggF n F) (hA : Arr w g t n G) (hi : (P.info? t).map (·.size) = some n)
    (h : ∀ w', Arr w' g t n F → Below g w w' → (∀ k, k ≠ g → w'.heap[k]? = w.heap[k]?) → w'.heap.size = w.heap.size → wpList P ops Q rest (a.put o.dst undef) w') : wpList P ops Q (o :: rest) a w := by
  refine wpList_plain hgd fun _ hK => ?_
  have hs := run_storeVar_row (P := P) w g t t (rowF n G).toArray (rowF n F).toArray hA (by rw [rowF_arr_size]; exact hi) (by simp [rowF_len]) (rowF_one n F)
  unfold Oper.wp execOp
  simp only [ho, hx, hy, aggF, Instr.storeAt, Instr.sureAddr, Sem.run_bind, Sem.run_pure, Result.andThen_ok, hs]
  exact hK _ _ (h (w.setRow g (rowF n F).toArray) (setRow_heap w g _ _ t _ hA) ⟨rfl, rfl, rfl, by simp, fun k hk => setRow_other w g k _ (by omega)⟩ (fun k hk => setRow_other w g k _ hk) (by simp))
/-- An array in a result's variable. -/
theorem run_results_arr {P : Program} {fn : Func} {p u : Tmp} {t : TypeId} (h : fn.results = #[.cell p t, .tmp u]) (tmps : Array Value) (w : World) (n : Nat) (e : TypeId) (g : Nat) (F : Nat → Int)
    (hp : tmps.getD p undef = .pointer (some ⟨g, 0, none⟩)) (hA : Arr w g t n F) (hu : P.underlying t = some (.array n e)) (hi : (P.info? t).map (·.size) = some n) :
    (results fn tmps).run P w = .ok (.tuple #[aggF n F, tmps.getD u undef]) w := by
  rw [results_cell_tmp h, hp]
  simp only [asAddr, Sem.run_pure, Result.andThen_ok, run_loadVar_row w g t t _ _ _ hA hu rfl (by rw [rowF_arr_size]; exact hi)]
  rfl
/-- 'x[k]' of an array by value. -/
theorem run_index_arr {P : Program} (w : World) (t : TypeId) (n : Nat) (e : TypeId) (F : Nat → Int) (k : Nat) (hu : P.underlying t = some (.array n e)) (ha : ∀ w, (isAgg e).run P w = .ok false w) (hs : ∀ w, (sizeOf e).run P w = .ok 1 w) (hk : k < n) :
    (Instr.index t (aggF n F) (.int .i64 (k : Int))).run P w = .ok (.int .i64 (F k)) w := by
  have h2 := rowF_get n F k hk
  simp [Instr.index, aggF, run_underlying hu, asIntOf, hk, hs, part, ha, h2, go_sem]
end Go.Proofs.Ytaodocdddfkglaa
