/-
  Plain mathematics, without a program: a list's chains, number by number; a row of numbers by a function of places. No condition.
-/
import Derived.Test.YtlbefiaieehcfaaSch
import Derived.Test.YtlbefiaieehcfaaTab
namespace Go.Proofs.Ytlbefiaieehcfaa
open Go.RowKit

/-- The first i numbers, the newest first. -/
def pre (l : List Int) (i : Nat) : List Int := (l.take i).reverse
theorem pre_zero (l : List Int) : pre l 0 = [] := rfl
theorem pre_succ {l : List Int} {i : Nat} (h : i < l.length) : pre l (i + 1) = l.getD i 0 :: pre l i := by
  unfold pre
  rw [List.take_succ_eq_append_getElem h, List.reverse_append, List.getD_eq_getElem?_getD, List.getElem?_eq_getElem h]
  rfl
theorem pre_all {l : List Int} {i : Nat} (h : l.length ≤ i) : pre l i = l.reverse := by
  unfold pre
  rw [List.take_of_length_le h]
theorem pre_len {l : List Int} {i : Nat} (h : i ≤ l.length) : (pre l i).length = i := by
  unfold pre
  rw [List.length_reverse, List.length_take]
  omega
/-- The longest chain that ends with number i. -/
def moL (P : Int → Int → Bool) (l : List Int) (i : Nat) : Nat := wl P (pre l i) (l.getD i 0) + 1
theorem wl_pre {P : Int → Int → Bool} {l : List Int} {k : Nat} (h : k < l.length) (v : Int) : wl P (pre l (k + 1)) v = if P (l.getD k 0) v then max (wl P (pre l k) v) (moL P l k) else wl P (pre l k) v := by
  rw [pre_succ h]
  rfl
theorem lg_pre {P : Int → Int → Bool} {l : List Int} {k : Nat} (h : k < l.length) : lg P (pre l (k + 1)) = max (lg P (pre l k)) (moL P l k) := by
  rw [pre_succ h]
  rfl
theorem wl_len (P : Int → Int → Bool) (v : Int) (h : List Int) : wl P h v ≤ h.length := Nat.le_trans (wl_le_lg P v h) (lg_le P h)
/-- Block g holds the numbers F 0, F 1, .. (m of them). -/
def NumF (w : World) (g : Nat) (e : TypeId) (m : Nat) (F : Nat → Int) : Prop := NumAt w g e (rowN m F)
theorem NumF.cell {w : World} {g m : Nat} {e : TypeId} {F : Nat → Int} (h : NumF w g e m F) {j : Nat} (hj : j < m) : w.cell? ⟨g, j, none⟩ = some (.int .i64 (F j)) := by
  have := NumAt.cell h (k := j) (by rw [rowN_len]; exact hj)
  rwa [rowN_get m F hj] at this
theorem NumF.frozen {w : World} {g m : Nat} {e : TypeId} {F : Nat → Int} (h : NumF w g e m F) (j : Nat) : w.frozen? ⟨g, j, none⟩ = false := BlkAt.frozen h j
theorem NumF.lt {w : World} {g m : Nat} {e : TypeId} {F : Nat → Int} (h : NumF w g e m F) : g < w.heap.size := BlkAt.lt h
theorem NumF.congr {w : World} {g m : Nat} {e : TypeId} {F F' : Nat → Int} (h : NumF w g e m F) (he : ∀ j, j < m → F j = F' j) : NumF w g e m F' := by
  unfold NumF
  rw [← rowN_congr he]
  exact h
theorem NumF.drewN {w : World} {g m : Nat} {e : TypeId} {F : Nat → Int} (h : NumF w g e m F) (q : Nat) : NumF (w.drewN q) g e m F := h
theorem NumF.set {w : World} {g m : Nat} {e : TypeId} {F : Nat → Int} (h : NumF w g e m F) (j : Nat) (x : Int) :
    NumF (w.setCell ⟨g, j, none⟩ (.int .i64 x)) g e m (fun k => if k = j then x else F k) ∧ Only g w (w.setCell ⟨g, j, none⟩ (.int .i64 x)) := by
  have := NumAt.stored h j x
  rw [rowN_set] at this
  exact this
theorem NumF.made {w : World} {base g n : Nat} {e : TypeId} (h : w.ownsRow base e 1 (.slice (some ⟨g, 0, none⟩) n n) n (madeCells #[Value.int .i64 0] n).toList) : NumF w g e n (fun _ => 0) := by
  unfold NumF
  rw [rowN_zero]
  exact NumAt.made h
end Go.Proofs.Ytlbefiaieehcfaa
