/-
  Plain facts on a table of numbers: a slice of the call's own, of slices of the call's own that lie apart: how it reads, 'append' of a row, one place stored. No condition.
-/
import Derived.Test.YtlbefiaieehcfaaOwn
import Derived.Test.YtlbefiaieehcfaaBlk
namespace Go.Proofs.Ytlbefiaieehcfaa
open Go.RowKit

/-- A row's cell in the table. -/
def encV (m : Nat) (g : Nat) : List Value := [.slice (some ⟨g, 0, none⟩) m m]
theorem encV_len (m g : Nat) : (encV m g).length = 1 := rfl
theorem encV_one (m g : Nat) : ∀ u ∈ encV m g, u.oneCell' = true := by
  intro u hu; simp [encV] at hu; subst hu; rfl
/-- The first m numbers of a function. -/
def rowN (m : Nat) (f : Nat → Int) : List Int := (List.range m).map f
theorem rowN_len (m : Nat) (f : Nat → Int) : (rowN m f).length = m := by simp [rowN]
theorem rowN_get (m : Nat) (f : Nat → Int) {j : Nat} (h : j < m) : (rowN m f).getD j 0 = f j := by simp [rowN, h]
theorem rowN_set (m : Nat) (f : Nat → Int) (j : Nat) (x : Int) : (rowN m f).set j x = rowN m fun b => if b = j then x else f b := by
  apply List.ext_getElem?
  intro k
  by_cases hk : k < m
  · by_cases e : k = j
    · subst e; simp [rowN, hk]
    · simp [rowN, hk, e, Ne.symm e]
  · simp [rowN, hk]
theorem rowN_congr {m : Nat} {f g : Nat → Int} (h : ∀ j, j < m → f j = g j) : rowN m f = rowN m g := List.map_congr_left fun j hj => h j (by simpa using hj)
theorem rowN_zero (m : Nat) : rowN m (fun _ => 0) = List.replicate m 0 := by
  apply List.ext_getElem?
  intro k
  by_cases hk : k < m <;> simp [rowN, hk]

/-- The value holds a table: row i lies in block gs i, and holds F i 0, F i 1, .. (m of them). -/
structure Tab (w : World) (base : Nat) (tr ti : TypeId) (v : Value) (m : Nat) (gs : List Nat) (F : Nat → Nat → Int) : Prop where
  own : OwnX (encV m) 1 w base tr v gs
  row : ∀ i, i < gs.length → NumAt w (gs.getD i 0) ti (rowN m (F i)) ∧ base ≤ gs.getD i 0
  differ : ∀ i j, i < gs.length → j < gs.length → gs.getD i 0 = gs.getD j 0 → i = j
  apart : ∀ i, i < gs.length → v.ownBlock ≠ some (gs.getD i 0)
section
variable {base m : Nat} {tr ti : TypeId} {v : Value} {gs : List Nat} {F : Nat → Nat → Int}
theorem Tab.nil (w : World) (base : Nat) (tr ti : TypeId) (m : Nat) (F : Nat → Nat → Int) : Tab w base tr ti (.slice none 0 0) m [] F :=
  ⟨OwnX.nil _ _ _ _ _, fun i hi => by simp at hi, fun i j hi => by simp at hi, fun i hi => by simp at hi⟩
theorem Tab.congr {w : World} {G : Nat → Nat → Int} (h : Tab w base tr ti v m gs F) (e : ∀ i j, i < gs.length → j < m → F i j = G i j) : Tab w base tr ti v m gs G :=
  ⟨h.own, fun i hi => by rw [← rowN_congr (f := F i) (g := G i) (fun j hj => e i j hi hj)]; exact h.row i hi, h.differ, h.apart⟩
theorem Tab.below {w w' : World} {B : Nat} (h : Tab w base tr ti v m gs F) (hb : Below B w w') (hB : w.heap.size ≤ B) : Tab w' base tr ti v m gs F :=
  ⟨h.own.below hb hB, fun i hi => by
    obtain ⟨h1, h2⟩ := h.row i hi
    refine ⟨?_, h2⟩
    have hlt := BlkAt.lt h1
    unfold NumAt BlkAt
    rw [hb.block _ (by omega)]
    exact h1, h.differ, h.apart⟩
theorem Tab.drewN {w : World} (h : Tab w base tr ti v m gs F) (q : Nat) : Tab (w.drewN q) base tr ti v m gs F := ⟨h.own, h.row, h.differ, h.apart⟩
/-- Where it lies. -/
theorem Tab.shape {w : World} (h : Tab w base tr ti v m gs F) (h0 : 0 < gs.length) : ∃ g c, v = .slice (some ⟨g, 0, none⟩) gs.length c ∧ base ≤ g ∧ g < w.heap.size ∧ ∀ i, i < gs.length → w.cell? ⟨g, i, none⟩ = some (.slice (some ⟨gs.getD i 0, 0, none⟩) m m) := by
  obtain ⟨A, c, hv, hc, hr⟩ := h.own.read (encV_len m)
  obtain ⟨g, rfl, hb, hg, hcell⟩ := hr h0
  refine ⟨g, c, hv, hb, hg, fun i hi => ?_⟩
  have := hcell i hi 0 (by omega)
  rw [Nat.mul_one, Nat.add_zero] at this
  rw [this, List.getD_eq_getElem?_getD, List.getElem?_eq_getElem hi]
  rfl
theorem Tab.outer {w : World} {g k c : Nat} (h : Tab w base tr ti (.slice (some ⟨g, 0, none⟩) k c) m gs F) {i : Nat} (hi : i < gs.length) : w.cell? ⟨g, i, none⟩ = some (.slice (some ⟨gs.getD i 0, 0, none⟩) m m) := by
  obtain ⟨g', c', e, _, _, hr⟩ := h.shape (by omega)
  injection e with e1 _ _
  injection e1 with e1
  injection e1 with e1
  rw [e1]
  exact hr i hi
theorem Tab.cell {w : World} (h : Tab w base tr ti v m gs F) {i j : Nat} (hi : i < gs.length) (hj : j < m) : w.cell? ⟨gs.getD i 0, j, none⟩ = some (.int .i64 (F i j)) := by
  have := (h.row i hi).1.cell (k := j) (by rw [rowN_len]; exact hj)
  rwa [rowN_get m _ hj] at this
theorem Tab.frozen {w : World} (h : Tab w base tr ti v m gs F) {i : Nat} (hi : i < gs.length) (j : Nat) : w.frozen? ⟨gs.getD i 0, j, none⟩ = false := BlkAt.frozen (h.row i hi).1 j
/-- One place stored. -/
theorem Tab.set {w : World} (h : Tab w base tr ti v m gs F) {i : Nat} (hi : i < gs.length) (j : Nat) (x : Int) :
    Tab (w.setCell ⟨gs.getD i 0, j, none⟩ (.int .i64 x)) base tr ti v m gs (fun a b => if a = i ∧ b = j then x else F a b) ∧ Below base w (w.setCell ⟨gs.getD i 0, j, none⟩ (.int .i64 x)) := by
  obtain ⟨h1, h2⟩ := h.row i hi
  obtain ⟨s1, s2⟩ := h1.stored j x
  refine ⟨⟨h.own.keep fun b hb => s2.block b fun e => h.apart i hi (by rw [hb, e]), fun a ha => ⟨?_, (h.row a ha).2⟩, h.differ, h.apart⟩, s2.below h2⟩
  by_cases e : a = i
  · subst e
    rw [rowN_set] at s1
    rw [rowN_congr (g := fun b => if b = j then x else F a b) (fun b _ => by simp)]
    exact s1
  · rw [rowN_congr (g := F a) (fun b _ => by simp [e])]
    have hne : gs.getD a 0 ≠ gs.getD i 0 := fun e2 => e (h.differ a i ha hi e2)
    unfold NumAt BlkAt
    rw [s2.block _ hne]
    exact (h.row a ha).1
end
/-- 'rows = append(rows, row)', the row a new block of the call's own. -/
theorem wpList_append_row {P : Program} (wr : World) {ops : Array Oper} {rest : List Oper} {o : Oper} {a : Act} {Q : Exit → Act → World → Prop} (hgd : o.guard = none) (s x : Operand) (t : TypeId)
    (ho : o.op = .call { callee := .builtin .append, args := #[s, x], argTypes := #[t, t] }) (base : Nat) (tr ti : TypeId) (i : TypeInfo)
    (ht : P.underlying t = some (.slice tr)) (hi : P.info? tr = some i) (hz : i.zero = some (.slice none 0 0)) (hsize : i.size = 1) (hby : i.bytes = 24)
    (v : Value) (m : Nat) (gs : List Nat) (F : Nat → Nat → Int) (htab : Tab wr base tr ti v m gs F) (g : Nat) (hg : NumAt wr g ti (rowN m (F gs.length))) (hgb : base ≤ g)
    (hnew : ∀ i, i < gs.length → gs.getD i 0 ≠ g) (hvg : v.ownBlock ≠ some g) (hs : a.eval s = v) (hx : a.eval x = .slice (some ⟨wr.heap.size, 0, none⟩) 1 1)
    (hlen : gs.length ≤ 1099511627776) (hbase : base ≤ wr.heap.size)
    (h : ∀ v' w', Tab w' base tr ti v' m (gs ++ [g]) F → Below base wr w' → wpList P ops Q rest (a.put o.dst v') w') :
    wpList P ops Q (o :: rest) a (wr.alloc (.cells #[.slice (some ⟨g, 0, none⟩) m m] tr)) := by
  refine wpList_append_x wr hgd s x t ho base tr i (encV m) 1 _ 24 (encV_len m) (encV_one m) (by decide) (by decide) ht hi hz hsize hby rfl v gs hs htab.own g hx hlen hbase fun v' w' hown hturn => ?_
  have hkeep : ∀ b, b < wr.heap.size → v.ownBlock ≠ some b → w'.heap[b]? = wr.heap[b]? := fun b hb hne => hturn.block b hb (fun e => hne e.symm)
  have hglt := BlkAt.lt hg
  have hnum : ∀ (b : Nat) (xs : List Int), NumAt wr b ti xs → v.ownBlock ≠ some b → NumAt w' b ti xs := fun b xs hb hne => by
    unfold NumAt BlkAt
    rw [hkeep b (BlkAt.lt hb) hne]
    exact hb
  have hget : ∀ i, i < gs.length → (gs ++ [g]).getD i 0 = gs.getD i 0 := fun i hi => by
    rw [List.getD_eq_getElem?_getD, List.getElem?_append_left hi, ← List.getD_eq_getElem?_getD]
  have hlast : (gs ++ [g]).getD gs.length 0 = g := by simp
  have hap : ∀ b, b < wr.heap.size → v.ownBlock ≠ some b → v'.ownBlock ≠ some b := fun b hb hne e => by
    rcases hturn.here with e2 | ⟨g2, e2, hg2⟩
    · exact hne (by rw [← e2]; exact e)
    · rw [e] at e2
      injection e2 with e2
      omega
  refine h v' w' ⟨hown, fun i hi => ?_, fun i j hi hj e => ?_, fun i hi => ?_⟩ (hturn.below hbase fun b hb => (htab.own.lt hb).1)
  · rw [List.length_append, List.length_singleton] at hi
    by_cases e : i = gs.length
    · subst e
      rw [hlast]
      exact ⟨hnum g _ hg hvg, hgb⟩
    · rw [hget i (by omega)]
      obtain ⟨h1, h2⟩ := htab.row i (by omega)
      exact ⟨hnum _ _ h1 (htab.apart i (by omega)), h2⟩
  · rw [List.length_append, List.length_singleton] at hi hj
    by_cases e1 : i = gs.length
    · by_cases e2 : j = gs.length
      · omega
      · rw [e1, hlast, hget j (by omega)] at e
        exact absurd e.symm (hnew j (by omega))
    · by_cases e2 : j = gs.length
      · rw [e2, hlast, hget i (by omega)] at e
        exact absurd e (hnew i (by omega))
      · rw [hget i (by omega), hget j (by omega)] at e
        exact htab.differ i j (by omega) (by omega) e
  · rw [List.length_append, List.length_singleton] at hi
    by_cases e : i = gs.length
    · subst e
      rw [hlast]
      exact hap g hglt hvg
    · rw [hget i (by omega)]
      exact hap _ (BlkAt.lt (htab.row i (by omega)).1) (htab.apart i (by omega))
end Go.Proofs.Ytlbefiaieehcfaa
