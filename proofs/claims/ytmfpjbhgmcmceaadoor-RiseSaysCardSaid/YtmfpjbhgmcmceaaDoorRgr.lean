/-
  Plain facts on rows of numbers: a slice of the call's own, of slices of the call's own that lie apart and may have room: how they read, a number stored in a row, a row that has grown, a new row. No condition.
-/
import Derived.Test.YtmfpjbhgmcmceaaDoorOwn
import Derived.Test.YtmfpjbhgmcmceaaDoorBlk
import Derived.Laws.OwnMore
namespace Go.Proofs.YtmfpjbhgmcmceaaDoor
open Go.RowKit

def encI (x : Int) : List Value := [.int .i64 x]
theorem encI_len (x : Int) : (encI x).length = 1 := rfl
theorem encI_one (x : Int) : ∀ u ∈ encI x, u.oneCell' = true := by
  intro u hu; simp [encI] at hu; subst hu; rfl
theorem flat_one {α : Type} (f : α → Value) (xs : List α) : xs.flatMap (fun x => [f x]) = xs.map f := by
  induction xs with
  | nil => rfl
  | cons x xs ih => rw [List.flatMap_cons, ih]; rfl
theorem OwnX.nums {w : World} {base : Nat} {e : TypeId} {v : Value} {xs : List Int} (h : OwnX encI 1 w base e v xs) : OwnI w base e v xs := by
  unfold OwnX at h
  rw [show xs.flatMap encI = xs.map (Value.int .i64) from flat_one _ _] at h
  exact h
theorem OwnI.tox {w : World} {base : Nat} {e : TypeId} {v : Value} {xs : List Int} (h : OwnI w base e v xs) : OwnX encI 1 w base e v xs := by
  unfold OwnX
  rw [show xs.flatMap encI = xs.map (Value.int .i64) from flat_one _ _]
  exact h
/-- One place stored. -/
theorem OwnX.put1 {α : Type} {f : α → Value} {w : World} {base g n c : Nat} {e : TypeId} {xs : List α} (h : OwnX (fun x => [f x]) 1 w base e (.slice (some ⟨g, 0, none⟩) n c) xs) (j : Nat) (x : α) :
    OwnX (fun x => [f x]) 1 (w.setCell ⟨g, j, none⟩ (f x)) base e (.slice (some ⟨g, 0, none⟩) n c) (xs.set j x) := by
  have hn : n = xs.length := by
    have hs : ∀ x : α, ((fun x => [f x]) x : List Value).length = 1 := fun _ => rfl
    obtain ⟨A, c', e', _⟩ := h.read hs
    injection e' with _ e2 _
  subst hn
  have h1 := (World.ownsRow.stored h j (f x)).1
  unfold OwnX
  rw [flat_one, List.map_set, List.length_set, ← flat_one f xs]
  exact h1
theorem OwnX.block {α : Type} {enc : α → List Value} {sz : Nat} {w : World} {base g n c : Nat} {e : TypeId} {xs : List α} (h : OwnX enc sz w base e (.slice (some ⟨g, 0, none⟩) n c) xs) : ∃ cs, w.heap[g]? = some (.cells cs e (0, 0)) := by
  rcases h.2 with ⟨h', _⟩ | ⟨g', cap, cur, h', _, hh, _⟩
  · cases h'
  · injection h' with h1 _ _
    injection h1 with h1
    injection h1 with h1
    subst h1
    exact ⟨cur, hh⟩
theorem only_set {w : World} {g : Nat} {cs : Array Value} {e : TypeId} (h : w.heap[g]? = some (.cells cs e (0, 0))) (j : Nat) (u : Value) : Only g w (w.setCell ⟨g, j, none⟩ u) :=
  (BlkAt.stored (vs := cs.toList) (by unfold BlkAt; simpa using h) j u).2

/-- A row's cell: its block, its length, its room. -/
abbrev Rw := Nat × Nat × Nat
def rwV (t : Rw) : Value := .slice (some ⟨t.1, 0, none⟩) t.2.1 t.2.2
def encRw (t : Rw) : List Value := [rwV t]
theorem encRw_len (t : Rw) : (encRw t).length = 1 := rfl
theorem encRw_one (t : Rw) : ∀ u ∈ encRw t, u.oneCell' = true := by
  intro u hu; simp [encRw] at hu; subst hu; rfl
def rz : Rw := (0, 0, 0)
theorem getD_set_at {α : Type} {l : List α} {i : Nat} (h : i < l.length) (x d : α) : (l.set i x).getD i d = x := by simp [h]
theorem getD_set_off {α : Type} {l : List α} {i j : Nat} (h : i ≠ j) (x d : α) : (l.set i x).getD j d = l.getD j d := by simp [List.getElem?_set_ne h]
theorem getD_app_lt {α : Type} {l : List α} {i : Nat} (h : i < l.length) (x d : α) : (l ++ [x]).getD i d = l.getD i d := by simp [List.getElem?_append_left h]
theorem getD_app_at {α : Type} (l : List α) (x d : α) : (l ++ [x]).getD l.length d = x := by simp

/-- The value holds rows of numbers. -/
structure RowsW (w : World) (base : Nat) (tr ti : TypeId) (v : Value) (ts : List Rw) (Rs : List (List Int)) : Prop where
  own : OwnX encRw 1 w base tr v ts
  len : ts.length = Rs.length
  row : ∀ i, i < ts.length → OwnX encI 1 w base ti (rwV (ts.getD i rz)) (Rs.getD i [])
  differ : ∀ i j, i < ts.length → j < ts.length → (ts.getD i rz).1 = (ts.getD j rz).1 → i = j
  apart : ∀ i, i < ts.length → v.ownBlock ≠ some (ts.getD i rz).1
section
variable {base : Nat} {tr ti : TypeId} {v : Value} {ts : List Rw} {Rs : List (List Int)}
theorem RowsW.nil (w : World) (base : Nat) (tr ti : TypeId) : RowsW w base tr ti (.slice none 0 0) [] [] :=
  ⟨OwnX.nil _ _ _ _ _, rfl, fun i hi => absurd hi (by simp), fun i j hi => absurd hi (by simp), fun i hi => absurd hi (by simp)⟩
theorem RowsW.below {w w' : World} {B : Nat} (h : RowsW w base tr ti v ts Rs) (hb : Below B w w') (hB : w.heap.size ≤ B) : RowsW w' base tr ti v ts Rs :=
  ⟨h.own.below hb hB, h.len, fun i hi => (h.row i hi).below hb hB, h.differ, h.apart⟩
theorem RowsW.drewN {w : World} (h : RowsW w base tr ti v ts Rs) (q : Nat) : RowsW (w.drewN q) base tr ti v ts Rs := ⟨h.own, h.len, h.row, h.differ, h.apart⟩
theorem RowsW.lt {w : World} (h : RowsW w base tr ti v ts Rs) {i : Nat} (hi : i < ts.length) : base ≤ (ts.getD i rz).1 ∧ (ts.getD i rz).1 < w.heap.size := (h.row i hi).lt rfl
/-- How it reads. -/
theorem RowsW.outer {w : World} (h : RowsW w base tr ti v ts Rs) : ∃ A c, v = .slice A ts.length c ∧ (0 < ts.length → ∃ G, A = some ⟨G, 0, none⟩ ∧ base ≤ G ∧ G < w.heap.size ∧ ∀ i, i < ts.length → w.cell? ⟨G, i, none⟩ = some (rwV (ts.getD i rz))) := by
  obtain ⟨A, c, hv, _, hr⟩ := h.own.read encRw_len
  refine ⟨A, c, hv, fun h0 => ?_⟩
  obtain ⟨G, rfl, hb, hg, hc⟩ := hr h0
  refine ⟨G, rfl, hb, hg, fun i hi => ?_⟩
  have := hc i hi 0 (by omega)
  rw [Nat.mul_one, Nat.add_zero] at this
  rw [this, List.getD_eq_getElem?_getD, List.getElem?_eq_getElem hi]
  rfl
theorem RowsW.rowlen {w : World} (h : RowsW w base tr ti v ts Rs) {i : Nat} (hi : i < ts.length) : (ts.getD i rz).2.1 = (Rs.getD i []).length := by
  obtain ⟨A, c, hv, _⟩ := (h.row i hi).read encI_len
  unfold rwV at hv
  injection hv
theorem RowsW.cell {w : World} (h : RowsW w base tr ti v ts Rs) {i j : Nat} (hi : i < ts.length) (hj : j < (Rs.getD i []).length) : w.cell? ⟨(ts.getD i rz).1, j, none⟩ = some (.int .i64 ((Rs.getD i []).getD j 0)) := by
  obtain ⟨A, c, hv, _, hr⟩ := (h.row i hi).read encI_len
  obtain ⟨g, hA, _, _, hc⟩ := hr (by omega)
  unfold rwV at hv
  injection hv with e1 _ _
  rw [hA] at e1
  injection e1 with e1
  injection e1 with e1
  have := hc j hj 0 (by omega)
  rw [Nat.mul_one, Nat.add_zero] at this
  rw [e1, this, List.getD_eq_getElem?_getD (l := Rs.getD i []), List.getElem?_eq_getElem hj]
  rfl
theorem RowsW.frozen {w : World} (h : RowsW w base tr ti v ts Rs) {i : Nat} (hi : i < ts.length) (j : Nat) : w.frozen? ⟨(ts.getD i rz).1, j, none⟩ = false := by
  obtain ⟨cs, hh⟩ := (h.row i hi).block
  exact BlkAt.frozen (vs := cs.toList) (e := ti) (by unfold BlkAt; simpa using hh) j
/-- A number stored in a row. -/
theorem RowsW.put {w : World} (h : RowsW w base tr ti v ts Rs) {i : Nat} (hi : i < ts.length) (j : Nat) (x : Int) :
    RowsW (w.setCell ⟨(ts.getD i rz).1, j, none⟩ (.int .i64 x)) base tr ti v ts (Rs.set i ((Rs.getD i []).set j x)) ∧ Below base w (w.setCell ⟨(ts.getD i rz).1, j, none⟩ (.int .i64 x)) := by
  obtain ⟨cs, hh⟩ := (h.row i hi).block
  have ho := only_set hh j (.int .i64 x)
  refine ⟨⟨h.own.keep fun b hb => ho.block b fun e => h.apart i hi (by rw [hb, e]), by rw [List.length_set]; exact h.len, fun a ha => ?_, h.differ, h.apart⟩, ho.below (h.lt hi).1⟩
  by_cases e : i = a
  · subst e
    rw [getD_set_at (by rw [← h.len]; exact hi)]
    exact (h.row i hi).put1 j x
  · rw [getD_set_off e]
    refine (h.row a ha).keep fun b hb => ho.block b fun e2 => e (h.differ i a hi ha ?_)
    have hb' : some (ts.getD a rz).1 = some b := hb
    injection hb' with hb'
    rw [hb', e2]
/-- A row has grown, and is stored where it stood. -/
theorem RowsW.grow {w w' : World} {G n c : Nat} (h : RowsW w base tr ti (.slice (some ⟨G, 0, none⟩) n c) ts Rs) {i : Nat} (hi : i < ts.length) {t : Rw} {R : List Int} (ht : Turn w w' (rwV (ts.getD i rz)) (rwV t)) (hR : OwnX encI 1 w' base ti (rwV t) R) (hbase : base ≤ w.heap.size) :
    w'.cell? ⟨G, i, none⟩ = some (rwV (ts.getD i rz)) ∧ w'.frozen? ⟨G, i, none⟩ = false ∧ RowsW (w'.setCell ⟨G, i, none⟩ (rwV t)) base tr ti (.slice (some ⟨G, 0, none⟩) n c) (ts.set i t) (Rs.set i R) ∧ Below base w (w'.setCell ⟨G, i, none⟩ (rwV t)) := by
  have hGi : ∀ a, a < ts.length → G ≠ (ts.getD a rz).1 := fun a ha e => h.apart a ha (by rw [← e]; rfl)
  obtain ⟨hGb, hGl⟩ := h.own.lt (b := G) rfl
  have hkG : w'.heap[G]? = w.heap[G]? := ht.block G hGl fun e => hGi i hi (by injection e)
  have hown : OwnX encRw 1 w' base tr (.slice (some ⟨G, 0, none⟩) n c) ts := h.own.keep fun b hb => by
    have hb' : some G = some b := hb
    injection hb' with hb'
    rw [← hb']; exact hkG
  obtain ⟨cs, hh⟩ := hown.block
  have ho := only_set hh i (rwV t)
  have hnew : t.1 = (ts.getD i rz).1 ∨ w.heap.size ≤ t.1 := by
    rcases ht.here with e | ⟨g, e, hg⟩
    · left; injection e
    · right
      injection e with e
      have e : t.1 = g := e
      omega
  have htG : t.1 ≠ G := by
    rcases hnew with e | e
    · rw [e]; exact fun e2 => hGi i hi e2.symm
    · omega
  have hcell := (h.own.read encRw_len)
  refine ⟨?_, BlkAt.frozen (vs := cs.toList) (e := tr) (by unfold BlkAt; simpa using hh) i, ⟨hown.put1 i t, by rw [List.length_set, List.length_set]; exact h.len, fun a ha => ?_, fun a b ha hb e => ?_, fun a ha => ?_⟩, (ht.below hbase fun b hb => ?_).trans (ho.below hGb)⟩
  · obtain ⟨A, c', hv, hr⟩ := h.outer
    obtain ⟨G', hA, _, _, hc⟩ := hr (by omega)
    injection hv with e1 _ _
    rw [hA] at e1
    injection e1 with e1
    injection e1 with e1
    subst e1
    rw [World.cell?_of_block (w := w) (a := ⟨G, i, none⟩) hkG]
    exact hc i hi
  · rw [List.length_set] at ha
    have hnG : ∀ b, (rwV ((ts.set i t).getD a rz)).ownBlock = some b → b ≠ G := fun b hb e => by
      have hb' : some ((ts.set i t).getD a rz).1 = some b := hb
      injection hb' with hb'
      by_cases e2 : i = a
      · subst e2
        rw [getD_set_at hi] at hb'
        exact htG (by rw [hb', e])
      · rw [getD_set_off e2] at hb'
        exact hGi a ha (by rw [hb', e])
    refine OwnX.keep ?_ fun b hb => ho.block b (hnG b hb)
    by_cases e2 : i = a
    · subst e2
      rw [getD_set_at hi, getD_set_at (by rw [← h.len]; exact hi)]
      exact hR
    · rw [getD_set_off e2, getD_set_off e2]
      refine (h.row a ha).keep fun b hb => ht.block b ((h.row a ha).lt hb).2 fun e3 => e2 (h.differ i a hi ha ?_)
      have hb' : some (ts.getD a rz).1 = some b := hb
      have e3' : some b = some (ts.getD i rz).1 := e3
      injection hb' with hb'
      injection e3' with e3'
      rw [hb', ← e3']
  · rw [List.length_set] at ha hb
    by_cases e1 : i = a
    · by_cases e2 : i = b
      · omega
      · subst e1
        rw [getD_set_at hi, getD_set_off e2] at e
        rcases hnew with e3 | e3
        · exact absurd (h.differ i b hi hb (by rw [← e3, e])) e2
        · have := (h.lt hb).2; omega
    · by_cases e2 : i = b
      · subst e2
        rw [getD_set_at hi, getD_set_off e1] at e
        rcases hnew with e3 | e3
        · exact (absurd (h.differ i a hi ha (by rw [← e3, ← e])) e1)
        · have := (h.lt ha).2; omega
      · rw [getD_set_off e1, getD_set_off e2] at e
        exact h.differ a b ha hb e
  · rw [List.length_set] at ha
    intro e
    have e' : some G = some ((ts.set i t).getD a rz).1 := e
    injection e' with e'
    by_cases e2 : i = a
    · subst e2
      rw [getD_set_at hi] at e'
      exact htG e'.symm
    · rw [getD_set_off e2] at e'
      exact hGi a ha e'
  · have hb' : some (ts.getD i rz).1 = some b := hb
    injection hb' with hb'
    have := (h.lt hi).1
    omega
/-- A new row, laid in block g, behind the others. -/
theorem RowsW.push {w w1 w' : World} {v' : Value} {g n c : Nat} {R : List Int} (h : RowsW w base tr ti v ts Rs) (hb : Below w.heap.size w w1) (hg : w.heap.size ≤ g) (hR : OwnX encI 1 w1 base ti (rwV (g, n, c)) R) (ht : Turn w1 w' v v') (ho : OwnX encRw 1 w' base tr v' (ts ++ [(g, n, c)])) :
    RowsW w' base tr ti v' (ts ++ [(g, n, c)]) (Rs ++ [R]) := by
  have hgl : g < w1.heap.size := (hR.lt (b := g) rfl).2
  have hvl : ∀ b, v.ownBlock = some b → b < w.heap.size := fun b hb => (h.own.lt hb).2
  have hgv : v.ownBlock ≠ some g := fun e => by have := hvl g e; omega
  refine ⟨ho, by rw [List.length_append, List.length_append, h.len]; rfl, fun i hi => ?_, fun i j hi hj e => ?_, fun i hi => ?_⟩
  · rw [List.length_append, List.length_singleton] at hi
    by_cases e : i < ts.length
    · rw [getD_app_lt e, getD_app_lt (by rw [← h.len]; exact e)]
      refine ((h.row i e).below hb (Nat.le_refl _)).keep fun b hb2 => ht.block b (Nat.lt_of_lt_of_le ((h.row i e).lt hb2).2 hb.size) fun e2 => h.apart i e ?_
      have hb' : some (ts.getD i rz).1 = some b := hb2
      injection hb' with hb'
      rw [hb', ← e2]
    · obtain rfl : i = ts.length := by omega
      rw [getD_app_at, h.len, getD_app_at]
      refine hR.keep fun b hb2 => ?_
      have hb' : some g = some b := hb2
      injection hb' with hb'
      rw [← hb']
      exact ht.block g hgl fun e2 => hgv e2.symm
  · rw [List.length_append, List.length_singleton] at hi hj
    by_cases e1 : i < ts.length
    · by_cases e2 : j < ts.length
      · rw [getD_app_lt e1, getD_app_lt e2] at e
        exact h.differ i j e1 e2 e
      · obtain rfl : j = ts.length := by omega
        rw [getD_app_lt e1, getD_app_at] at e
        have := (h.lt e1).2
        have e : (ts.getD i rz).1 = g := e
        omega
    · by_cases e2 : j < ts.length
      · obtain rfl : i = ts.length := by omega
        rw [getD_app_lt e2, getD_app_at] at e
        have := (h.lt e2).2
        have e : g = (ts.getD j rz).1 := e
        omega
      · omega
  · rw [List.length_append, List.length_singleton] at hi
    by_cases e : i < ts.length
    · rw [getD_app_lt e]
      rcases ht.here with e2 | ⟨b, e2, hb2⟩
      · rw [e2]; exact h.apart i e
      · rw [e2]
        intro e3
        injection e3 with e3
        have := (h.lt e).2
        have := hb.size
        omega
    · obtain rfl : i = ts.length := by omega
      rw [getD_app_at]
      rcases ht.here with e2 | ⟨b, e2, hb2⟩
      · rw [e2]; exact hgv
      · rw [e2]
        intro e3
        injection e3 with e3
        have e3 : b = g := e3
        omega
end
end Go.Proofs.YtmfpjbhgmcmceaaDoor
