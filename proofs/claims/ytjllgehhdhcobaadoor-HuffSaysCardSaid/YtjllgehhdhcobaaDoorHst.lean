/-
  Plain facts on the state of Huffman's loop over heaps that lie in memory: what weights are let in, the state from round to round, and lengths counted up. No program.
-/
import Derived.Test.YtjllgehhdhcobaaDoorHuf
import Derived.Test.YtjllgehhdhcobaaDoorHmem
namespace Go.Proofs.YtjllgehhdhcobaaDoor
open Go.RowKit

/-- Weights that are let in. -/
def GoodH (l : List Int) : Prop := 0 < l.length ∧ l.length ≤ 10 ∧ ∀ x ∈ l, 0 ≤ x ∧ x ≤ 1000
/-- What is wrong with weights. -/
def BadH (l : List Int) (k : Int) : Prop := (l.length = 0 ∧ k = 5) ∨ (10 < l.length ∧ k = 4) ∨ (0 < l.length ∧ l.length ≤ 10 ∧ (∃ i, i < l.length ∧ ¬ (0 ≤ l.getD i 0 ∧ l.getD i 0 ≤ 1000)) ∧ k = 1)
theorem badH_one {l : List Int} {k k' : Int} (h : BadH l k) (h' : BadH l k') : k = k' := by
  rcases h with ⟨h1, rfl⟩ | ⟨h1, rfl⟩ | ⟨h1, h2, _, rfl⟩ <;> rcases h' with ⟨h3, rfl⟩ | ⟨h3, rfl⟩ | ⟨h3, h4, _, rfl⟩ <;> first | rfl | omega
theorem goodH_at {l : List Int} (h : GoodH l) {i : Nat} (hi : i < l.length) : 0 ≤ l.getD i 0 ∧ l.getD i 0 ≤ 1000 := by
  refine h.2.2 _ ?_
  rw [List.getD_eq_getElem?_getD, List.getElem?_eq_getElem hi]
  exact List.getElem_mem hi
theorem goodH_not {l : List Int} {k : Int} (h : GoodH l) (h' : BadH l k) : False := by
  rcases h' with ⟨h3, _⟩ | ⟨h3, _⟩ | ⟨h3, h4, ⟨i, hi, hn⟩, _⟩
  · have := h.1; omega
  · have := h.2.1; omega
  · exact hn (goodH_at h hi)
theorem goodH_of {l : List Int} (h0 : 0 < l.length) (h1 : l.length ≤ 10) (h : ∀ i, i < l.length → 0 ≤ l.getD i 0 ∧ l.getD i 0 ≤ 1000) : GoodH l := by
  refine ⟨h0, h1, fun x hx => ?_⟩
  obtain ⟨i, hi, rfl⟩ := List.getElem_of_mem hx
  have := h i hi
  rwa [List.getD_eq_getElem?_getD, List.getElem?_eq_getElem hi] at this
theorem badH_ne {l : List Int} {k : Int} (h : BadH l k) : k = 5 ∨ k = 4 ∨ k = 1 := by
  rcases h with ⟨_, rfl⟩ | ⟨_, rfl⟩ | ⟨_, _, _, rfl⟩ <;> simp
theorem badH_or (l : List Int) : GoodH l ∨ ∃ k, BadH l k := by
  by_cases h0 : l.length = 0
  · exact .inr ⟨5, .inl ⟨h0, rfl⟩⟩
  · by_cases h1 : l.length ≤ 10
    · by_cases h : ∀ i, i < l.length → 0 ≤ l.getD i 0 ∧ l.getD i 0 ≤ 1000
      · exact .inl (goodH_of (by omega) h1 h)
      · refine .inr ⟨1, .inr (.inr ⟨by omega, h1, ?_, rfl⟩)⟩
        rcases Classical.not_forall.1 h with ⟨i, hi⟩
        exact ⟨i, Classical.byContradiction fun h => hi fun h' => absurd h' h, fun h => hi fun _ => h⟩
    · exact .inr ⟨4, .inr (.inl ⟨by omega, rfl⟩)⟩

/-- Lengths o, one longer at each of the first j of the places zs. -/
def bump (o zs : List Nat) (j : Nat) : List Nat := (List.range o.length).map fun i => o.getD i 0 + if i ∈ zs.take j then 1 else 0
theorem bump_len (o zs : List Nat) (j : Nat) : (bump o zs j).length = o.length := by simp [bump]
theorem bump_at (o zs : List Nat) (j : Nat) {i : Nat} (hi : i < o.length) : (bump o zs j).getD i 0 = o.getD i 0 + if i ∈ zs.take j then 1 else 0 := by
  simp [bump, hi]
theorem bump_zero (o zs : List Nat) : bump o zs 0 = o := by
  apply List.ext_getElem?
  intro j
  by_cases hj : j < o.length <;> simp [bump, hj]
theorem bump_succ {o zs : List Nat} {j : Nat} (hn : zs.Nodup) (hj : j < zs.length) : (bump o zs j).set (zs.getD j 0) ((bump o zs j).getD (zs.getD j 0) 0 + 1) = bump o zs (j + 1) := by
  have hz : zs.getD j 0 = zs[j] := by rw [List.getD_eq_getElem?_getD, List.getElem?_eq_getElem hj]; rfl
  have hnot : zs[j] ∉ zs.take j := by
    intro hm
    have h2 := hn
    rw [← List.take_append_drop j zs, List.nodup_append] at h2
    refine h2.2.2 _ hm _ ?_ rfl
    rw [List.drop_eq_getElem_cons hj]
    exact List.mem_cons_self
  apply List.ext_getElem?
  intro i
  rw [hz]
  by_cases hi : i < o.length
  · have ht : ∀ y, y ∈ zs.take (j + 1) ↔ y ∈ zs.take j ∨ y = zs[j] := fun y => by rw [List.take_succ_eq_append_getElem hj, List.mem_append]; simp
    by_cases e : i = zs[j]
    · subst e
      rw [bump_at o zs j hi, if_neg hnot]
      rw [List.getElem?_set_self (by rw [bump_len]; exact hi)]
      have := bump_at o zs (j + 1) hi
      rw [if_pos ((ht _).2 (.inr rfl)), List.getD_eq_getElem?_getD] at this
      rw [List.getElem?_eq_getElem (by rw [bump_len]; exact hi)] at this ⊢
      simp only [Option.getD_some] at this
      rw [this]
    · rw [List.getElem?_set_ne (Ne.symm e)]
      have h1 : i < (bump o zs j).length := by rw [bump_len]; exact hi
      have h2 : i < (bump o zs (j + 1)).length := by rw [bump_len]; exact hi
      have a1 := bump_at o zs j hi
      have a2 := bump_at o zs (j + 1) hi
      rw [List.getD_eq_getElem?_getD, List.getElem?_eq_getElem h1] at a1
      rw [List.getD_eq_getElem?_getD, List.getElem?_eq_getElem h2] at a2
      rw [List.getElem?_eq_getElem h1, List.getElem?_eq_getElem h2]
      simp only [Option.getD_some] at a1 a2
      rw [a1, a2]
      congr 2
      by_cases hm : i ∈ zs.take j
      · rw [if_pos hm, if_pos ((ht i).2 (.inl hm))]
      · rw [if_neg hm, if_neg (fun h => by rcases (ht i).1 h with h | h; exact hm h; exact e h)]
  · have h1 : ¬ i < (bump o zs j).length := by rw [bump_len]; exact hi
    have h2 : ¬ i < (bump o zs (j + 1)).length := by rw [bump_len]; exact hi
    rw [List.getElem?_eq_none (by rw [List.length_set]; omega), List.getElem?_eq_none (by omega)]

/-! ### The state of the loop -/
theorem hp_fst (ts : List Tr) : (ts.map hp).map Prod.fst = ts.map Prod.fst := by rw [List.map_map]; rfl
theorem hp_erase (ts : List Tr) (k : Nat) : (ts.map hp).eraseIdx k = (ts.eraseIdx k).map hp := erase_map hp ts k
theorem hp_at (ts : List Tr) {k : Nat} (hk : k < ts.length) : (ts.map hp).getD k (0, []) = hp (ts.getD k tz) := by simp [hk]
theorem hst_len {D : List Nat} {hs : List (Int × List Nat)} {out : Nat → Nat} (h : Hst D hs out) {z : Int × List Nat} (hz : z ∈ hs) : z.2.length ≤ D.length := by
  have h1 := h.all.length_eq
  rw [List.length_range] at h1
  rw [← h1]
  obtain ⟨a, b, rfl⟩ := List.append_of_mem hz
  rw [List.flatMap_append, List.flatMap_cons, List.length_append, List.length_append]
  omega
theorem hst_nodup {D : List Nat} {hs : List (Int × List Nat)} {out : Nat → Nat} (h : Hst D hs out) {z : Int × List Nat} (hz : z ∈ hs) : z.2.Nodup := by
  have h1 : (hs.flatMap Prod.snd).Nodup := h.all.nodup_iff.2 List.nodup_range
  obtain ⟨a, b, rfl⟩ := List.append_of_mem hz
  rw [List.flatMap_append, List.flatMap_cons, List.nodup_append, List.nodup_append] at h1
  exact h1.2.1.1
/-- A count is never above what it will be. -/
theorem hst_le {D : List Nat} {hs : List (Int × List Nat)} {out : Nat → Nat} (h : Hst D hs out) {i : Nat} (hi : i < D.length) : out i ≤ D.getD i 0 := by
  have hm : i ∈ hs.flatMap Prod.snd := h.all.mem_iff.2 (List.mem_range.2 hi)
  obtain ⟨z, hz, hiz⟩ := List.mem_flatMap.1 hm
  obtain ⟨E, hE, hx⟩ := h.ex
  have hl := dep_len hE
  rw [List.length_map] at hl
  obtain ⟨j, hj, rfl⟩ := List.getElem_of_mem hz
  have := hx (hs[j], E[j]) (by
    rw [← List.getElem_zip (h := by rw [List.length_zip]; omega)]
    exact List.getElem_mem _) i hiz
  simp only at this
  omega
theorem hst_round {D o : List Nat} {ts : List Tr} {k m : Nat} (h : Hst D (ts.map hp) fun i => o.getD i 0) (ho : o.length = D.length) (h2 : 2 ≤ ts.length) (hk : FMin (ts.map Prod.fst) k) (hm : FMin ((ts.eraseIdx k).map Prod.fst) m) (g c : Nat) (x : Int) (zs : List Nat)
    (hx : x = (ts.getD k tz).1 + ((ts.eraseIdx k).getD m tz).1) (hz : zs = (ts.getD k tz).2.2 ++ ((ts.eraseIdx k).getD m tz).2.2) :
    Hst D ((((ts.eraseIdx k).eraseIdx m) ++ [(x, (g, c), zs)]).map hp) (fun i => (bump o zs zs.length).getD i 0) ∧ zs.Nodup ∧ (∀ i ∈ zs, i < D.length) ∧ zs.length ≤ D.length := by
  have hk' : k < ts.length := by simpa using hk.1
  have hm' : m < (ts.eraseIdx k).length := by simpa using hm.1
  have hst := hst_step h (by simpa using h2) (by rw [hp_fst]; exact hk) (by rw [hp_erase, hp_fst]; exact hm)
  rw [hp_erase, hp_erase, hp_at ts hk', hp_at (ts.eraseIdx k) hm'] at hst
  have e1 : (hp (ts.getD k tz)).1 + (hp ((ts.eraseIdx k).getD m tz)).1 = x := hx.symm
  have e2 : (hp (ts.getD k tz)).2 ++ (hp ((ts.eraseIdx k).getD m tz)).2 = zs := hz.symm
  rw [e1, e2] at hst
  have hin : (x, zs) ∈ (((ts.eraseIdx k).eraseIdx m).map hp) ++ [(x, zs)] := by simp
  have hlt : ∀ i ∈ zs, i < D.length := fun i hi => hst_mem hst hin hi
  refine ⟨?_, hst_nodup hst hin, hlt, hst_len hst hin⟩
  rw [List.map_append]
  have e3 : (fun i => (bump o zs zs.length).getD i 0) = fun i => o.getD i 0 + if i ∈ zs then 1 else 0 := by
    funext i
    by_cases hi : i < o.length
    · rw [bump_at o zs _ hi, List.take_length]
    · have : i ∉ zs := fun h => hi (by rw [ho]; exact hlt i h)
      rw [if_neg this]
      have h1 : ¬ i < (bump o zs zs.length).length := by rw [bump_len]; exact hi
      simp [hi, h1]
  rw [e3]
  exact hst
theorem hst_same {D o : List Nat} {ts : List Tr} (h : Hst D (ts.map hp) fun i => o.getD i 0) (ho : o.length = D.length) (h1 : ts.length ≤ 1) : o = D := by
  apply List.ext_getElem ho
  intro i hi hi'
  have := hst_end h (by simpa using h1) hi'
  simpa [List.getD_eq_getElem?_getD, hi, hi'] using this
/-- No heap weighs more than its places can. -/
def Wb (ts : List Tr) : Prop := ∀ t ∈ ts, 0 ≤ t.1 ∧ t.1 ≤ 1000 * (t.2.2.length : Int)
theorem Wb.erase {ts : List Tr} (h : Wb ts) (k : Nat) : Wb (ts.eraseIdx k) := fun t ht => h t (List.mem_of_mem_eraseIdx ht)
theorem Wb.at {ts : List Tr} (h : Wb ts) {k : Nat} (hk : k < ts.length) : 0 ≤ (ts.getD k tz).1 ∧ (ts.getD k tz).1 ≤ 1000 * ((ts.getD k tz).2.2.length : Int) := by
  refine h _ ?_
  rw [List.getD_eq_getElem?_getD, List.getElem?_eq_getElem hk]
  exact List.getElem_mem hk
theorem Wb.snoc {ts : List Tr} (h : Wb ts) {t : Tr} (ht : 0 ≤ t.1 ∧ t.1 ≤ 1000 * (t.2.2.length : Int)) : Wb (ts ++ [t]) := fun u hu => by
  rcases List.mem_append.1 hu with hu | hu
  · exact h u hu
  · obtain rfl : u = t := by simpa using hu
    exact ht
theorem hst_small {D : List Nat} {ts : List Tr} {out : Nat → Nat} (h : Hst D (ts.map hp) out) {k : Nat} (hk : k < ts.length) : (ts.getD k tz).2.2.length ≤ D.length := by
  have := hst_len h (z := hp (ts.getD k tz)) (by
    rw [← hp_at ts hk, List.getD_eq_getElem?_getD, List.getElem?_eq_getElem (by simpa using hk)]
    exact List.getElem_mem _)
  exact this
/-- The lengths are small. -/
theorem dep_small {l : List Int} {D : List Nat} (h : Dep l D) (hl : l.length ≤ 10) (i : Nat) : D.getD i 0 ≤ 9 := by
  have h1 := (dep_kr h 9 (by omega)).1
  by_cases hi : i < D.length
  · have hlen := dep_len h
    have := h1 (l.getD i 0, D.getD i 0) (by
      rw [← zip_at hlen (by omega), List.getD_eq_getElem?_getD, List.getElem?_eq_getElem (by rw [List.length_zip]; omega)]
      exact List.getElem_mem _)
    exact this
  · simp [hi]
end Go.Proofs.YtjllgehhdhcobaaDoor
