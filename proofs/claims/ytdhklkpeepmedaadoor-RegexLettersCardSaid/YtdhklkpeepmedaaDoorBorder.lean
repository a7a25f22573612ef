/-
  Plain mathematics of borders, without a program: borders of borders, the longest border of each beginning, how it grows, and borders from the end. No condition.
-/
namespace Go.Proofs.YtdhklkpeepmedaaDoor

/-- Of the first m signs, k are a border (a proper one). -/
def Bd (f : Nat → UInt8) (m k : Nat) : Prop := k < m ∧ ∀ j, j < k → f j = f (m - k + j)
def bdB (f : Nat → UInt8) (m k : Nat) : Bool := decide (k < m) && (List.range k).all fun j => f j == f (m - k + j)
theorem bdB_iff {f : Nat → UInt8} {m k : Nat} : bdB f m k = true ↔ Bd f m k := by simp [bdB, Bd]

theorem bd_zero {f : Nat → UInt8} {m : Nat} (h : 0 < m) : Bd f m 0 := ⟨h, fun j hj => absurd hj (by omega)⟩
theorem bd_trans {f : Nat → UInt8} {m k j : Nat} (h : Bd f m k) (h' : Bd f k j) : Bd f m j := by
  refine ⟨by have := h.1; have := h'.1; omega, fun i hi => ?_⟩
  have h1 := h.1; have h2 := h'.1
  rw [h'.2 i hi, h.2 (k - j + i) (by omega)]
  congr 1; omega
theorem bd_nest {f : Nat → UInt8} {m k j : Nat} (h : Bd f m k) (h' : Bd f m j) (hlt : j < k) : Bd f k j := by
  refine ⟨hlt, fun i hi => ?_⟩
  have h1 := h.1; have h2 := h'.1
  rw [h'.2 i hi, h.2 (k - j + i) (by omega)]
  congr 1; omega
theorem bd_pred {f : Nat → UInt8} {m k : Nat} (h : Bd f (m + 1) (k + 1)) : Bd f m k := by
  refine ⟨by have := h.1; omega, fun i hi => ?_⟩
  have h1 := h.1
  rw [h.2 i (by omega)]
  congr 1; omega
theorem bd_last {f : Nat → UInt8} {m k : Nat} (h : Bd f (m + 1) (k + 1)) : f k = f m := by
  have h1 := h.1
  rw [h.2 k (by omega)]
  congr 1; omega
theorem bd_succ {f : Nat → UInt8} {m k : Nat} (h : Bd f m k) (e : f k = f m) : Bd f (m + 1) (k + 1) := by
  have h1 := h.1
  refine ⟨by omega, fun i hi => ?_⟩
  by_cases hik : i = k
  · subst hik; rw [e]; congr 1; omega
  · rw [h.2 i (by omega)]; congr 1; omega

/-- The greatest border of m signs that has at most k. -/
def top (f : Nat → UInt8) (m : Nat) : Nat → Nat
  | 0 => 0
  | k + 1 => if bdB f m (k + 1) then k + 1 else top f m k
/-- The longest border of the first m signs. -/
def lon (f : Nat → UInt8) (m : Nat) : Nat := top f m (m - 1)

theorem top_le (f : Nat → UInt8) (m k : Nat) : top f m k ≤ k := by
  induction k with
  | zero => exact Nat.le_refl _
  | succ k ih => unfold top; split <;> omega
theorem top_bd {f : Nat → UInt8} {m : Nat} (h : 0 < m) (k : Nat) : Bd f m (top f m k) := by
  induction k with
  | zero => exact bd_zero h
  | succ k ih =>
    unfold top
    split
    · exact bdB_iff.1 ‹_›
    · exact ih
theorem top_max {f : Nat → UInt8} {m k j : Nat} (h : Bd f m j) (hj : j ≤ k) : j ≤ top f m k := by
  induction k with
  | zero => omega
  | succ k ih =>
    unfold top
    split
    · exact hj
    · rename_i hn
      have : j ≠ k + 1 := by rintro rfl; exact hn (bdB_iff.2 h)
      exact ih (by omega)
theorem lon_bd {f : Nat → UInt8} {m : Nat} (h : 0 < m) : Bd f m (lon f m) := top_bd h _
theorem lon_max {f : Nat → UInt8} {m j : Nat} (h : Bd f m j) : j ≤ lon f m := top_max h (by have := h.1; omega)
theorem lon_lt {f : Nat → UInt8} {m : Nat} (h : 0 < m) : lon f m < m := (lon_bd h).1
theorem lon_eq {f : Nat → UInt8} {m k : Nat} (h : Bd f m k) (hm : ∀ j, Bd f m j → j ≤ k) : lon f m = k :=
  Nat.le_antisymm (hm _ (lon_bd (by have := h.1; omega))) (lon_max h)
theorem lon_one (f : Nat → UInt8) : lon f 1 = 0 := rfl

/-- The search's state: l is a border of i signs, and no border of i + 1 signs is longer than l + 1. -/
def St (f : Nat → UInt8) (i l : Nat) : Prop := Bd f i l ∧ ∀ k, Bd f (i + 1) k → k ≤ l + 1
theorem st_start {f : Nat → UInt8} {i : Nat} (h : 0 < i) : St f i (lon f i) := by
  refine ⟨lon_bd h, fun k hk => ?_⟩
  rcases k with _ | k
  · omega
  · have := lon_max (bd_pred hk); omega
theorem st_step {f : Nat → UInt8} {i l : Nat} (h : St f i l) (hl : 0 < l) (hne : f l ≠ f i) : St f i (lon f l) := by
  refine ⟨bd_trans h.1 (lon_bd hl), fun k hk => ?_⟩
  rcases k with _ | k
  · omega
  · have h1 := h.2 _ hk
    have h2 : k ≠ l := by rintro rfl; exact hne (bd_last hk)
    have := lon_max (bd_nest h.1 (bd_pred hk) (by omega))
    omega
theorem st_hit {f : Nat → UInt8} {i l : Nat} (h : St f i l) (e : f l = f i) : lon f (i + 1) = l + 1 := lon_eq (bd_succ h.1 e) h.2
theorem st_miss {f : Nat → UInt8} {i : Nat} (h : St f i 0) (hne : f 0 ≠ f i) : lon f (i + 1) = 0 := by
  refine lon_eq (bd_zero (by omega)) fun j hj => ?_
  rcases j with _ | j
  · omega
  · have h1 := h.2 _ hj
    have : j = 0 := by omega
    subst this
    exact absurd (bd_last hj) hne

theorem lon_grow (f : Nat → UInt8) (m : Nat) : lon f (m + 1) ≤ lon f m + 1 := by
  have h := lon_bd (f := f) (m := m + 1) (by omega)
  generalize lon f (m + 1) = k at h
  rcases k with _ | k
  · omega
  · have := lon_max (bd_pred h); omega
theorem lon_sign {f : Nat → UInt8} {m : Nat} (h : 0 < lon f (m + 1)) : f (lon f (m + 1) - 1) = f m := by
  have hb := lon_bd (f := f) (m := m + 1) (by omega)
  generalize lon f (m + 1) = k at h hb ⊢
  rcases k with _ | k
  · omega
  · exact bd_last hb

/-- All borders but the empty one, rising. -/
def eds (f : Nat → UInt8) (m : Nat) : List Nat := (List.range m).filter fun k => decide (0 < k) && bdB f m k
theorem mem_eds {f : Nat → UInt8} {m k : Nat} : k ∈ eds f m ↔ 0 < k ∧ Bd f m k := by
  simp only [eds, List.mem_filter, List.mem_range, Bool.and_eq_true, decide_eq_true_eq, bdB_iff]
  exact ⟨fun h => h.2, fun h => ⟨h.2.1, h⟩⟩

theorem filter_range_stop (p : Nat → Bool) (a : Nat) : ∀ b, a ≤ b → (∀ k, a ≤ k → k < b → p k = false) → (List.range b).filter p = (List.range a).filter p := by
  intro b
  induction b with
  | zero => intro h _; have : a = 0 := by omega
            subst this; rfl
  | succ b ih =>
    intro hab h
    by_cases e : a = b + 1
    · subst e; rfl
    · rw [List.range_succ, List.filter_append, ih (by omega) (fun k h1 h2 => h k h1 (by omega))]
      simp [h b (by omega) (by omega)]
theorem filter_range_congr (p q : Nat → Bool) (b : Nat) (h : ∀ k, k < b → p k = q k) : (List.range b).filter p = (List.range b).filter q :=
  List.filter_congr fun k hk => h k (by simpa using hk)

/-- The borders of a text are those of its longest one, and that one. -/
theorem eds_chain {f : Nat → UInt8} {m : Nat} (h : 0 < lon f m) : eds f m = eds f (lon f m) ++ [lon f m] := by
  have hm : 0 < m := by
    rcases m with _ | m
    · simp [lon, top] at h
    · omega
  have hb := lon_bd (f := f) hm
  have hlt := hb.1
  unfold eds
  rw [filter_range_stop _ (lon f m + 1) m (by omega), List.range_succ, List.filter_append]
  · congr 1
    · refine filter_range_congr _ _ _ fun k hk => ?_
      by_cases hk0 : 0 < k
      · simp only [hk0, decide_true, Bool.true_and]
        rw [Bool.eq_iff_iff, bdB_iff, bdB_iff]
        exact ⟨fun h' => bd_nest hb h' hk, fun h' => bd_trans hb h'⟩
      · simp [hk0]
    · simp [h, bdB_iff.2 hb]
  · intro k h1 h2
    have : bdB f m k = false := by
      rw [← Bool.not_eq_true, bdB_iff]
      intro hk
      have := lon_max hk
      omega
    simp [this]
theorem eds_none {f : Nat → UInt8} {m : Nat} (h : lon f m = 0) : eds f m = [] := by
  rw [List.eq_nil_iff_forall_not_mem]
  intro k hk
  have ⟨h1, h2⟩ := mem_eds.1 hk
  have := lon_max h2
  omega

/-- The borders that the search has still to tell, at l. -/
def edsAt (f : Nat → UInt8) (l : Nat) : List Nat := if l = 0 then [] else eds f l ++ [l]
theorem edsAt_start {f : Nat → UInt8} {m : Nat} : edsAt f (lon f m) = eds f m := by
  unfold edsAt
  split
  · rw [eds_none ‹_›]
  · rw [← eds_chain (by omega)]
theorem edsAt_step {f : Nat → UInt8} {l : Nat} (h : 0 < l) : edsAt f l = edsAt f (lon f l) ++ [l] := by
  rw [edsAt_start]
  unfold edsAt
  rw [if_neg (by omega)]
theorem eds_len (f : Nat → UInt8) (m : Nat) : (eds f m).length ≤ m := by
  unfold eds
  have := List.length_filter_le (fun k => decide (0 < k) && bdB f m k) (List.range m)
  simpa using this
/-- What is gathered at l, the longest first. -/
def Got (f : Nat → UInt8) (m l : Nat) (cs : List Int) : Prop := ∃ c : List Nat, cs = c.map (fun k => ((k : Nat) : Int)) ∧ eds f m = edsAt f l ++ c.reverse
theorem got_start (f : Nat → UInt8) (m : Nat) : Got f m (lon f m) [] := ⟨[], rfl, by rw [edsAt_start]; simp⟩
theorem got_step {f : Nat → UInt8} {m l : Nat} {cs : List Int} (h : Got f m l cs) (hl : 0 < l) : Got f m (lon f l) (cs ++ [(l : Int)]) := by
  obtain ⟨c, rfl, e⟩ := h
  exact ⟨c ++ [l], by simp, by rw [e, edsAt_step hl]; simp⟩
theorem got_end {f : Nat → UInt8} {m : Nat} {cs : List Int} (h : Got f m 0 cs) : cs.reverse = (eds f m).map fun k => ((k : Nat) : Int) := by
  obtain ⟨c, rfl, e⟩ := h
  rw [e]; simp [edsAt]
theorem got_len {f : Nat → UInt8} {m l : Nat} {cs : List Int} (h : Got f m l cs) : cs.length ≤ m := by
  obtain ⟨c, rfl, e⟩ := h
  have := eds_len f m
  rw [e] at this
  simp at this ⊢
  omega

/-- Only the first m signs matter. -/
theorem bd_congr {f g : Nat → UInt8} {m k : Nat} (h : ∀ i, i < m → f i = g i) (hb : Bd f m k) : Bd g m k := by
  refine ⟨hb.1, fun j hj => ?_⟩
  have := hb.1
  rw [← h j (by omega), ← h (m - k + j) (by omega)]
  exact hb.2 j hj
theorem eds_congr {f g : Nat → UInt8} {m : Nat} (h : ∀ i, i < m → f i = g i) : eds f m = eds g m := by
  refine filter_range_congr _ _ _ fun k _ => ?_
  congr 1
  rw [Bool.eq_iff_iff, bdB_iff, bdB_iff]
  exact ⟨bd_congr h, bd_congr fun i hi => (h i hi).symm⟩
/-- From its end a text has borders as long. -/
theorem bd_back {f g : Nat → UInt8} {m k : Nat} (h : ∀ i, i < m → g i = f (m - 1 - i)) (hb : Bd f m k) : Bd g m k := by
  refine ⟨hb.1, fun j hj => ?_⟩
  have := hb.1
  rw [h j (by omega), h (m - k + j) (by omega)]
  have e := hb.2 (k - 1 - j) (by omega)
  have e1 : m - 1 - (m - k + j) = k - 1 - j := by omega
  have e2 : m - k + (k - 1 - j) = m - 1 - j := by omega
  rw [e1, e, e2]
theorem eds_back {f g : Nat → UInt8} {m : Nat} (h : ∀ i, i < m → g i = f (m - 1 - i)) : eds g m = eds f m := by
  refine filter_range_congr _ _ _ fun k _ => ?_
  congr 1
  rw [Bool.eq_iff_iff, bdB_iff, bdB_iff]
  refine ⟨bd_back fun i hi => ?_, bd_back h⟩
  rw [h (m - 1 - i) (by omega)]
  congr 1; omega

/-- The signs of a text. -/
def sg (s : ByteArray) (i : Nat) : UInt8 := s.data.toList.getD i 0
theorem sg_eq (s : ByteArray) (i : Nat) (h : i < s.size) : sg s i = s[i] := by
  have h' : i < s.data.size := h
  simp only [sg, List.getD_eq_getElem?_getD, Array.getElem?_toList, Array.getElem?_eq_getElem h', Option.getD_some]
  rfl
/-- What 'Of' answers. -/
def ofL (s : ByteArray) (n : Nat) : List Int := (List.range n).map fun i => ((lon (sg s) (i + 1) : Nat) : Int)
/-- What 'All' answers. -/
def allL (s : ByteArray) : List Int := (eds (sg s) s.size).map fun k => ((k : Nat) : Int)
theorem all_len (s : ByteArray) : (allL s).length ≤ s.size := by simpa [allL] using eds_len (sg s) s.size
theorem sg_cut (s : ByteArray) (a b i : Nat) (hb : b ≤ s.size) (h : i < b - a) : sg (s.extract a b) i = sg s (a + i) := by
  rw [sg_eq _ _ (by rw [ByteArray.size_extract]; omega), sg_eq _ _ (by omega), ByteArray.getElem_extract]
theorem all_cut (s : ByteArray) (k : Nat) (h : k ≤ s.size) : (eds (sg s) k).map (fun j => ((j : Nat) : Int)) = allL (s.extract 0 k) := by
  unfold allL
  have e : (s.extract 0 k).size = k := by rw [ByteArray.size_extract]; omega
  rw [e, eds_congr (g := sg (s.extract 0 k)) fun i hi => by rw [sg_cut s 0 k i h (by omega), Nat.zero_add]]
theorem ofL_len (s : ByteArray) (n : Nat) : (ofL s n).length = n := by simp [ofL]
theorem ofL_get (s : ByteArray) (n j : Nat) (h : j < n) : (ofL s n).getD j 0 = ((lon (sg s) (j + 1) : Nat) : Int) := by simp [ofL, h]
/-- The borders shorter than k. -/
def edsTo (f : Nat → UInt8) (m k : Nat) : List Int := ((List.range k).filter fun j => decide (0 < j) && bdB f m j).map fun j => ((j : Nat) : Int)
theorem edsTo_one (f : Nat → UInt8) (m : Nat) : edsTo f m 1 = [] := by simp [edsTo]
theorem edsTo_yes {f : Nat → UInt8} {m k : Nat} (h0 : 0 < k) (h : Bd f m k) : edsTo f m (k + 1) = edsTo f m k ++ [(k : Int)] := by
  simp [edsTo, List.range_succ, h0, bdB_iff.2 h]
theorem edsTo_no {f : Nat → UInt8} {m k : Nat} (h : ¬ Bd f m k) : edsTo f m (k + 1) = edsTo f m k := by
  have : bdB f m k = false := by rw [← Bool.not_eq_true, bdB_iff]; exact h
  simp [edsTo, List.range_succ, this]
theorem edsTo_len (f : Nat → UInt8) (m k : Nat) : (edsTo f m k).length ≤ k := by
  have := List.length_filter_le (fun j => decide (0 < j) && bdB f m j) (List.range k)
  simpa [edsTo] using this
theorem edsTo_all (s : ByteArray) : edsTo (sg s) s.size s.size = allL s := rfl
theorem edsTo_end (s : ByteArray) (k : Nat) (hk : k ≤ s.size ∨ k = 1) (hlt : ¬ k < s.size) : edsTo (sg s) s.size k = allL s := by
  rcases hk with hk | hk
  · rw [show k = s.size by omega]; rfl
  · subst hk
    rcases Nat.eq_zero_or_pos s.size with e | e
    · rw [edsTo_one]; simp [allL, e, eds]
    · rw [show s.size = 1 by omega, edsTo_one]; simp [allL, show s.size = 1 by omega, eds]

end Go.Proofs.YtdhklkpeepmedaaDoor
