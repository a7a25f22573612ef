/-
  Plain mathematics of occurrences where a text, or a word, is joined of two. No condition.
-/
import Derived.Test.YtdlekgockdahfaaOcc
namespace Go.Proofs.Ytdlekgockdahfaa

theorem sg_out (s : ByteArray) (i : Nat) (h : s.size ≤ i) : sg s i = 0 := by
  have h' : s.data.toList.length ≤ i := by rw [Array.length_toList]; exact h
  simp only [sg, List.getD_eq_getElem?_getD, List.getElem?_eq_none h', Option.getD_none]
theorem size_join (a b : ByteArray) : (a ++ b).size = a.size + b.size := ByteArray.size_append
theorem sg_left (a b : ByteArray) (i : Nat) (h : i < a.size) : sg (a ++ b) i = sg a i := by
  rw [sg_eq _ _ (by rw [size_join]; omega), sg_eq _ _ h, ByteArray.getElem_append_left h]
theorem sg_right (a b : ByteArray) (i : Nat) (h : i < b.size) : sg (a ++ b) (a.size + i) = sg b i := by
  rw [sg_eq _ _ (by rw [size_join]; omega), sg_eq _ _ h, ByteArray.getElem_append_right (by omega)]
  congr 1; omega

/-- What does not lie over the cut. -/
def keepB (na m x : Int) : Bool := decide (x + m ≤ na) || decide (na ≤ x)
theorem oc_left (a b u : ByteArray) (i : Nat) (h : i + u.size ≤ a.size) : ocB (sg (a ++ b)) (sg u) (a ++ b).size u.size i = ocB (sg a) (sg u) a.size u.size i := by
  rw [Bool.eq_iff_iff, ocB_iff, ocB_iff]
  have hs := size_join a b
  constructor
  · intro ho
    refine ⟨h, fun j hj => ?_⟩
    rw [ho.2 j hj, sg_left a b _ (by omega)]
  · intro ho
    refine ⟨by omega, fun j hj => ?_⟩
    rw [ho.2 j hj, sg_left a b _ (by omega)]
theorem oc_right (a b u : ByteArray) (i : Nat) : ocB (sg (a ++ b)) (sg u) (a ++ b).size u.size (a.size + i) = ocB (sg b) (sg u) b.size u.size i := by
  rw [Bool.eq_iff_iff, ocB_iff, ocB_iff]
  have hs := size_join a b
  constructor
  · intro ho
    have h1 := ho.1
    refine ⟨by omega, fun j hj => ?_⟩
    rw [ho.2 j hj, ← sg_right a b (i + j) (by omega)]; congr 1; omega
  · intro ho
    have h1 := ho.1
    refine ⟨by omega, fun j hj => ?_⟩
    rw [ho.2 j hj, ← sg_right a b (i + j) (by omega)]; congr 1; omega
/-- Where a text is cut, nothing is lost but what lies over the cut. -/
theorem occ_cut (a b u : ByteArray) : (occL (a ++ b) u).filter (keepB a.size u.size) = occL a u ++ (occL b u).map (· + (a.size : Int)) := by
  unfold occL occTo occN
  rw [size_join, List.range_add, List.filter_append, List.map_append, List.filter_append]
  congr 1
  · rw [List.filter_map, List.filter_filter]
    congr 1
    refine filter_range_congr _ _ _ fun i hi => ?_
    simp only [Function.comp_def, keepB]
    by_cases h : i + u.size ≤ a.size
    · rw [← size_join a b, oc_left a b u i h]
      simp [show (i : Int) + u.size ≤ a.size by omega]
    · rw [ocB_no (n := a.size) fun ho => h ho.1]
      simp [show ¬ (i : Int) + u.size ≤ a.size by omega, show ¬ (a.size : Int) ≤ i by omega]
  · rw [List.filter_map, List.filter_map, List.filter_map, List.map_map, List.map_map, List.filter_filter]
    have e : (List.range b.size).filter (fun i => ((keepB a.size u.size ∘ fun i => ((i : Nat) : Int)) ∘ fun x => a.size + x) i && ((fun i => ocB (sg (a ++ b)) (sg u) (a.size + b.size) u.size i) ∘ fun x => a.size + x) i) = (List.range b.size).filter (fun i => ocB (sg b) (sg u) b.size u.size i) := by
      refine filter_range_congr _ _ _ fun i hi => ?_
      simp only [Function.comp_def, keepB]
      rw [← size_join a b, oc_right a b u i]
      simp
      omega
    rw [e]
    refine List.map_congr_left fun i _ => ?_
    simp only [Function.comp_def]; omega

/-- A word that is joined of two stands where the first one does, and behind it the second one. -/
theorem oc_join (t a b : ByteArray) (i : Nat) : ocB (sg t) (sg (a ++ b)) t.size (a ++ b).size i = (ocB (sg t) (sg a) t.size a.size i && ocB (sg t) (sg b) t.size b.size (i + a.size)) := by
  rw [Bool.eq_iff_iff, Bool.and_eq_true, ocB_iff, ocB_iff, ocB_iff]
  have hs := size_join a b
  constructor
  · intro ho
    have h1 := ho.1
    refine ⟨⟨by omega, fun j hj => ?_⟩, by omega, fun j hj => ?_⟩
    · rw [← sg_left a b j hj, ho.2 j (by omega)]
    · rw [← sg_right a b j hj, ho.2 _ (by omega)]; congr 1; omega
  · rintro ⟨ha, hb⟩
    have h1 := ha.1; have h2 := hb.1
    refine ⟨by omega, fun j hj => ?_⟩
    by_cases h : j < a.size
    · rw [sg_left a b j h, ha.2 j h]
    · obtain ⟨k, rfl⟩ : ∃ k, j = a.size + k := ⟨j - a.size, by omega⟩
      rw [sg_right a b k (by omega), hb.2 k (by omega)]; congr 1; omega

/-- How often a number stands in a list; how many pairs lie so far apart. -/
def cnt (ys : List Int) (v : Int) : Nat := ys.countP fun y => decide (y = v)
def prs (na : Int) (xs ys : List Int) : Nat := (xs.map fun x => cnt ys (x + na)).sum
theorem cnt_nil (v : Int) : cnt [] v = 0 := rfl
theorem cnt_yes {ys : List Int} {y v : Int} (h : y = v) : cnt (ys ++ [y]) v = cnt ys v + 1 := by simp [cnt, h]
theorem cnt_no {ys : List Int} {y v : Int} (h : y ≠ v) : cnt (ys ++ [y]) v = cnt ys v := by simp [cnt, h]
theorem cnt_le (ys : List Int) (v : Int) : cnt ys v ≤ ys.length := List.countP_le_length
theorem prs_nil (na : Int) (ys : List Int) : prs na [] ys = 0 := rfl
theorem prs_succ (na : Int) (xs ys : List Int) (x : Int) : prs na (xs ++ [x]) ys = prs na xs ys + cnt ys (x + na) := by simp [prs]
theorem prs_le (na : Int) (xs ys : List Int) : prs na xs ys ≤ xs.length * ys.length := by
  unfold prs
  induction xs with
  | nil => simp
  | cons x xs ih =>
    have := cnt_le ys (x + na)
    simp only [List.map_cons, List.sum_cons, List.length_cons, Nat.add_mul, Nat.one_mul] at ih ⊢
    omega
theorem cnt_rise {ys : List Int} (h : ys.Pairwise (· < ·)) (v : Int) : cnt ys v = if v ∈ ys then 1 else 0 := by
  induction ys with
  | nil => rfl
  | cons y ys ih =>
    rw [List.pairwise_cons] at h
    have ih := ih h.2
    unfold cnt at ih ⊢
    rw [List.countP_cons, ih]
    by_cases e : y = v
    · subst e
      have : y ∉ ys := fun hm => by have := h.1 y hm; omega
      simp [this]
    · simp [e, Ne.symm e]
theorem sum_ite (xs : List Int) (p : Int → Bool) : (xs.map fun x => if p x then 1 else 0).sum = (xs.filter p).length := by
  induction xs with
  | nil => rfl
  | cons x xs ih =>
    rw [List.map_cons, List.sum_cons, ih, List.filter_cons]
    cases p x <;> simp [Nat.add_comm]
theorem occ_in (t b : ByteArray) (i na : Nat) (h0 : 0 < b.size) : decide (((i : Nat) : Int) + na ∈ occL t b) = ocB (sg t) (sg b) t.size b.size (i + na) := by
  rw [Bool.eq_iff_iff, decide_eq_true_eq]
  constructor
  · intro h
    obtain ⟨p, e, _, ho⟩ := mem_occTo h
    rw [show i + na = p by omega]; exact ocB_iff.2 ho
  · intro h
    have ho := (ocB_iff.1 h).1
    simp only [occL, occTo, occN, List.mem_map, List.mem_filter, List.mem_range]
    exact ⟨i + na, ⟨by omega, h⟩, by omega⟩
theorem occ_word (t a b : ByteArray) (h0 : 0 < b.size) : occL t (a ++ b) = (occL t a).filter fun x => decide (x + (a.size : Int) ∈ occL t b) := by
  have e : occL t (a ++ b) = ((List.range t.size).filter fun i => ocB (sg t) (sg a) t.size a.size i && ocB (sg t) (sg b) t.size b.size (i + a.size)).map fun i => ((i : Nat) : Int) := by
    unfold occL occTo occN
    rw [filter_range_congr _ _ _ fun i _ => oc_join t a b i]
  have e2 : occL t a = ((List.range t.size).filter fun i => ocB (sg t) (sg a) t.size a.size i).map fun i => ((i : Nat) : Int) := rfl
  rw [e, e2, List.filter_map, List.filter_filter]
  congr 1
  refine filter_range_congr _ _ _ fun i _ => ?_
  simp only [Function.comp_def]
  rw [occ_in t b i a.size h0, Bool.and_comm]
theorem prs_all (t a b : ByteArray) (h0 : 0 < b.size) : prs a.size (occL t a) (occL t b) = (occL t (a ++ b)).length := by
  rw [occ_word t a b h0, ← sum_ite, prs]
  congr 1
  refine List.map_congr_left fun x _ => ?_
  rw [cnt_rise (ys := occL t b) (occTo_rise _ _ _ _ _)]
  by_cases h : x + (a.size : Int) ∈ occL t b
  · rw [if_pos h, if_pos (by simpa using h)]
  · rw [if_neg h, if_neg (by simpa using h)]
theorem len_first (t a b : ByteArray) (h0 : 0 < b.size) : (occL t (a ++ b)).length ≤ (occL t a).length := by
  rw [occ_word t a b h0]; exact List.length_filter_le _ _
theorem len_second (t a b : ByteArray) (h0 : 0 < b.size) : (occL t (a ++ b)).length ≤ (occL t b).length := by
  have e1 : (occL t (a ++ b)).length = (List.range t.size).countP fun i => ocB (sg t) (sg a) t.size a.size i && ocB (sg t) (sg b) t.size b.size (i + a.size) := by
    unfold occL occTo occN
    rw [List.length_map, ← List.countP_eq_length_filter]
    exact congrArg (List.countP · _) (funext fun i => oc_join t a b i)
  have e2 : (occL t b).length = (List.range t.size).countP fun i => ocB (sg t) (sg b) t.size b.size i := by
    unfold occL occTo occN
    rw [List.length_map, ← List.countP_eq_length_filter]
  have e3 : (List.range (a.size + t.size)).countP (fun i => ocB (sg t) (sg b) t.size b.size i) = (List.range t.size).countP fun i => ocB (sg t) (sg b) t.size b.size i := by
    rw [List.countP_eq_length_filter, List.countP_eq_length_filter, filter_range_stop _ t.size (a.size + t.size) (by omega)]
    intro k h1 _
    exact ocB_no fun ho => by have := ho.1; omega
  rw [e1, e2, ← e3, List.range_add, List.countP_append, List.countP_map]
  refine Nat.le_trans (List.countP_mono_left fun i _ h => ?_) (Nat.le_add_left _ _)
  simp only [Bool.and_eq_true, Function.comp_def] at h ⊢
  rw [Nat.add_comm]; exact h.2
end Go.Proofs.Ytdlekgockdahfaa
