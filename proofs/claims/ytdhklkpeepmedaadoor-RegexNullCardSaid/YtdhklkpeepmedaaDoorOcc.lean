/-
  Plain mathematics of occurrences, without a program: where a word stands in a text, the longest beginning of it that a text ends with, places that are near, texts and words that are joined. No condition.
-/
import Derived.Test.YtdhklkpeepmedaaDoorBorder
namespace Go.Proofs.YtdhklkpeepmedaaDoor

/-- The word g (m signs) stands at place i of the text f (n signs). -/
def Oc (f g : Nat → UInt8) (n m i : Nat) : Prop := i + m ≤ n ∧ ∀ j, j < m → g j = f (i + j)
def ocB (f g : Nat → UInt8) (n m i : Nat) : Bool := decide (i + m ≤ n) && (List.range m).all fun j => g j == f (i + j)
theorem ocB_iff {f g : Nat → UInt8} {n m i : Nat} : ocB f g n m i = true ↔ Oc f g n m i := by simp [ocB, Oc]
theorem ocB_no {f g : Nat → UInt8} {n m i : Nat} (h : ¬ Oc f g n m i) : ocB f g n m i = false := by rw [← Bool.not_eq_true, ocB_iff]; exact h
/-- All places below k. -/
def occN (f g : Nat → UInt8) (n m k : Nat) : List Nat := (List.range k).filter fun i => ocB f g n m i
def occTo (f g : Nat → UInt8) (n m k : Nat) : List Int := (occN f g n m k).map fun i => ((i : Nat) : Int)
/-- What 'All' answers. -/
def occL (t u : ByteArray) : List Int := occTo (sg t) (sg u) t.size u.size t.size

theorem occTo_zero (f g : Nat → UInt8) (n m : Nat) : occTo f g n m 0 = [] := rfl
theorem occTo_yes {f g : Nat → UInt8} {n m k : Nat} (h : Oc f g n m k) : occTo f g n m (k + 1) = occTo f g n m k ++ [(k : Int)] := by
  simp [occTo, occN, List.range_succ, ocB_iff.2 h]
theorem occTo_no {f g : Nat → UInt8} {n m k : Nat} (h : ¬ Oc f g n m k) : occTo f g n m (k + 1) = occTo f g n m k := by
  simp [occTo, occN, List.range_succ, ocB_no h]
theorem occTo_len (f g : Nat → UInt8) (n m k : Nat) : (occTo f g n m k).length ≤ k := by
  have := List.length_filter_le (fun i => ocB f g n m i) (List.range k)
  simpa [occTo, occN] using this
theorem occL_len (t u : ByteArray) : (occL t u).length ≤ t.size := occTo_len _ _ _ _ _
theorem occTo_end {f g : Nat → UInt8} {n m : Nat} (h : 0 < m) : occTo f g n m (n + 1 - m) = occTo f g n m n := by
  unfold occTo occN
  rw [filter_range_stop _ (n + 1 - m) n (by omega)]
  intro k h1 h2
  exact ocB_no fun ho => by have := ho.1; omega

/-- The text's first i signs end with the word's first k. -/
def Sf (f g : Nat → UInt8) (i k : Nat) : Prop := k ≤ i ∧ ∀ j, j < k → g j = f (i - k + j)
/-- l: the most of the word's m signs that the text's first i signs end with. -/
def Mat (f g : Nat → UInt8) (m i l : Nat) : Prop := l ≤ m ∧ Sf f g i l ∧ ∀ k, k ≤ m → Sf f g i k → k ≤ l
/-- The search's state at the sign i. -/
def Ex (f g : Nat → UInt8) (m i l : Nat) : Prop := l ≤ m ∧ Sf f g i l ∧ ∀ k, k ≤ m → Sf f g (i + 1) k → k ≤ l + 1
theorem sf_pred {f g : Nat → UInt8} {i k : Nat} (h : Sf f g (i + 1) (k + 1)) : Sf f g i k := by
  have h1 := h.1
  refine ⟨by omega, fun j hj => ?_⟩
  rw [h.2 j (by omega)]; congr 1; omega
theorem sf_last {f g : Nat → UInt8} {i k : Nat} (h : Sf f g (i + 1) (k + 1)) : g k = f i := by
  have h1 := h.1
  rw [h.2 k (by omega)]; congr 1; omega
theorem sf_succ {f g : Nat → UInt8} {i k : Nat} (h : Sf f g i k) (e : g k = f i) : Sf f g (i + 1) (k + 1) := by
  have h1 := h.1
  refine ⟨by omega, fun j hj => ?_⟩
  by_cases hjk : j = k
  · subst hjk; rw [e]; congr 1; omega
  · rw [h.2 j (by omega)]; congr 1; omega
theorem sf_bd {f g : Nat → UInt8} {i l k : Nat} (h : Sf f g i l) (hb : Bd g l k) : Sf f g i k := by
  have h1 := h.1; have h2 := hb.1
  refine ⟨by omega, fun j hj => ?_⟩
  rw [hb.2 j hj, h.2 _ (by omega)]; congr 1; omega
theorem sf_nest {f g : Nat → UInt8} {i l k : Nat} (h : Sf f g i l) (h' : Sf f g i k) (hlt : k < l) : Bd g l k := by
  have h1 := h.1; have h2 := h'.1
  refine ⟨hlt, fun j hj => ?_⟩
  rw [h'.2 j hj, h.2 _ (by omega)]; congr 1; omega
theorem sf_zero {f g : Nat → UInt8} (i : Nat) : Sf f g i 0 := ⟨by omega, fun j hj => absurd hj (by omega)⟩
theorem ex_start {f g : Nat → UInt8} {m i l : Nat} (h : Mat f g m i l) : Ex f g m i l := by
  refine ⟨h.1, h.2.1, fun k hk hs => ?_⟩
  rcases k with _ | k
  · omega
  · have := h.2.2 k (by omega) (sf_pred hs); omega
theorem ex_step {f g : Nat → UInt8} {m i l : Nat} (h : Ex f g m i l) (h0 : 0 < l) (hne : l = m ∨ g l ≠ f i) : Ex f g m i (lon g l) := by
  have hlt := lon_lt (f := g) h0
  refine ⟨by have := h.1; omega, sf_bd h.2.1 (lon_bd h0), fun k hk hs => ?_⟩
  rcases k with _ | k
  · omega
  · have h1 := h.2.2 _ hk hs
    have h2 : k ≠ l := by
      rintro rfl
      rcases hne with e | e
      · omega
      · exact e (sf_last hs)
    have := lon_max (sf_nest h.2.1 (sf_pred hs) (by omega))
    omega
theorem ex_hit {f g : Nat → UInt8} {m i l : Nat} (h : Ex f g m i l) (hl : l < m) (e : g l = f i) : Mat f g m (i + 1) (l + 1) :=
  ⟨by omega, sf_succ h.2.1 e, h.2.2⟩
theorem ex_miss {f g : Nat → UInt8} {m i : Nat} (h : Ex f g m i 0) (hne : g 0 ≠ f i) : Mat f g m (i + 1) 0 := by
  refine ⟨by omega, sf_zero _, fun k hk hs => ?_⟩
  have h1 := h.2.2 k hk hs
  rcases k with _ | k
  · omega
  · have : k = 0 := by omega
    subst this
    exact absurd (sf_last hs) hne
theorem mat_start (f g : Nat → UInt8) (m : Nat) : Mat f g m 0 0 := ⟨by omega, sf_zero _, fun k _ hs => hs.1⟩
theorem mat_full {f g : Nat → UInt8} {n m i : Nat} (h : Mat f g m i m) (hi : i ≤ n) : m ≤ i ∧ Oc f g n m (i - m) := by
  have h1 := h.2.1.1
  exact ⟨h1, by omega, h.2.1.2⟩
theorem mat_part {f g : Nat → UInt8} {n m i l : Nat} (h : Mat f g m i l) (hl : l ≠ m) (hm : m ≤ i) : ¬ Oc f g n m (i - m) := by
  intro ho
  have := h.2.2 m (Nat.le_refl _) ⟨hm, ho.2⟩
  have := h.1
  omega

/-- The places told behind i signs of the text: one sign more. -/
theorem occ_hit {f g : Nat → UInt8} {n m i : Nat} (h : Mat f g m (i + 1) m) (hi : i < n) (_h0 : 0 < m) : occTo f g n m (i + 1 + 1 - m) = occTo f g n m (i + 1 - m) ++ [((i : Int) + 1 - m)] := by
  obtain ⟨h1, ho⟩ := mat_full (n := n) h hi
  rw [show i + 1 + 1 - m = i + 1 - m + 1 by omega, occTo_yes ho]
  congr 2; omega
theorem occ_miss {f g : Nat → UInt8} {n m i l : Nat} (h : Mat f g m (i + 1) l) (hl : l ≠ m) : occTo f g n m (i + 1 + 1 - m) = occTo f g n m (i + 1 - m) := by
  by_cases hm : m ≤ i + 1
  · rw [show i + 1 + 1 - m = i + 1 - m + 1 by omega, occTo_no (mat_part h hl hm)]
  · rw [show i + 1 + 1 - m = i + 1 - m by omega]

/-- Counting what lies apart: how many so far, and where the last one ended. -/
def apF (m : Int) (p : Int × Int) (x : Int) : Int × Int := if p.2 ≤ x then (p.1 + 1, x + m) else p
def apL (m : Int) (xs : List Int) : Int × Int := xs.foldl (apF m) (0, 0)
theorem apL_nil (m : Int) : apL m [] = (0, 0) := rfl
theorem apL_yes {m x : Int} {xs : List Int} (h : (apL m xs).2 ≤ x) : apL m (xs ++ [x]) = ((apL m xs).1 + 1, x + m) := by
  simp only [apL, List.foldl_append, List.foldl_cons, List.foldl_nil] at h ⊢
  simp [apF, h]
theorem apL_no {m x : Int} {xs : List Int} (h : ¬ (apL m xs).2 ≤ x) : apL m (xs ++ [x]) = apL m xs := by
  simp only [apL, List.foldl_append, List.foldl_cons, List.foldl_nil] at h ⊢
  simp [apF, h]
theorem apF_one (xs : List Int) : ∀ (c e : Int), (∀ x ∈ xs, e ≤ x) → xs.Pairwise (· < ·) → (xs.foldl (apF 1) (c, e)).1 = c + xs.length := by
  induction xs with
  | nil => intro c e _ _; simp
  | cons x xs ih =>
    intro c e he hp
    rw [List.pairwise_cons] at hp
    have hx := he x (by simp)
    rw [List.foldl_cons]
    have : apF 1 (c, e) x = (c + 1, x + 1) := by simp [apF, hx]
    rw [this, ih _ _ (fun y hy => by have := hp.1 y hy; omega) hp.2]
    simp; omega

theorem mem_occTo {f g : Nat → UInt8} {n m k : Nat} {x : Int} (h : x ∈ occTo f g n m k) : ∃ p : Nat, x = p ∧ p < k ∧ Oc f g n m p := by
  simp only [occTo, occN, List.mem_map, List.mem_filter, List.mem_range, ocB_iff] at h
  obtain ⟨p, ⟨h1, h2⟩, rfl⟩ := h
  exact ⟨p, rfl, h1, h2⟩
theorem occTo_rise (f g : Nat → UInt8) (n m k : Nat) : (occTo f g n m k).Pairwise (· < ·) := by
  unfold occTo occN
  rw [List.pairwise_map]
  exact ((List.pairwise_lt_range (n := k)).filter _).imp fun h => by omega
theorem getD_mem {xs : List Int} {i : Nat} (h : i < xs.length) : xs.getD i 0 ∈ xs := by
  simp [List.getD_eq_getElem?_getD, h]
theorem occ_at {t u : ByteArray} {i : Nat} (h : i < (occL t u).length) : ∃ p : Nat, (occL t u).getD i 0 = p ∧ p < t.size ∧ Oc (sg t) (sg u) t.size u.size p := mem_occTo (getD_mem h)
theorem occ_rise {t u : ByteArray} {i j : Nat} (h : j < (occL t u).length) (hij : i < j) : (occL t u).getD i 0 < (occL t u).getD j 0 := by
  have hp := occTo_rise (sg t) (sg u) t.size u.size t.size
  have := List.pairwise_iff_getElem.1 hp i j (by have : j < (occTo (sg t) (sg u) t.size u.size t.size).length := h; omega) h hij
  have h2 : i < (occL t u).length := by omega
  simp only [List.getD_eq_getElem?_getD, List.getElem?_eq_getElem h, List.getElem?_eq_getElem h2, Option.getD_some]
  exact this
theorem ap_one (t u : ByteArray) : (apL 1 (occL t u)).1 = (occL t u).length := by
  have := apF_one (occL t u) 0 0 (fun x hx => by obtain ⟨p, rfl, _⟩ := mem_occTo hx; omega) (occTo_rise _ _ _ _ _)
  rw [apL, this]; omega

/-- k is a period of m signs. -/
def Pd (g : Nat → UInt8) (m k : Nat) : Prop := ∀ i, k ≤ i → i < m → g i = g (i - k)
theorem near {f g : Nat → UInt8} {n m p q : Nat} (hp : Oc f g n m p) (hq : Oc f g n m q) (hlt : p < q) : Pd g m (q - p) := by
  intro i h1 h2
  rw [hp.2 i h2, hq.2 (i - (q - p)) (by omega)]
  congr 1; omega

/-- The places of one byte: of the first i signs. -/
theorem occTo_split {f g : Nat → UInt8} {n m i : Nat} (hi : i < n) (h : Oc f g n m i) : (occTo f g n m i).length < (occTo f g n m n).length ∧ (occTo f g n m n).getD (occTo f g n m i).length 0 = (i : Int) := by
  have e : occTo f g n m n = occTo f g n m i ++ ((i : Int) :: (((List.range (n - (i + 1))).map (i + 1 + ·)).filter fun i => ocB f g n m i).map fun i => ((i : Nat) : Int)) := by
    unfold occTo occN
    conv => lhs; rw [show n = i + 1 + (n - (i + 1)) by omega, List.range_add, List.range_succ]
    rw [show i + 1 + (n - (i + 1)) = n by omega]
    simp [ocB_iff.2 h]
  rw [e]
  constructor
  · simp
  · simp [List.getD_eq_getElem?_getD]
end Go.Proofs.YtdhklkpeepmedaaDoor
