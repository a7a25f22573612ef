/-
  Plain mathematics of periods, without a program: a period and the border that is left, all periods in their order, multiples of a period, parts of a text, and two periods that fit together (Fine and Wilf). No condition.
-/
import Derived.Test.YtlklhgapnenekaaDoorStr
import Derived.Test.YtlklhgapnenekaaDoorOcc
namespace Go.Proofs.YtlklhgapnenekaaDoor

/-- A number from 1 to m that is a period of m signs, as a test. -/
def perB (f : Nat → UInt8) (m k : Nat) : Bool := decide (0 < k) && decide (k ≤ m) && (List.range m).all fun i => decide (i < k) || (f i == f (i - k))
theorem perB_iff {f : Nat → UInt8} {m k : Nat} : perB f m k = true ↔ 0 < k ∧ k ≤ m ∧ Pd f m k := by
  simp only [perB, Pd, List.all_eq_true, List.mem_range, Bool.and_eq_true, Bool.or_eq_true, decide_eq_true_eq, beq_iff_eq]
  constructor
  · rintro ⟨⟨h1, h2⟩, h⟩
    exact ⟨h1, h2, fun i a b => (h i b).resolve_left (by omega)⟩
  · rintro ⟨h1, h2, h⟩
    refine ⟨⟨h1, h2⟩, fun i hi => ?_⟩
    by_cases hk : i < k
    · exact .inl hk
    · exact .inr (h i (by omega) hi)
theorem perB_no {f : Nat → UInt8} {m k : Nat} (h : ¬ (0 < k ∧ k ≤ m ∧ Pd f m k)) : perB f m k = false := by
  rw [← Bool.not_eq_true, perB_iff]; exact h
/-- Is the number k (of any sign) a period of the text? -/
def hasB (s : ByteArray) (k : Int) : Bool := decide (0 < k) && perB (sg s) s.size k.toNat
theorem hasB_nat (s : ByteArray) (k : Nat) : hasB s (k : Int) = perB (sg s) s.size k := by
  unfold hasB
  rw [Int.toNat_natCast]
  by_cases h : 0 < k
  · simp [h]
  · simp [perB, show k = 0 by omega]
theorem hasB_iff {s : ByteArray} {k : Int} : hasB s k = true ↔ ∃ p : Nat, k = p ∧ 0 < p ∧ p ≤ s.size ∧ Pd (sg s) s.size p := by
  constructor
  · intro h
    unfold hasB at h
    rw [Bool.and_eq_true, decide_eq_true_eq, perB_iff] at h
    exact ⟨k.toNat, by omega, h.2⟩
  · rintro ⟨p, rfl, h⟩
    rw [hasB_nat, perB_iff]; exact h
theorem hasB_out {s : ByteArray} {k : Int} (h : k < 1 ∨ (s.size : Int) < k) : hasB s k = false := by
  rw [← Bool.not_eq_true, hasB_iff]
  rintro ⟨p, rfl, h1, h2, _⟩
  omega

/-- Without as many signs as a period has, the text is a border. -/
theorem pd_bd {f : Nat → UInt8} {m k : Nat} (h0 : 0 < k) (h1 : k ≤ m) : Pd f m k ↔ Bd f m (m - k) := by
  constructor
  · intro h
    refine ⟨by omega, fun j hj => ?_⟩
    have := h (m - (m - k) + j) (by omega) (by omega)
    rw [this]; congr 1; omega
  · intro h i a b
    have := h.2 (i - k) (by omega)
    rw [this]; congr 1; omega
/-- A text is what it is without its first k signs, as far as that goes, just if k is a period. -/
theorem pd_text (s : ByteArray) (k : Nat) (h : k ≤ s.size) : s.extract 0 (s.size - k) = s.extract k s.size ↔ Pd (sg s) s.size k := by
  constructor
  · intro e i a b
    have h1 := sg_cut s 0 (s.size - k) (i - k) (by omega) (by omega)
    have h2 := sg_cut s k s.size (i - k) (by omega) (by omega)
    rw [e, h2, Nat.zero_add, show k + (i - k) = i by omega] at h1
    exact h1
  · intro hp
    refine text_eq _ _ (by rw [ByteArray.size_extract, ByteArray.size_extract]; omega) fun i hi => ?_
    rw [ByteArray.size_extract] at hi
    rw [sg_cut s 0 _ i (by omega) (by omega), sg_cut s k _ i (by omega) (by omega), hp (k + i) (by omega) (by omega)]
    congr 1; omega

/-- The periods below k, rising. -/
def pdsTo (f : Nat → UInt8) (m k : Nat) : List Int := ((List.range k).filter fun j => perB f m j).map fun j => ((j : Nat) : Int)
theorem pdsTo_one (f : Nat → UInt8) (m : Nat) : pdsTo f m 1 = [] := by simp [pdsTo, perB]
theorem pdsTo_yes {f : Nat → UInt8} {m k : Nat} (h : perB f m k = true) : pdsTo f m (k + 1) = pdsTo f m k ++ [(k : Int)] := by
  simp [pdsTo, List.range_succ, h]
theorem pdsTo_no {f : Nat → UInt8} {m k : Nat} (h : perB f m k = false) : pdsTo f m (k + 1) = pdsTo f m k := by
  simp [pdsTo, List.range_succ, h]
theorem pdsTo_len (f : Nat → UInt8) (m k : Nat) : (pdsTo f m k).length ≤ k := by
  have := List.length_filter_le (fun j => perB f m j) (List.range k)
  simpa [pdsTo] using this

/-- Two rising lists with the same numbers are the same. -/
theorem rise_ext : ∀ (a b : List Int), a.Pairwise (· < ·) → b.Pairwise (· < ·) → (∀ x, x ∈ a ↔ x ∈ b) → a = b := by
  intro a
  induction a with
  | nil =>
    intro b _ _ h
    rcases b with _ | ⟨y, b⟩
    · rfl
    · exact absurd ((h y).2 (by simp)) (by simp)
  | cons x a ih =>
    intro b ha hb h
    rcases b with _ | ⟨y, b⟩
    · exact absurd ((h x).1 (by simp)) (by simp)
    · rw [List.pairwise_cons] at ha hb
      have e : x = y := by
        have h1 := (h x).1 (by simp)
        have h2 := (h y).2 (by simp)
        rcases List.mem_cons.1 h1 with e | e
        · exact e
        · rcases List.mem_cons.1 h2 with e' | e'
          · exact e'.symm
          · have := ha.1 y e'
            have := hb.1 x e
            omega
      subst e
      rw [ih b ha.2 hb.2 fun z => ⟨fun hz => ?_, fun hz => ?_⟩]
      · rcases List.mem_cons.1 ((h z).1 (List.mem_cons_of_mem _ hz)) with e | e
        · have := ha.1 z hz; omega
        · exact e
      · rcases List.mem_cons.1 ((h z).2 (List.mem_cons_of_mem _ hz)) with e | e
        · have := hb.1 z hz; omega
        · exact e

/-- What the borders xs of n signs give: what each leaves, the longest first. -/
def left (n : Nat) (xs : List Int) : List Int := xs.reverse.map fun k => (n : Int) - k
theorem left_len (n : Nat) (xs : List Int) : (left n xs).length = xs.length := by simp [left]
theorem left_snoc (n : Nat) (xs : List Int) (i : Nat) (h : i < xs.length) : left n (xs.drop i) = left n (xs.drop (i + 1)) ++ [(n : Int) - xs.getD i 0] := by
  unfold left
  rw [List.drop_eq_getElem_cons h, List.reverse_cons, List.map_append, List.map_singleton, List.getD_eq_getElem?_getD, List.getElem?_eq_getElem h, Option.getD_some]
theorem left_get (n : Nat) (xs : List Int) (i : Nat) (h : i < xs.length) : (left n xs).getD i 0 = (n : Int) - xs.getD (xs.length - 1 - i) 0 := by
  have h' : xs.length - 1 - i < xs.length := by omega
  simp [left, List.getD_eq_getElem?_getD, h, h']
/-- All periods of a text, rising: what 'All' answers. -/
def perL (s : ByteArray) : List Int := if s.size = 0 then [] else left s.size (allL s) ++ [(s.size : Int)]
theorem perL_none {s : ByteArray} (h : s.size = 0) : perL s = [] := by simp [perL, h]
theorem perL_some {s : ByteArray} (h : s.size ≠ 0) : perL s = left s.size (allL s) ++ [(s.size : Int)] := by simp [perL, h]
theorem perL_len {s : ByteArray} (h : s.size ≠ 0) : (perL s).length = (allL s).length + 1 := by rw [perL_some h]; simp [left]
theorem mem_allL {s : ByteArray} {x : Int} : x ∈ allL s ↔ ∃ k : Nat, x = k ∧ 0 < k ∧ Bd (sg s) s.size k := by
  simp only [allL, List.mem_map, mem_eds]
  exact ⟨fun ⟨k, h, e⟩ => ⟨k, e.symm, h⟩, fun ⟨k, e, h⟩ => ⟨k, h, e.symm⟩⟩
theorem allL_rise (s : ByteArray) : (allL s).Pairwise (· < ·) := by
  unfold allL eds
  rw [List.pairwise_map]
  exact ((List.pairwise_lt_range (n := s.size)).filter _).imp fun h => by omega
theorem pdsTo_rise (f : Nat → UInt8) (m k : Nat) : (pdsTo f m k).Pairwise (· < ·) := by
  unfold pdsTo
  rw [List.pairwise_map]
  exact ((List.pairwise_lt_range (n := k)).filter _).imp fun h => by omega
theorem mem_pdsTo {f : Nat → UInt8} {m k : Nat} {x : Int} : x ∈ pdsTo f m k ↔ ∃ p : Nat, x = p ∧ p < k ∧ 0 < p ∧ p ≤ m ∧ Pd f m p := by
  simp only [pdsTo, List.mem_map, List.mem_filter, List.mem_range, perB_iff]
  exact ⟨fun ⟨p, h, e⟩ => ⟨p, e.symm, h⟩, fun ⟨p, e, h⟩ => ⟨p, h, e.symm⟩⟩
/-- One by one, or from the borders: the same list. -/
theorem pds_all (s : ByteArray) : pdsTo (sg s) s.size (s.size + 1) = perL s := by
  by_cases h0 : s.size = 0
  · rw [perL_none h0, h0, pdsTo_one]
  · rw [perL_some h0]
    refine rise_ext _ _ (pdsTo_rise _ _ _) ?_ fun x => ?_
    · rw [List.pairwise_append]
      refine ⟨?_, by simp, fun a ha b hb => ?_⟩
      · unfold left
        rw [List.pairwise_map, List.pairwise_reverse]
        exact (allL_rise s).imp fun h => by omega
      · simp only [left, List.mem_map, List.mem_reverse] at ha
        obtain ⟨k, hk, rfl⟩ := ha
        obtain ⟨p, rfl, hp, _⟩ := mem_allL.1 hk
        rw [List.mem_singleton.1 hb]; omega
    · rw [mem_pdsTo, List.mem_append, List.mem_singleton]
      simp only [left, List.mem_map, List.mem_reverse]
      constructor
      · rintro ⟨p, rfl, h1, h2, h3, h4⟩
        by_cases e : p = s.size
        · right; omega
        · left
          refine ⟨((s.size - p : Nat) : Int), mem_allL.2 ⟨_, rfl, by omega, (pd_bd h2 h3).1 h4⟩, by omega⟩
      · rintro (⟨k, hk, rfl⟩ | rfl)
        · obtain ⟨p, rfl, hp, hb⟩ := mem_allL.1 hk
          have := hb.1
          refine ⟨s.size - p, by omega, by omega, by omega, by omega, (pd_bd (by omega) (by omega)).2 ?_⟩
          rwa [show s.size - (s.size - p) = p by omega]
        · exact ⟨s.size, rfl, by omega, by omega, by omega, fun i a b => absurd b (by omega)⟩

/-- What 'All' answers, place by place. -/
theorem perL_at {s : ByteArray} (h : s.size ≠ 0) (i : Nat) (hi : i < (allL s).length) : (perL s).getD i 0 = (s.size : Int) - (allL s).getD ((allL s).length - 1 - i) 0 := by
  rw [perL_some h, List.getD_eq_getElem?_getD, List.getElem?_append_left (by rw [left_len]; exact hi), ← List.getD_eq_getElem?_getD, left_get _ _ _ hi]
theorem perL_last {s : ByteArray} (h : s.size ≠ 0) : (perL s).getD (allL s).length 0 = (s.size : Int) := by
  rw [perL_some h, List.getD_eq_getElem?_getD, List.getElem?_append_right (by rw [left_len]; exact Nat.le_refl _), left_len]
  simp
theorem allL_in {s : ByteArray} {i : Nat} (hi : i < (allL s).length) : 0 ≤ (allL s).getD i 0 ∧ (allL s).getD i 0 ≤ (s.size : Int) := by
  obtain ⟨k, e, _, hb⟩ := mem_allL.1 (getD_mem hi)
  have := hb.1
  rw [e]; omega

/-- A sign is the one at its place within the period. -/
theorem pd_mod {f : Nat → UInt8} {n p : Nat} (h0 : 0 < p) (h : Pd f n p) : ∀ i, i < n → f i = f (i % p) := by
  intro i
  induction i using Nat.strongRecOn with
  | _ i ih =>
    intro hi
    by_cases hp : i < p
    · rw [Nat.mod_eq_of_lt hp]
    · rw [h i (by omega) hi, ih (i - p) (by omega) (by omega), ← Nat.mod_eq_sub_mod (by omega)]
theorem mod_pd {f : Nat → UInt8} {n p : Nat} (h : ∀ i, i < n → f i = f (i % p)) : Pd f n p := fun i a b => by
  rw [h i b, h (i - p) (by omega), ← Nat.mod_eq_sub_mod a]
theorem pd_times {f : Nat → UInt8} {n p m : Nat} (h0 : 0 < p) (h : Pd f n p) : Pd f n (m * p) := fun i a b => by
  rw [pd_mod h0 h i b, pd_mod h0 h (i - m * p) (by omega)]
  congr 1
  rw [Nat.mul_comm] at a ⊢
  conv => lhs; rw [show i = i - p * m + p * m by omega, Nat.add_mul_mod_self_left]
theorem pd_short {f : Nat → UInt8} {n m p : Nat} (h : Pd f n p) (hm : m ≤ n) : Pd f m p := fun i a b => h i a (by omega)
/-- Fine and Wilf. -/
theorem fine_wilf {f : Nat → UInt8} : ∀ (k p q n : Nat), p + q ≤ k → 0 < p → 0 < q → Pd f n p → Pd f n q → p + q - Nat.gcd p q ≤ n → Pd f n (Nat.gcd p q) := by
  intro k
  induction k with
  | zero => intro p q n h h1; omega
  | succ k ih =>
    have main : ∀ p q n : Nat, q < p → p + q ≤ k + 1 → 0 < q → Pd f n p → Pd f n q → p + q - Nat.gcd p q ≤ n → Pd f n (Nat.gcd p q) := by
      intro p q n hlt hk hq hp hpq hn
      have hg : Nat.gcd (p - q) q = Nat.gcd p q := Nat.gcd_sub_self_left (by omega)
      have hgq : Nat.gcd p q ∣ q := Nat.gcd_dvd_right _ _
      have hgd : Nat.gcd p q ∣ p - q := hg ▸ Nat.gcd_dvd_left _ _
      have hle := Nat.le_of_dvd (by omega) hgd
      have hle2 := Nat.le_of_dvd (by omega) hgq
      have hpos : 0 < Nat.gcd p q := Nat.gcd_pos_of_pos_right _ hq
      have hs : Pd f (n - q) (Nat.gcd p q) := by
        rw [← hg]
        refine ih (p - q) q (n - q) (by omega) (by omega) hq (fun i a b => ?_) (pd_short hpq (by omega)) (by rw [hg]; omega)
        have h1 := hpq (i + q) (by omega) (by omega)
        have h2 := hp (i + q) (by omega) (by omega)
        rw [Nat.add_sub_cancel] at h1
        rw [← h1, h2]; congr 1; omega
      refine mod_pd fun i hi => ?_
      rw [pd_mod hq hpq i hi, pd_mod hpos hs (i % q) (by have := Nat.mod_lt i hq; omega), Nat.mod_mod_of_dvd _ hgq]
    intro p q n hk h1 h2 hp hq hn
    rcases Nat.lt_trichotomy p q with e | e | e
    · rw [Nat.gcd_comm] at hn ⊢
      exact main q p n e (by omega) h1 hq hp (by omega)
    · subst e
      rw [Nat.gcd_self]; exact hp
    · exact main p q n e hk h2 hp hq hn
theorem fine {s : ByteArray} {p q : Nat} (h1 : 0 < p) (h2 : 0 < q) (h3 : Pd (sg s) s.size p) (h4 : Pd (sg s) s.size q) (hn : p + q - Nat.gcd p q ≤ s.size) : Pd (sg s) s.size (Nat.gcd p q) :=
  fine_wilf _ p q _ (Nat.le_refl _) h1 h2 h3 h4 hn
theorem gcd_le {p q m : Nat} (h1 : 0 < p) (h : p ≤ m) : 0 < Nat.gcd p q ∧ Nat.gcd p q ≤ m :=
  ⟨Nat.gcd_pos_of_pos_left _ h1, Nat.le_trans (Nat.gcd_le_left _ h1) h⟩

/-- Parts of a text have its periods. -/
theorem pd_tail {s : ByteArray} {p i : Nat} (h : Pd (sg s) s.size p) (hi : i ≤ s.size) : Pd (sg (s.extract i s.size)) (s.extract i s.size).size p := by
  intro j a b
  rw [ByteArray.size_extract] at b
  rw [sg_cut s i _ j (by omega) (by omega), sg_cut s i _ (j - p) (by omega) (by omega), h (i + j) (by omega) (by omega)]
  congr 1; omega
theorem pd_head {s : ByteArray} {p m : Nat} (h : Pd (sg s) s.size p) (hm : m ≤ s.size) : Pd (sg (s.extract 0 m)) (s.extract 0 m).size p := by
  intro j a b
  rw [ByteArray.size_extract] at b
  rw [sg_cut s 0 _ j (by omega) (by omega), sg_cut s 0 _ (j - p) (by omega) (by omega), h (0 + j) (by omega) (by omega)]
  congr 1; omega
end Go.Proofs.YtlklhgapnenekaaDoor
