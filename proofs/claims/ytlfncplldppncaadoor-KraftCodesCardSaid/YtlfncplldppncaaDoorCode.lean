/-
  Plain mathematics, without a program: Kraft: codes by lengths, each the least that goes with all ahead (shorter ones first, of equal ones the earlier): which number it is, that none begins another one, that there are codes where there is room. No condition.
-/
import Derived.Test.YtlfncplldppncaaDoorSard
import Derived.Test.YtlfncplldppncaaDoorMcm
import Derived.Test.YtlfncplldppncaaDoorHuf
namespace Go.Proofs.YtlfncplldppncaaDoor

/-! ### Bits of a number -/
/-- So many bits of a number, the last one last. -/
def bitsL : Nat → Nat → List UInt8
  | 0, _ => []
  | n + 1, k => bitsL n (k / 2) ++ [if k % 2 = 1 then 49 else 48]
theorem bits_len (n : Nat) : ∀ k, (bitsL n k).length = n := by
  induction n with
  | zero => intro k; rfl
  | succ n ih => intro k; rw [bitsL, List.length_append, ih]; rfl
theorem bits_bin (n : Nat) : ∀ k, Bin (bitsL n k) := by
  induction n with
  | zero => intro k c hc; simp [bitsL] at hc
  | succ n ih =>
    intro k
    rw [bitsL]
    refine bin_app (ih _) fun c hc => ?_
    have hc := List.mem_singleton.1 hc
    by_cases h : k % 2 = 1
    · rw [if_pos h] at hc; exact .inr hc
    · rw [if_neg h] at hc; exact .inl hc
theorem bits_inj (n : Nat) : ∀ k k', k < 2 ^ n → k' < 2 ^ n → bitsL n k = bitsL n k' → k = k' := by
  induction n with
  | zero => intro k k' h h' _; simp at h h'; omega
  | succ n ih =>
    intro k k' h h' e
    rw [bitsL, bitsL] at e
    rw [Nat.pow_succ] at h h'
    obtain ⟨e1, e2⟩ := List.append_inj e (by rw [bits_len, bits_len])
    have h1 := ih (k / 2) (k' / 2) (by omega) (by omega) e1
    injection e2 with e2
    have h2 : k % 2 = k' % 2 := by
      by_cases a : k % 2 = 1 <;> by_cases b : k' % 2 = 1
      · omega
      · rw [if_pos a, if_neg b] at e2; exact absurd e2 (by decide)
      · rw [if_neg a, if_pos b] at e2; exact absurd e2 (by decide)
      · omega
    omega
theorem bits_take (d : Nat) : ∀ (n k : Nat), (bitsL (n + d) k).take n = bitsL n (k / 2 ^ d) := by
  induction d with
  | zero => intro n k; rw [Nat.add_zero, List.take_of_length_le (by rw [bits_len]; exact Nat.le_refl _)]; simp
  | succ d ih =>
    intro n k
    rw [← Nat.add_assoc, bitsL, List.take_append_of_le_length (by rw [bits_len]; omega), ih, Nat.div_div_eq_div_mul, Nat.pow_succ, Nat.mul_comm 2]
/-- One code begins another one just if its number comes of the other one's. -/
theorem bits_pre {n n' k k' : Nat} (hn : n' ≤ n) (hk : k < 2 ^ n) (hk' : k' < 2 ^ n') : bitsL n' k' <+: bitsL n k ↔ k / 2 ^ (n - n') = k' := by
  obtain ⟨d, rfl⟩ : ∃ d, n = n' + d := ⟨n - n', by omega⟩
  rw [Nat.add_sub_cancel_left]
  have ht := bits_take d n' k
  have hlt : k / 2 ^ d < 2 ^ n' := by
    rw [Nat.div_lt_iff_lt_mul (Nat.pow_pos (by decide)), ← Nat.pow_add]
    exact hk
  constructor
  · intro h
    have := List.prefix_iff_eq_take.1 h
    rw [bits_len, ht] at this
    exact (bits_inj n' _ _ hk' hlt this).symm
  · intro h
    refine List.prefix_iff_eq_take.2 ?_
    rw [bits_len, ht, h]

/-! ### What is used by codes ahead -/
/-- Does code j come ahead of place i of length n? -/
def bef (l : List Nat) (n i j : Nat) : Bool := decide (l.getD j 0 < n ∨ (l.getD j 0 = n ∧ j < i))
theorem bef_iff (l : List Nat) (n i j : Nat) : bef l n i j = true ↔ l.getD j 0 < n ∨ (l.getD j 0 = n ∧ j < i) := by simp [bef]
/-- The room of those ahead among the first k. -/
def usdTo (l : List Nat) (n i : Nat) : Nat → Nat
  | 0 => 0
  | k + 1 => usdTo l n i k + if bef l n i k then 2 ^ (12 - l.getD k 0) else 0
def usd (l : List Nat) (n i : Nat) : Nat := usdTo l n i l.length
theorem usdTo_congr {l : List Nat} {n i n' i' : Nat} (k : Nat) (h : ∀ j, j < k → bef l n i j = bef l n' i' j) : usdTo l n i k = usdTo l n' i' k := by
  induction k with
  | zero => rfl
  | succ k ih => rw [usdTo, usdTo, ih (fun j hj => h j (by omega)), h k (by omega)]
theorem usdTo_mono {l : List Nat} {n i n' i' : Nat} (k : Nat) (h : ∀ j, j < k → bef l n i j = true → bef l n' i' j = true) : usdTo l n i k ≤ usdTo l n' i' k := by
  induction k with
  | zero => exact Nat.le_refl _
  | succ k ih =>
    rw [usdTo, usdTo]
    have h1 := ih (fun j hj => h j (by omega))
    by_cases e : bef l n i k = true
    · rw [e, h k (by omega) e]; omega
    · rw [if_neg e]; omega
theorem usd_skip {l : List Nat} {n i : Nat} (h : l.getD i 0 ≠ n) : usd l n (i + 1) = usd l n i :=
  usdTo_congr _ fun j _ => by
    have : (l.getD j 0 < n ∨ (l.getD j 0 = n ∧ j < i + 1)) ↔ (l.getD j 0 < n ∨ (l.getD j 0 = n ∧ j < i)) := by
      constructor
      · rintro (h1 | ⟨h1, h2⟩)
        · exact .inl h1
        · refine .inr ⟨h1, ?_⟩
          rcases Nat.lt_or_ge j i with h3 | h3
          · exact h3
          · obtain rfl : j = i := by omega
            exact absurd h1 h
      · rintro (h1 | ⟨h1, h2⟩)
        · exact .inl h1
        · exact .inr ⟨h1, by omega⟩
    unfold bef
    exact decide_eq_decide.2 this
theorem usd_take {l : List Nat} {n i : Nat} (hi : i < l.length) (h : l.getD i 0 = n) : usd l n (i + 1) = usd l n i + 2 ^ (12 - n) := by
  have : ∀ k, usdTo l n (i + 1) k = usdTo l n i k + if i < k then 2 ^ (12 - n) else 0 := by
    intro k
    induction k with
    | zero => rfl
    | succ k ih =>
      rw [usdTo, usdTo, ih]
      by_cases e : i = k
      · subst e
        have h1 : bef l n (i + 1) i = true := (bef_iff _ _ _ _).2 (.inr ⟨h, by omega⟩)
        have h2 : ¬ bef l n i i = true := fun hb => by
          rcases (bef_iff _ _ _ _).1 hb with h3 | ⟨_, h3⟩ <;> omega
        rw [h1, if_neg h2, if_neg (by omega : ¬ i < i), if_pos (by omega : i < i + 1), h]
        simp
      · have h1 : bef l n (i + 1) k = bef l n i k := by
          unfold bef
          refine decide_eq_decide.2 ⟨?_, ?_⟩
          · rintro (h1 | ⟨h1, h2⟩)
            · exact .inl h1
            · exact .inr ⟨h1, by omega⟩
          · rintro (h1 | ⟨h1, h2⟩)
            · exact .inl h1
            · exact .inr ⟨h1, by omega⟩
        rw [h1]
        by_cases h3 : i < k
        · rw [if_pos h3, if_pos (by omega : i < k + 1)]; omega
        · rw [if_neg h3, if_neg (by omega : ¬ i < k + 1)]; omega
  have := this l.length
  rwa [if_pos hi] at this
theorem usd_next (l : List Nat) (n : Nat) : usd l (n + 1) 0 = usd l n l.length :=
  usdTo_congr _ fun j hj => by
    unfold bef
    refine decide_eq_decide.2 ⟨?_, ?_⟩
    · rintro (h1 | ⟨_, h2⟩)
      · by_cases e : l.getD j 0 = n
        · exact .inr ⟨e, hj⟩
        · exact .inl (by omega)
      · omega
    · rintro (h1 | ⟨h1, _⟩)
      · exact .inl (by omega)
      · exact .inl (by omega)
theorem usd_first (l : List Nat) : usd l 0 0 = 0 := by
  have : ∀ k, usdTo l 0 0 k = 0 := by
    intro k
    induction k with
    | zero => rfl
    | succ k ih =>
      have h2 : ¬ bef l 0 0 k = true := fun hb => by
        rcases (bef_iff _ _ _ _).1 hb with h3 | ⟨_, h3⟩ <;> omega
      rw [usdTo, ih, if_neg h2]
  exact this _
theorem usd_all (l : List Nat) (n i : Nat) : usd l n i ≤ rm 12 l := by
  have : ∀ k, k ≤ l.length → usdTo l n i k ≤ rm 12 (l.take k) := by
    intro k
    induction k with
    | zero => intro _; simp [usdTo]
    | succ k ih =>
      intro hk
      have h1 := ih (by omega)
      have e : rm 12 (l.take (k + 1)) = rm 12 (l.take k) + 2 ^ (12 - l.getD k 0) := by
        rw [List.take_succ_eq_append_getElem (by omega), rm_app]
        simp [rm, List.getD_eq_getElem?_getD, show k < l.length by omega]
      have hp : 0 < 2 ^ (12 - l.getD k 0) := Nat.pow_pos (by decide)
      rw [usdTo, e]
      split <;> omega
  have := this l.length (Nat.le_refl _)
  rwa [List.take_length] at this
theorem usd_dvd {l : List Nat} {n i : Nat} (hn : n ≤ 12) : 2 ^ (12 - n) ∣ usd l n i := by
  have : ∀ k, 2 ^ (12 - n) ∣ usdTo l n i k := by
    intro k
    induction k with
    | zero => exact Nat.dvd_zero _
    | succ k ih =>
      rw [usdTo]
      refine Nat.dvd_add ih ?_
      by_cases e : bef l n i k = true
      · rw [if_pos e]
        refine Nat.pow_dvd_pow 2 ?_
        rcases (bef_iff _ _ _ _).1 e with h | ⟨h, _⟩ <;> omega
      · rw [if_neg e]; exact Nat.dvd_zero _
  exact this _
/-- What those ahead of j use. -/
def ahd (l : List Nat) (j : Nat) : Nat := usd l (l.getD j 0) j
theorem ahd_le {l : List Nat} {n i j : Nat} (hj : j < l.length) (h : bef l n i j = true) : ahd l j + 2 ^ (12 - l.getD j 0) ≤ usd l n i := by
  unfold ahd
  rw [← usd_take hj rfl]
  refine usdTo_mono _ fun k _ hk => ?_
  have h1 := (bef_iff _ _ _ _).1 h
  have h2 := (bef_iff _ _ _ _).1 hk
  refine (bef_iff _ _ _ _).2 ?_
  rcases h1 with h1 | ⟨h1, h3⟩
  · rcases h2 with h2 | ⟨h2, _⟩
    · exact .inl (by omega)
    · exact .inl (by omega)
  · rcases h2 with h2 | ⟨h2, h4⟩
    · exact .inl (by omega)
    · exact .inr ⟨by omega, by omega⟩
/-- What is used is used by one of those ahead. -/
theorem usd_cover (l : List Nat) : ∀ (n i : Nat), i ≤ l.length → ∀ x, x < usd l n i → ∃ j, j < l.length ∧ bef l n i j = true ∧ ahd l j ≤ x ∧ x < ahd l j + 2 ^ (12 - l.getD j 0) := by
  have row : ∀ n, (∀ x, x < usd l n 0 → ∃ j, j < l.length ∧ bef l n 0 j = true ∧ ahd l j ≤ x ∧ x < ahd l j + 2 ^ (12 - l.getD j 0)) →
      ∀ i, i ≤ l.length → ∀ x, x < usd l n i → ∃ j, j < l.length ∧ bef l n i j = true ∧ ahd l j ≤ x ∧ x < ahd l j + 2 ^ (12 - l.getD j 0) := by
    intro n h0 i
    induction i with
    | zero => intro _; exact h0
    | succ i ih =>
      intro hi x hx
      have up : ∀ j, bef l n i j = true → bef l n (i + 1) j = true := fun j hb => by
        rcases (bef_iff _ _ _ _).1 hb with h | ⟨h, h'⟩
        · exact (bef_iff _ _ _ _).2 (.inl h)
        · exact (bef_iff _ _ _ _).2 (.inr ⟨h, by omega⟩)
      by_cases e : l.getD i 0 = n
      · rw [usd_take (by omega) e] at hx
        by_cases h : x < usd l n i
        · obtain ⟨j, h1, h2, h3⟩ := ih (by omega) x h
          exact ⟨j, h1, up j h2, h3⟩
        · refine ⟨i, by omega, (bef_iff _ _ _ _).2 (.inr ⟨e, by omega⟩), ?_⟩
          unfold ahd
          rw [e]
          omega
      · rw [usd_skip e] at hx
        obtain ⟨j, h1, h2, h3⟩ := ih (by omega) x hx
        exact ⟨j, h1, up j h2, h3⟩
  intro n
  induction n with
  | zero => exact row 0 (fun x hx => by rw [usd_first] at hx; omega)
  | succ n ih =>
    refine row (n + 1) fun x hx => ?_
    rw [usd_next] at hx
    obtain ⟨j, h1, h2, h3⟩ := ih l.length (Nat.le_refl _) x hx
    refine ⟨j, h1, (bef_iff _ _ _ _).2 (.inl ?_), h3⟩
    rcases (bef_iff _ _ _ _).1 h2 with h | ⟨h, _⟩ <;> omega

/-! ### The codes -/
/-- Lengths that are let in. -/
def LenOk (l : List Nat) : Prop := ∀ j, j < l.length → 1 ≤ l.getD j 0 ∧ l.getD j 0 ≤ 12
/-- The number of code i. -/
def cvN (l : List Nat) (i : Nat) : Nat := ahd l i / 2 ^ (12 - l.getD i 0)
/-- Code i. -/
def codeL (l : List Nat) (i : Nat) : List UInt8 := bitsL (l.getD i 0) (cvN l i)
/-- All codes. -/
def codesL (l : List Nat) : List (List UInt8) := (List.range l.length).map (codeL l)
theorem cvN_mul {l : List Nat} (h : LenOk l) {i : Nat} (hi : i < l.length) : cvN l i * 2 ^ (12 - l.getD i 0) = ahd l i := Nat.div_mul_cancel (usd_dvd (h i hi).2)
theorem pow_part {n : Nat} (hn : n ≤ 12) : 2 ^ n * 2 ^ (12 - n) = 4096 := by
  rw [← Nat.pow_add, show n + (12 - n) = 12 by omega]
theorem cvN_lt {l : List Nat} (h : LenOk l) (hr : rm 12 l ≤ 4096) {i : Nat} (hi : i < l.length) : cvN l i < 2 ^ (l.getD i 0) := by
  have h1 := usd_all l (l.getD i 0) (i + 1)
  rw [usd_take hi rfl] at h1
  have h2 : 0 < 2 ^ (12 - l.getD i 0) := Nat.pow_pos (by decide)
  unfold cvN
  rw [Nat.div_lt_iff_lt_mul h2, pow_part (h i hi).2]
  unfold ahd
  omega
/-- Code j, which comes ahead, begins the code of number k just if k lies in its room. -/
theorem code_begins {l : List Nat} (h : LenOk l) (hr : rm 12 l ≤ 4096) {n i j k : Nat} (hn : n ≤ 12) (hj : j < l.length) (hb : bef l n i j = true) (hk : k < 2 ^ n) :
    codeL l j <+: bitsL n k ↔ ahd l j ≤ k * 2 ^ (12 - n) ∧ k * 2 ^ (12 - n) < ahd l j + 2 ^ (12 - l.getD j 0) := by
  have hle : l.getD j 0 ≤ n := by rcases (bef_iff _ _ _ _).1 hb with h | ⟨h, _⟩ <;> omega
  unfold codeL
  rw [bits_pre hle hk (cvN_lt h hr hj), ← cvN_mul h hj]
  generalize cvN l j = c
  have e : 2 ^ (12 - l.getD j 0) = 2 ^ (n - l.getD j 0) * 2 ^ (12 - n) := by
    rw [← Nat.pow_add]
    congr 1
    omega
  rw [e]
  have hp : 0 < 2 ^ (12 - n) := Nat.pow_pos (by decide)
  have hq : 0 < 2 ^ (n - l.getD j 0) := Nat.pow_pos (by decide)
  generalize 2 ^ (12 - n) = P at hp ⊢
  generalize 2 ^ (n - l.getD j 0) = Q at hq ⊢
  rw [← Nat.mul_assoc, ← Nat.add_mul, Nat.mul_le_mul_right_iff hp, Nat.mul_lt_mul_right hp]
  constructor
  · rintro rfl
    exact ⟨Nat.div_mul_le_self k Q, by have := Nat.lt_div_mul_add (a := k) hq; omega⟩
  · rintro ⟨h1, h2⟩
    have h3 : c * Q + Q = (c + 1) * Q := by rw [Nat.add_mul, Nat.one_mul]
    rw [h3] at h2
    have h4 : c ≤ k / Q := (Nat.le_div_iff_mul_le hq).2 h1
    have h5 : k / Q < c + 1 := (Nat.div_lt_iff_lt_mul hq).2 h2
    omega
/-- Of numbers below code i's, each has a code ahead that begins it. -/
theorem code_least {l : List Nat} (h : LenOk l) (hr : rm 12 l ≤ 4096) {i k : Nat} (hi : i < l.length) (hk : k < cvN l i) : ∃ j, j < l.length ∧ bef l (l.getD i 0) i j = true ∧ codeL l j <+: bitsL (l.getD i 0) k := by
  have hlt := cvN_lt h hr hi
  have hp : 0 < 2 ^ (12 - l.getD i 0) := Nat.pow_pos (by decide)
  have hx : k * 2 ^ (12 - l.getD i 0) < usd l (l.getD i 0) i := by
    have := cvN_mul h hi
    unfold ahd at this
    rw [← this]
    exact (Nat.mul_lt_mul_right hp).2 hk
  obtain ⟨j, h1, h2, h3⟩ := usd_cover l _ i (by omega) _ hx
  exact ⟨j, h1, h2, (code_begins h hr (h i hi).2 h1 h2 (by omega)).2 h3⟩
/-- Of those ahead of code i, none begins it. -/
theorem code_free {l : List Nat} (h : LenOk l) (hr : rm 12 l ≤ 4096) {i j : Nat} (hi : i < l.length) (hj : j < l.length) (hb : bef l (l.getD i 0) i j = true) : ¬ codeL l j <+: codeL l i := by
  intro hc
  have h1 := (code_begins h hr (h i hi).2 hj hb (cvN_lt h hr hi)).1 hc
  rw [cvN_mul h hi] at h1
  have h2 := ahd_le hj hb
  unfold ahd at h1 h2
  omega
theorem codesL_len (l : List Nat) : (codesL l).length = l.length := by simp [codesL]
theorem codesL_at {l : List Nat} {i : Nat} (hi : i < l.length) : (codesL l).getD i [] = codeL l i := by simp [codesL, hi]
theorem codeL_len (l : List Nat) (i : Nat) : (codeL l i).length = l.getD i 0 := bits_len _ _
/-- KRAFT: where there is room, no code begins another one. -/
theorem codes_pfree {l : List Nat} (h : LenOk l) (hr : rm 12 l ≤ 4096) : Pfree (codesL l) := by
  intro i k hi hk hne hc
  rw [codesL_len] at hi hk
  rw [codesL_at hi, codesL_at hk] at hc
  have hle := hc.length_le
  rw [codeL_len, codeL_len] at hle
  by_cases hb : bef l (l.getD i 0) i k = true
  · exact code_free h hr hi hk hb hc
  · have h1 : ¬ (l.getD k 0 < l.getD i 0 ∨ (l.getD k 0 = l.getD i 0 ∧ k < i)) := fun h => hb ((bef_iff _ _ _ _).2 h)
    have e : l.getD k 0 = l.getD i 0 := by omega
    have e2 : codeL l k = codeL l i := hc.eq_of_length (by rw [codeL_len, codeL_len, e])
    refine code_free h hr hk hi ((bef_iff _ _ _ _).2 (.inr ⟨e.symm, by omega⟩)) ?_
    rw [e2]
    exact List.prefix_refl _
theorem codes_ok {l : List Nat} (h : LenOk l) (hr : rm 12 l ≤ 4096) : Okw (codesL l) := by
  refine ⟨?_, fun x hx => ?_⟩
  · rw [List.nodup_iff_pairwise_ne, List.pairwise_iff_getElem]
    intro i k hi hk hik e
    have h1 := codes_pfree h hr k i hk hi (by omega)
    apply h1
    rw [List.getD_eq_getElem?_getD, List.getD_eq_getElem?_getD, List.getElem?_eq_getElem hi, List.getElem?_eq_getElem hk]
    simp only [Option.getD_some]
    rw [e]
    exact List.prefix_refl _
  · obtain ⟨i, hi, rfl⟩ := List.mem_map.1 hx
    intro e
    have := codeL_len l i
    rw [e, List.length_nil] at this
    have h2 := (h i (List.mem_range.1 hi)).1
    omega
end Go.Proofs.YtlfncplldppncaaDoor
