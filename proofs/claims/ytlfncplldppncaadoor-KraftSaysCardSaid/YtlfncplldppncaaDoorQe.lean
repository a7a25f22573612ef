/-
  Several of this claim's texts in one (Code, Kroom, Stm, InsL, StL, Kord): what each proves stands at its own head. Conditions: as each says.
-/
import Derived.WalkKit
import Derived.Sort.WalkA
import Derived.Sort.LotA
import Derived.Shelf.SlSortCmp.Insertion1
import Derived.Test.YtlfncplldppncaaDoorProg
import Derived.Test.YtlfncplldppncaaDoorQd

/-
  Plain mathematics, without a program: Kraft: codes by lengths, each the least that goes with all ahead (shorter ones first, of equal ones the earlier): which number it is, that none begins another one, that there are codes where there is room. No condition.
-/
namespace Go.Proofs.YtlfncplldppncaaDoor

/-! ### Bits of a number -/
/-- So many bits of a number, the last one last. -/
def bitsL : Nat → Nat → List UInt8
  | 0, _ => []
  | n + 1, k => bitsL n (k / 2) ++ [if k % 2 = 1 then 49 else 48]
theorem bits_len (n : Nat) : ∀ k, (bitsL n k).length = n := by
  induction n with
  | zero => intro k; rfl
  | succ n ih => intro k; rw [bitsL, List.length_append, ih]; rfl
theorem bits_bin (n : Nat) : ∀ k, Bin (bitsL n k) := by
  induction n with
  | zero => intro k c hc; simp [bitsL] at hc
  | succ n ih =>
    intro k
    rw [bitsL]
    refine bin_app (ih _) fun c hc => ?_
    have hc := List.mem_singleton.1 hc
    by_cases h : k % 2 = 1
    · rw [if_pos h] at hc; exact .inr hc
    · rw [if_neg h] at hc; exact .inl hc
theorem bits_inj (n : Nat) : ∀ k k', k < 2 ^ n → k' < 2 ^ n → bitsL n k = bitsL n k' → k = k' := by
  induction n with
  | zero => intro k k' h h' _; simp at h h'; omega
  | succ n ih =>
    intro k k' h h' e
    rw [bitsL, bitsL] at e
    rw [Nat.pow_succ] at h h'
    obtain ⟨e1, e2⟩ := List.append_inj e (by rw [bits_len, bits_len])
    have h1 := ih (k / 2) (k' / 2) (by omega) (by omega) e1
    injection e2 with e2
    have h2 : k % 2 = k' % 2 := by
      by_cases a : k % 2 = 1 <;> by_cases b : k' % 2 = 1
      · omega
      · rw [if_pos a, if_neg b] at e2; exact absurd e2 (by decide)
      · rw [if_neg a, if_pos b] at e2; exact absurd e2 (by decide)
      · omega
    omega
theorem bits_take (d : Nat) : ∀ (n k : Nat), (bitsL (n + d) k).take n = bitsL n (k / 2 ^ d) := by
  induction d with
  | zero => intro n k; rw [Nat.add_zero, List.take_of_length_le (by rw [bits_len]; exact Nat.le_refl _)]; simp
  | succ d ih =>
    intro n k
    rw [← Nat.add_assoc, bitsL, List.take_append_of_le_length (by rw [bits_len]; omega), ih, Nat.div_div_eq_div_mul, Nat.pow_succ, Nat.mul_comm 2]
/-- One code begins another one just if its number comes of the other one's. -/
theorem bits_pre {n n' k k' : Nat} (hn : n' ≤ n) (hk : k < 2 ^ n) (hk' : k' < 2 ^ n') : bitsL n' k' <+: bitsL n k ↔ k / 2 ^ (n - n') = k' := by
  obtain ⟨d, rfl⟩ : ∃ d, n = n' + d := ⟨n - n', by omega⟩
  rw [Nat.add_sub_cancel_left]
  have ht := bits_take d n' k
  have hlt : k / 2 ^ d < 2 ^ n' := by
    rw [Nat.div_lt_iff_lt_mul (Nat.pow_pos (by decide)), ← Nat.pow_add]
    exact hk
  constructor
  · intro h
    have := List.prefix_iff_eq_take.1 h
    rw [bits_len, ht] at this
    exact (bits_inj n' _ _ hk' hlt this).symm
  · intro h
    refine List.prefix_iff_eq_take.2 ?_
    rw [bits_len, ht, h]

/-! ### What is used by codes ahead -/
/-- Does code j come ahead of place i of length n? -/
def bef (l : List Nat) (n i j : Nat) : Bool := decide (l.getD j 0 < n ∨ (l.getD j 0 = n ∧ j < i))
theorem bef_iff (l : List Nat) (n i j : Nat) : bef l n i j = true ↔ l.getD j 0 < n ∨ (l.getD j 0 = n ∧ j < i) := by simp [bef]
/-- The room of those ahead among the first k. -/
def usdTo (l : List Nat) (n i : Nat) : Nat → Nat
  | 0 => 0
  | k + 1 => usdTo l n i k + if bef l n i k then 2 ^ (12 - l.getD k 0) else 0
def usd (l : List Nat) (n i : Nat) : Nat := usdTo l n i l.length
theorem usdTo_congr {l : List Nat} {n i n' i' : Nat} (k : Nat) (h : ∀ j, j < k → bef l n i j = bef l n' i' j) : usdTo l n i k = usdTo l n' i' k := by
  induction k with
  | zero => rfl
  | succ k ih => rw [usdTo, usdTo, ih (fun j hj => h j (by omega)), h k (by omega)]
theorem usdTo_mono {l : List Nat} {n i n' i' : Nat} (k : Nat) (h : ∀ j, j < k → bef l n i j = true → bef l n' i' j = true) : usdTo l n i k ≤ usdTo l n' i' k := by
  induction k with
  | zero => exact Nat.le_refl _
  | succ k ih =>
    rw [usdTo, usdTo]
    have h1 := ih (fun j hj => h j (by omega))
    by_cases e : bef l n i k = true
    · rw [e, h k (by omega) e]; omega
    · rw [if_neg e]; omega
theorem usd_skip {l : List Nat} {n i : Nat} (h : l.getD i 0 ≠ n) : usd l n (i + 1) = usd l n i :=
  usdTo_congr _ fun j _ => by
    have : (l.getD j 0 < n ∨ (l.getD j 0 = n ∧ j < i + 1)) ↔ (l.getD j 0 < n ∨ (l.getD j 0 = n ∧ j < i)) := by
      constructor
      · rintro (h1 | ⟨h1, h2⟩)
        · exact .inl h1
        · refine .inr ⟨h1, ?_⟩
          rcases Nat.lt_or_ge j i with h3 | h3
          · exact h3
          · obtain rfl : j = i := by omega
            exact absurd h1 h
      · rintro (h1 | ⟨h1, h2⟩)
        · exact .inl h1
        · exact .inr ⟨h1, by omega⟩
    unfold bef
    exact decide_eq_decide.2 this
theorem usd_take {l : List Nat} {n i : Nat} (hi : i < l.length) (h : l.getD i 0 = n) : usd l n (i + 1) = usd l n i + 2 ^ (12 - n) := by
  have : ∀ k, usdTo l n (i + 1) k = usdTo l n i k + if i < k then 2 ^ (12 - n) else 0 := by
    intro k
    induction k with
    | zero => rfl
    | succ k ih =>
      rw [usdTo, usdTo, ih]
      by_cases e : i = k
      · subst e
        have h1 : bef l n (i + 1) i = true := (bef_iff _ _ _ _).2 (.inr ⟨h, by omega⟩)
        have h2 : ¬ bef l n i i = true := fun hb => by
          rcases (bef_iff _ _ _ _).1 hb with h3 | ⟨_, h3⟩ <;> omega
        rw [h1, if_neg h2, if_neg (by omega : ¬ i < i), if_pos (by omega : i < i + 1), h]
        simp
      · have h1 : bef l n (i + 1) k = bef l n i k := by
          unfold bef
          refine decide_eq_decide.2 ⟨?_, ?_⟩
          · rintro (h1 | ⟨h1, h2⟩)
            · exact .inl h1
            · exact .inr ⟨h1, by omega⟩
          · rintro (h1 | ⟨h1, h2⟩)
            · exact .inl h1
            · exact .inr ⟨h1, by omega⟩
        rw [h1]
        by_cases h3 : i < k
        · rw [if_pos h3, if_pos (by omega : i < k + 1)]; omega
        · rw [if_neg h3, if_neg (by omega : ¬ i < k + 1)]; omega
  have := this l.length
  rwa [if_pos hi] at this
theorem usd_next (l : List Nat) (n : Nat) : usd l (n + 1) 0 = usd l n l.length :=
  usdTo_congr _ fun j hj => by
    unfold bef
    refine decide_eq_decide.2 ⟨?_, ?_⟩
    · rintro (h1 | ⟨_, h2⟩)
      · by_cases e : l.getD j 0 = n
        · exact .inr ⟨e, hj⟩
        · exact .inl (by omega)
      · omega
    · rintro (h1 | ⟨h1, _⟩)
      · exact .inl (by omega)
      · exact .inl (by omega)
theorem usd_first (l : List Nat) : usd l 0 0 = 0 := by
  have : ∀ k, usdTo l 0 0 k = 0 := by
    intro k
    induction k with
    | zero => rfl
    | succ k ih =>
      have h2 : ¬ bef l 0 0 k = true := fun hb => by
        rcases (bef_iff _ _ _ _).1 hb with h3 | ⟨_, h3⟩ <;> omega
      rw [usdTo, ih, if_neg h2]
  exact this _
theorem usd_all (l : List Nat) (n i : Nat) : usd l n i ≤ rm 12 l := by
  have : ∀ k, k ≤ l.length → usdTo l n i k ≤ rm 12 (l.take k) := by
    intro k
    induction k with
    | zero => intro _; simp [usdTo]
    | succ k ih =>
      intro hk
      have h1 := ih (by omega)
      have e : rm 12 (l.take (k + 1)) = rm 12 (l.take k) + 2 ^ (12 - l.getD k 0) := by
        rw [List.take_succ_eq_append_getElem (by omega), rm_app]
        simp [rm, List.getD_eq_getElem?_getD, show k < l.length by omega]
      have hp : 0 < 2 ^ (12 - l.getD k 0) := Nat.pow_pos (by decide)
      rw [usdTo, e]
      split <;> omega
  have := this l.length (Nat.le_refl _)
  rwa [List.take_length] at this
theorem usd_dvd {l : List Nat} {n i : Nat} (hn : n ≤ 12) : 2 ^ (12 - n) ∣ usd l n i := by
  have : ∀ k, 2 ^ (12 - n) ∣ usdTo l n i k := by
    intro k
    induction k with
    | zero => exact Nat.dvd_zero _
    | succ k ih =>
      rw [usdTo]
      refine Nat.dvd_add ih ?_
      by_cases e : bef l n i k = true
      · rw [if_pos e]
        refine Nat.pow_dvd_pow 2 ?_
        rcases (bef_iff _ _ _ _).1 e with h | ⟨h, _⟩ <;> omega
      · rw [if_neg e]; exact Nat.dvd_zero _
  exact this _
/-- What those ahead of j use. -/
def ahd (l : List Nat) (j : Nat) : Nat := usd l (l.getD j 0) j
theorem ahd_le {l : List Nat} {n i j : Nat} (hj : j < l.length) (h : bef l n i j = true) : ahd l j + 2 ^ (12 - l.getD j 0) ≤ usd l n i := by
  unfold ahd
  rw [← usd_take hj rfl]
  refine usdTo_mono _ fun k _ hk => ?_
  have h1 := (bef_iff _ _ _ _).1 h
  have h2 := (bef_iff _ _ _ _).1 hk
  refine (bef_iff _ _ _ _).2 ?_
  rcases h1 with h1 | ⟨h1, h3⟩
  · rcases h2 with h2 | ⟨h2, _⟩
    · exact .inl (by omega)
    · exact .inl (by omega)
  · rcases h2 with h2 | ⟨h2, h4⟩
    · exact .inl (by omega)
    · exact .inr ⟨by omega, by omega⟩
/-- What is used is used by one of those ahead. -/
theorem usd_cover (l : List Nat) : ∀ (n i : Nat), i ≤ l.length → ∀ x, x < usd l n i → ∃ j, j < l.length ∧ bef l n i j = true ∧ ahd l j ≤ x ∧ x < ahd l j + 2 ^ (12 - l.getD j 0) := by
  have row : ∀ n, (∀ x, x < usd l n 0 → ∃ j, j < l.length ∧ bef l n 0 j = true ∧ ahd l j ≤ x ∧ x < ahd l j + 2 ^ (12 - l.getD j 0)) →
      ∀ i, i ≤ l.length → ∀ x, x < usd l n i → ∃ j, j < l.length ∧ bef l n i j = true ∧ ahd l j ≤ x ∧ x < ahd l j + 2 ^ (12 - l.getD j 0) := by
    intro n h0 i
    induction i with
    | zero => intro _; exact h0
    | succ i ih =>
      intro hi x hx
      have up : ∀ j, bef l n i j = true → bef l n (i + 1) j = true := fun j hb => by
        rcases (bef_iff _ _ _ _).1 hb with h | ⟨h, h'⟩
        · exact (bef_iff _ _ _ _).2 (.inl h)
        · exact (bef_iff _ _ _ _).2 (.inr ⟨h, by omega⟩)
      by_cases e : l.getD i 0 = n
      · rw [usd_take (by omega) e] at hx
        by_cases h : x < usd l n i
        · obtain ⟨j, h1, h2, h3⟩ := ih (by omega) x h
          exact ⟨j, h1, up j h2, h3⟩
        · refine ⟨i, by omega, (bef_iff _ _ _ _).2 (.inr ⟨e, by omega⟩), ?_⟩
          unfold ahd
          rw [e]
          omega
      · rw [usd_skip e] at hx
        obtain ⟨j, h1, h2, h3⟩ := ih (by omega) x hx
        exact ⟨j, h1, up j h2, h3⟩
  intro n
  induction n with
  | zero => exact row 0 (fun x hx => by rw [usd_first] at hx; omega)
  | succ n ih =>
    refine row (n + 1) fun x hx => ?_
    rw [usd_next] at hx
    obtain ⟨j, h1, h2, h3⟩ := ih l.length (Nat.le_refl _) x hx
    refine ⟨j, h1, (bef_iff _ _ _ _).2 (.inl ?_), h3⟩
    rcases (bef_iff _ _ _ _).1 h2 with h | ⟨h, _⟩ <;> omega

/-! ### The codes -/
/-- Lengths that are let in. -/
def LenOk (l : List Nat) : Prop := ∀ j, j < l.length → 1 ≤ l.getD j 0 ∧ l.getD j 0 ≤ 12
/-- The number of code i. -/
def cvN (l : List Nat) (i : Nat) : Nat := ahd l i / 2 ^ (12 - l.getD i 0)
/-- Code i. -/
def codeL (l : List Nat) (i : Nat) : List UInt8 := bitsL (l.getD i 0) (cvN l i)
/-- All codes. -/
def codesL (l : List Nat) : List (List UInt8) := (List.range l.length).map (codeL l)
theorem cvN_mul {l : List Nat} (h : LenOk l) {i : Nat} (hi : i < l.length) : cvN l i * 2 ^ (12 - l.getD i 0) = ahd l i := Nat.div_mul_cancel (usd_dvd (h i hi).2)
theorem pow_part {n : Nat} (hn : n ≤ 12) : 2 ^ n * 2 ^ (12 - n) = 4096 := by
  rw [← Nat.pow_add, show n + (12 - n) = 12 by omega]
theorem cvN_lt {l : List Nat} (h : LenOk l) (hr : rm 12 l ≤ 4096) {i : Nat} (hi : i < l.length) : cvN l i < 2 ^ (l.getD i 0) := by
  have h1 := usd_all l (l.getD i 0) (i + 1)
  rw [usd_take hi rfl] at h1
  have h2 : 0 < 2 ^ (12 - l.getD i 0) := Nat.pow_pos (by decide)
  unfold cvN
  rw [Nat.div_lt_iff_lt_mul h2, pow_part (h i hi).2]
  unfold ahd
  omega
/-- Code j, which comes ahead, begins the code of number k just if k lies in its room. -/
theorem code_begins {l : List Nat} (h : LenOk l) (hr : rm 12 l ≤ 4096) {n i j k : Nat} (hn : n ≤ 12) (hj : j < l.length) (hb : bef l n i j = true) (hk : k < 2 ^ n) :
    codeL l j <+: bitsL n k ↔ ahd l j ≤ k * 2 ^ (12 - n) ∧ k * 2 ^ (12 - n) < ahd l j + 2 ^ (12 - l.getD j 0) := by
  have hle : l.getD j 0 ≤ n := by rcases (bef_iff _ _ _ _).1 hb with h | ⟨h, _⟩ <;> omega
  unfold codeL
  rw [bits_pre hle hk (cvN_lt h hr hj), ← cvN_mul h hj]
  generalize cvN l j = c
  have e : 2 ^ (12 - l.getD j 0) = 2 ^ (n - l.getD j 0) * 2 ^ (12 - n) := by
    rw [← Nat.pow_add]
    congr 1
    omega
  rw [e]
  have hp : 0 < 2 ^ (12 - n) := Nat.pow_pos (by decide)
  have hq : 0 < 2 ^ (n - l.getD j 0) := Nat.pow_pos (by decide)
  generalize 2 ^ (12 - n) = P at hp ⊢
  generalize 2 ^ (n - l.getD j 0) = Q at hq ⊢
  rw [← Nat.mul_assoc, ← Nat.add_mul, Nat.mul_le_mul_right_iff hp, Nat.mul_lt_mul_right hp]
  constructor
  · rintro rfl
    exact ⟨Nat.div_mul_le_self k Q, by have := Nat.lt_div_mul_add (a := k) hq; omega⟩
  · rintro ⟨h1, h2⟩
    have h3 : c * Q + Q = (c + 1) * Q := by rw [Nat.add_mul, Nat.one_mul]
    rw [h3] at h2
    have h4 : c ≤ k / Q := (Nat.le_div_iff_mul_le hq).2 h1
    have h5 : k / Q < c + 1 := (Nat.div_lt_iff_lt_mul hq).2 h2
    omega
/-- Of numbers below code i's, each has a code ahead that begins it. -/
theorem code_least {l : List Nat} (h : LenOk l) (hr : rm 12 l ≤ 4096) {i k : Nat} (hi : i < l.length) (hk : k < cvN l i) : ∃ j, j < l.length ∧ bef l (l.getD i 0) i j = true ∧ codeL l j <+: bitsL (l.getD i 0) k := by
  have hlt := cvN_lt h hr hi
  have hp : 0 < 2 ^ (12 - l.getD i 0) := Nat.pow_pos (by decide)
  have hx : k * 2 ^ (12 - l.getD i 0) < usd l (l.getD i 0) i := by
    have := cvN_mul h hi
    unfold ahd at this
    rw [← this]
    exact (Nat.mul_lt_mul_right hp).2 hk
  obtain ⟨j, h1, h2, h3⟩ := usd_cover l _ i (by omega) _ hx
  exact ⟨j, h1, h2, (code_begins h hr (h i hi).2 h1 h2 (by omega)).2 h3⟩
/-- Of those ahead of code i, none begins it. -/
theorem code_free {l : List Nat} (h : LenOk l) (hr : rm 12 l ≤ 4096) {i j : Nat} (hi : i < l.length) (hj : j < l.length) (hb : bef l (l.getD i 0) i j = true) : ¬ codeL l j <+: codeL l i := by
  intro hc
  have h1 := (code_begins h hr (h i hi).2 hj hb (cvN_lt h hr hi)).1 hc
  rw [cvN_mul h hi] at h1
  have h2 := ahd_le hj hb
  unfold ahd at h1 h2
  omega
theorem codesL_len (l : List Nat) : (codesL l).length = l.length := by simp [codesL]
theorem codesL_at {l : List Nat} {i : Nat} (hi : i < l.length) : (codesL l).getD i [] = codeL l i := by simp [codesL, hi]
theorem codeL_len (l : List Nat) (i : Nat) : (codeL l i).length = l.getD i 0 := bits_len _ _
/-- KRAFT: where there is room, no code begins another one. -/
theorem codes_pfree {l : List Nat} (h : LenOk l) (hr : rm 12 l ≤ 4096) : Pfree (codesL l) := by
  intro i k hi hk hne hc
  rw [codesL_len] at hi hk
  rw [codesL_at hi, codesL_at hk] at hc
  have hle := hc.length_le
  rw [codeL_len, codeL_len] at hle
  by_cases hb : bef l (l.getD i 0) i k = true
  · exact code_free h hr hi hk hb hc
  · have h1 : ¬ (l.getD k 0 < l.getD i 0 ∨ (l.getD k 0 = l.getD i 0 ∧ k < i)) := fun h => hb ((bef_iff _ _ _ _).2 h)
    have e : l.getD k 0 = l.getD i 0 := by omega
    have e2 : codeL l k = codeL l i := hc.eq_of_length (by rw [codeL_len, codeL_len, e])
    refine code_free h hr hk hi ((bef_iff _ _ _ _).2 (.inr ⟨e.symm, by omega⟩)) ?_
    rw [e2]
    exact List.prefix_refl _
theorem codes_ok {l : List Nat} (h : LenOk l) (hr : rm 12 l ≤ 4096) : Okw (codesL l) := by
  refine ⟨?_, fun x hx => ?_⟩
  · rw [List.nodup_iff_pairwise_ne, List.pairwise_iff_getElem]
    intro i k hi hk hik e
    have h1 := codes_pfree h hr k i hk hi (by omega)
    apply h1
    rw [List.getD_eq_getElem?_getD, List.getD_eq_getElem?_getD, List.getElem?_eq_getElem hi, List.getElem?_eq_getElem hk]
    simp only [Option.getD_some]
    rw [e]
    exact List.prefix_refl _
  · obtain ⟨i, hi, rfl⟩ := List.mem_map.1 hx
    intro e
    have := codeL_len l i
    rw [e, List.length_nil] at this
    have h2 := (h i (List.mem_range.1 hi)).1
    omega
end Go.Proofs.YtlfncplldppncaaDoor

/-
  Contracts of kraft.Check, share and Room: what is wrong with lengths, the room of one code, the room of all of them. Conditions: of share a length from 1 to 12; of Room none.
-/
namespace Go.Proofs.YtlfncplldppncaaDoor
open Go.RowKit

theorem lenC_iff {l : List Int} {k : Int} (h : LenC l k) : (k = 0 ↔ l.length ≤ 10 ∧ InL 1 12 l) := by
  rcases h with ⟨h1, rfl⟩ | ⟨h1, h2, rfl⟩ | ⟨h1, h2, rfl⟩
  · exact ⟨fun h => by omega, fun h => by omega⟩
  · exact ⟨fun h => by omega, fun h => absurd h.2 h2⟩
  · exact ⟨fun _ => ⟨h1, h2⟩, fun _ => rfl⟩
theorem lenC_one {l : List Int} {k k' : Int} (h : LenC l k) (h' : LenC l k') : k = k' := by
  rcases h with ⟨h1, rfl⟩ | ⟨h1, h2, rfl⟩ | ⟨h1, h2, rfl⟩ <;> rcases h' with ⟨h1', rfl⟩ | ⟨h1', h2', rfl⟩ | ⟨h1', h2', rfl⟩ <;> first | rfl | omega | (exact absurd h2' h2) | (exact absurd h2 h2')
theorem lenC_nums {E : List Nat} (h : E.length ≤ 10) (hE : LenOk E) : LenC (nums E) 0 := .inr (.inr ⟨by rw [nums_len]; exact h, fun i hi => by
  rw [nums_len] at hi
  rw [nums_at]
  have := hE i hi
  omega, rfl⟩)

set_option maxHeartbeats 1000000 in
theorem kcheck_any (A : Option Addr) (n c : Nat) (l : List Int) (w : World) (hl : IsInts w w.heap.size A n l) :
    Calls Tryd.prog 7 #[.slice A n c] w fun e w' => ((LenC l 0 ∧ e = .returned .nilIface) ∨ ∃ k, LenC l k ∧ k ≠ 0 ∧ e = .returned (.iface 44 (.int .i64 k))) ∧ w' = w := by
  have HN := hid hl.1
  have HL := hid hl
  have hlen := hl.1
  by_cases h10 : n ≤ 10
  · clear hl hlen
    have n2 : ¬ (10 < (n : Int)) := by omega
    go_enter Tryd.func7, Tryd.ntmps7
    go_wp2_with fail
    go_loopw [11] (fun x wr => ∃ i : Nat, i ≤ n ∧ x = .int .i64 i ∧ Hid (∀ j, j < i → 1 ≤ l.getD j 0 ∧ l.getD j 0 ≤ 12) ∧ wr = w) (fun x _ => n - (intOf x).toNat)
    case atStart => exact ⟨0, by omega, rfl, hid (fun j hj => absurd hj (by omega)), rfl⟩
    case round =>
      obtain ⟨i, hin, rfl, HO, hw⟩ := hrel
      subst wr
      by_cases hlt : i < n
      · obtain ⟨g, off, rfl, hg, hc⟩ := HL.out.2 (by omega)
        have c1 := hc i hlt
        clear hc
        by_cases hr : 1 ≤ l.getD i 0 ∧ l.getD i 0 ≤ 12
        · have HO2 : Hid (∀ j, j < i + 1 → 1 ≤ l.getD j 0 ∧ l.getD j 0 ≤ 12) := hid (fun j hj => by
            rcases Nat.lt_or_ge j i with h | h
            · exact HO.out j h
            · obtain rfl : j = i := by omega
              exact hr)
          generalize l.getD i 0 = X at c1 hr
          have r1 : ¬ (X < 1) := by omega
          have r2 : ¬ (12 < X) := by omega
          clear hr HO
          go_wp2_with fail
          go_roundw
          case rel => exact ⟨i + 1, by omega, by go_num, HO2, by first | rfl | trivial⟩
          case measure => simp [intOf]; omega
        · have HB : Hid (LenC l 1) := hid (.inr (.inl ⟨by have := HN.out; omega, fun h => hr (h i (by have := HN.out; omega)), rfl⟩))
          generalize l.getD i 0 = X at c1 hr
          have hX : X < 1 ∨ (¬ X < 1 ∧ 12 < X) := by omega
          clear hr HO
          rcases hX with r1 | ⟨r1, r2⟩
          · go_wp2_with fail
            go_ret
            exact ⟨.inr ⟨1, HB.out, by decide, rfl⟩, by first | rfl | trivial⟩
          · go_wp2_with fail
            go_ret
            exact ⟨.inr ⟨1, HB.out, by decide, rfl⟩, by first | rfl | trivial⟩
      · obtain rfl : i = n := by omega
        have HG : Hid (LenC l 0) := hid (.inr (.inr ⟨by have := HN.out; omega, fun j hj => HO.out j (by have := HN.out; omega), rfl⟩))
        clear HO
        go_wp2_with fail
        go_ret
        exact ⟨.inl ⟨HG.out, rfl⟩, by first | rfl | trivial⟩
  · have HB : Hid (LenC l 4) := hid (.inl ⟨by omega, rfl⟩)
    have n2 : 10 < (n : Int) := by omega
    clear HN HL hl hlen
    go_enter Tryd.func7, Tryd.ntmps7
    go_wp2_with fail
    go_ret
    exact ⟨.inr ⟨4, HB.out, by decide, rfl⟩, rfl⟩

theorem share_num {d : Nat} (h : d ≤ 12) : (4096 : Int) / 2 ^ d = ((2 ^ (12 - d) : Nat) : Int) := by
  have h1 := pow_part h
  have h2 : 4096 / 2 ^ d = 2 ^ (12 - d) := Nat.div_eq_of_eq_mul_right (Nat.pow_pos (by decide)) h1.symm
  rw [← h2, Int.natCast_ediv]
  rfl
theorem share_any (d : Nat) (w : World) (h : d ≤ 12) :
    Calls Tryd.prog 22 #[.int .i64 (d : Int)] w fun e w' => e = .returned (.int .i64 ((2 ^ (12 - d) : Nat) : Int)) ∧ w' = w := by
  have HE := hid (share_num h)
  generalize 2 ^ (12 - d) = R at HE ⊢
  go_enter Tryd.func22, Tryd.ntmps22
  go_wp2_with fail
  go_ret
  exact ⟨ret_int HE.out, rfl⟩

set_option maxHeartbeats 1000000 in
theorem kroom_ok (A : Option Addr) (n c : Nat) (E : List Nat) (w : World) (hl : IsInts w w.heap.size A n (nums E)) (h10 : n ≤ 10) (hE : LenOk E) :
    Calls Tryd.prog 9 #[.slice A n c] w fun e w' => e = .returned (.tuple #[.int .i64 ((rm 12 E : Nat) : Int), .nilIface]) ∧ Below w.heap.size w w' := by
  have hls : E.length = n := by rw [← nums_len]; exact hl.1
  have HC := hid (kcheck_any A n c (nums E) w hl)
  have HO := hid (lenC_nums (by omega) hE)
  have HI := hid hl
  have HL := hid hls
  have HE := hid hE
  clear hl hls hE
  go_enter Tryd.func9, Tryd.ntmps9
  go_wp2_with fail
  refine HC.out.mono ?_
  rintro e w1 ⟨h1, hw1⟩
  subst w1
  obtain ⟨_, rfl⟩ | ⟨k, hk, hk0, rfl⟩ := h1
  rotate_left
  · exact absurd (lenC_one hk HO.out) hk0
  clear HC HO
  go_wp2_with fail
  go_loopw [5, 15] (fun v x wr => ∃ i : Nat, i ≤ n ∧ x = .int .i64 i ∧ v = .int .i64 (rm 12 (E.take i) : Nat) ∧ wr = w) (fun _ x _ => n - (intOf x).toNat)
  case atStart => exact ⟨0, by omega, rfl, rfl, rfl⟩
  case round =>
    obtain ⟨i, hin, rfl, rfl, hwr⟩ := hrel
    subst wr
    by_cases hlt : i < n
    · obtain ⟨g, off, rfl, hg, hc⟩ := HI.out.2 (by omega)
      have c1 := hc i hlt
      rw [nums_at] at c1
      have hS := hid (rm_succ E (i := i) (by rw [HL.out]; exact hlt))
      have b1 : rm 12 (E.take i) ≤ 40960 := Nat.le_trans (rm_le _) (by rw [List.length_take]; omega)
      have h12 := (HE.out i (by rw [HL.out]; exact hlt)).2
      have HP := fun W => hid (share_any (E.getD i 0) W h12)
      have b2 : 2 ^ (12 - E.getD i 0) ≤ 4096 := pow_le (n := 12) (by omega)
      generalize rm 12 (E.take i) = R at hS b1
      generalize E.getD i 0 = K at c1 hS h12 HP b2
      generalize 2 ^ (12 - K) = Y at hS HP b2
      clear hc
      go_wp2_with fail
      refine (HP _).out.mono ?_
      rintro e w5 ⟨rfl, hw5⟩
      subst w5
      go_wp2_with fail
      go_roundw
      case rel => exact ⟨i + 1, by omega, by go_num, by rw [hS.out]; push_cast; rfl, by first | rfl | trivial⟩
      case measure => simp [intOf]; omega
    · obtain rfl : i = n := by omega
      have HT : Hid (rm 12 (E.take i) = rm 12 E) := hid (by rw [List.take_of_length_le (by rw [HL.out]; exact Nat.le_refl _)])
      generalize rm 12 (E.take i) = R at HT ⊢
      go_wp2_with fail
      go_ret2
      exact ⟨by rw [HT.out]; rfl, Below.refl _ _⟩
theorem kroom_bad (A : Option Addr) (n c : Nat) (ys : List Int) (k : Int) (w : World) (hl : IsInts w w.heap.size A n ys) (hk : LenC ys k) (hk0 : k ≠ 0) :
    Calls Tryd.prog 9 #[.slice A n c] w fun e w' => e = .returned (.tuple #[.int .i64 0, .iface 44 (.int .i64 k)]) ∧ Below w.heap.size w w' := by
  have HC := hid (kcheck_any A n c ys w hl)
  have HK := hid hk
  have HK0 := hid hk0
  clear hl hk hk0
  go_enter Tryd.func9, Tryd.ntmps9
  go_wp2_with fail
  refine HC.out.mono ?_
  rintro e w1 ⟨h1, hw1⟩
  subst w1
  obtain ⟨h0, rfl⟩ | ⟨k', hk', _, rfl⟩ := h1
  · exact absurd (lenC_one HK.out h0) HK0.out
  obtain rfl := lenC_one hk' HK.out
  clear HC HK HK0 hk'
  go_wp2_with fail
  go_ret2
  exact ⟨rfl, Below.refl _ _⟩
end Go.Proofs.YtlfncplldppncaaDoor

/-
  Plain mathematics of the stable sort, without a program: exchanges of two ranges (SwpR), rotations (RotP), rows in the order T (Srt), rows whose elements come from a range (Frm), two rows of which a test tells the order (Agr); insertion and merging keep the order T. No condition.
-/
namespace Go.Proofs.YtlfncplldppncaaDoor
open Go.Sort
section
variable {α : Type} [Inhabited α]

/-- The ranges of n cells at a and at b are exchanged. -/
def SwpR (d e : Array α) (a b n : Nat) : Prop :=
  e.size = d.size ∧ (∀ x, a ≤ x → x < a + n → e[x]! = d[b + (x - a)]!) ∧ (∀ x, b ≤ x → x < b + n → e[x]! = d[a + (x - b)]!) ∧ ∀ x, ¬ (a ≤ x ∧ x < a + n) → ¬ (b ≤ x ∧ x < b + n) → e[x]! = d[x]!
theorem SwpR.start (d : Array α) (a b : Nat) : SwpR d d a b 0 := ⟨rfl, fun x h1 h2 => by omega, fun x h1 h2 => by omega, fun _ _ _ => rfl⟩
theorem SwpR.step {d e : Array α} {a b n k : Nat} (h : SwpR d e a b k) (hab : a + n ≤ b) (hb : b + n ≤ d.size) (hk : k < n) : SwpR d (swp e (a + k) (b + k)) a b (k + 1) := by
  obtain ⟨h0, h1, h2, h3⟩ := h
  refine ⟨by rw [size_swp, h0], fun x hx1 hx2 => ?_, fun x hx1 hx2 => ?_, fun x hx1 hx2 => ?_⟩
  · rw [swp_get e (by omega) (by omega), if_neg (by omega)]
    by_cases hx : x = a + k
    · rw [if_pos hx, h3 (b + k) (by omega) (by omega), hx]; congr 1; omega
    · rw [if_neg hx, h1 x hx1 (by omega)]
  · rw [swp_get e (by omega) (by omega)]
    by_cases hx : x = b + k
    · rw [if_pos hx, h3 (a + k) (by omega) (by omega), hx]; congr 1; omega
    · rw [if_neg hx, if_neg (by omega), h2 x hx1 (by omega)]
  · rw [swp_get e (by omega) (by omega), if_neg (by omega), if_neg (by omega), h3 x (by omega) (by omega)]

/-- The range from a to b is rotated: what stood from m on comes first. -/
def RotP (d e : Array α) (a m b : Nat) : Prop :=
  e.size = d.size ∧ (∀ x, x < a ∨ b ≤ x → e[x]! = d[x]!) ∧ (∀ x, a ≤ x → x < a + (b - m) → e[x]! = d[x + (m - a)]!) ∧ ∀ x, a + (b - m) ≤ x → x < b → e[x]! = d[x - (b - m)]!
theorem rot_none_l (d : Array α) (m b : Nat) : RotP d d m m b := ⟨rfl, fun _ _ => rfl, fun x _ _ => by simp, fun x h1 h2 => by omega⟩
theorem rot_none_r (d : Array α) (a m : Nat) : RotP d d a m m := ⟨rfl, fun _ _ => rfl, fun x h1 h2 => by omega, fun x _ _ => by simp⟩
theorem rot_end {d e : Array α} {m i : Nat} (hi : i ≤ m) (h : SwpR d e (m - i) m i) : RotP d e (m - i) m (m + i) := by
  obtain ⟨h0, h1, h2, h3⟩ := h
  refine ⟨h0, fun x hx => h3 x (by omega) (by omega), fun x hx1 hx2 => ?_, fun x hx1 hx2 => ?_⟩
  · rw [h1 x hx1 (by omega)]; congr 1; omega
  · rw [h2 x (by omega) (by omega)]; congr 1; omega
theorem rot_left {d e f : Array α} {m i j : Nat} (hi : i ≤ m) (hj : j < i) (h : SwpR d e (m - i) m j) (hr : RotP e f (m - (i - j)) m (m + j)) : RotP d f (m - i) m (m + j) := by
  obtain ⟨h0, h1, h2, h3⟩ := h
  obtain ⟨r0, r1, r2, r3⟩ := hr
  refine ⟨by omega, fun x hx => ?_, fun x hx1 hx2 => ?_, fun x hx1 hx2 => ?_⟩
  · rw [r1 x (by omega), h3 x (by omega) (by omega)]
  · rw [r1 x (by omega), h1 x hx1 (by omega)]; congr 1; omega
  · by_cases hx : x < m - (i - j) + (m + j - m)
    · rw [r2 x (by omega) hx, h2 _ (by omega) (by omega)]; congr 1; omega
    · rw [r3 x (by omega) hx2, h3 _ (by omega) (by omega)]
theorem rot_right {d e f : Array α} {m i j : Nat} (hi : i ≤ m) (hj : i < j) (h : SwpR d e (m - i) (m + j - i) i) (hr : RotP e f (m - i) m (m + (j - i))) : RotP d f (m - i) m (m + j) := by
  obtain ⟨h0, h1, h2, h3⟩ := h
  obtain ⟨r0, r1, r2, r3⟩ := hr
  refine ⟨by omega, fun x hx => ?_, fun x hx1 hx2 => ?_, fun x hx1 hx2 => ?_⟩
  · rw [r1 x (by omega), h3 x (by omega) (by omega)]
  · by_cases hx : x < m - i + (m + (j - i) - m)
    · rw [r2 x (by omega) hx, h3 _ (by omega) (by omega)]
    · rw [r3 x (by omega) (by omega), h1 _ (by omega) (by omega)]; congr 1; omega
  · rw [r1 x (by omega), h2 x (by omega) (by omega)]; congr 1; omega
/-- One element goes up, place by place. -/
theorem rot_up {d e : Array α} {a k : Nat} (h : RotP d e a (a + 1) (k + 1)) (hk : a ≤ k) (hs : k + 1 < d.size) : RotP d (swp e k (k + 1)) a (a + 1) (k + 2) := by
  obtain ⟨h0, h1, h2, h3⟩ := h
  refine ⟨by rw [size_swp, h0], fun x hx => ?_, fun x hx1 hx2 => ?_, fun x hx1 hx2 => ?_⟩
  · rw [swp_get e (by omega) (by omega), if_neg (by omega), if_neg (by omega), h1 x (by omega)]
  · rw [swp_get e (by omega) (by omega), if_neg (by omega)]
    by_cases hx : x = k
    · rw [if_pos hx, h1 (k + 1) (by omega), hx]; congr 1; omega
    · rw [if_neg hx, h2 x hx1 (by omega)]
  · obtain rfl : x = k + 1 := by omega
    rw [swp_get e (by omega) (by omega), if_pos rfl, h3 k (by omega) (by omega)]; congr 1; omega
/-- One element goes down, place by place. -/
theorem rot_down {d e : Array α} {m k : Nat} (h : RotP d e k m (m + 1)) (hk : 0 < k) (hm : k ≤ m) (hs : m < d.size) : RotP d (swp e k (k - 1)) (k - 1) m (m + 1) := by
  obtain ⟨h0, h1, h2, h3⟩ := h
  refine ⟨by rw [size_swp, h0], fun x hx => ?_, fun x hx1 hx2 => ?_, fun x hx1 hx2 => ?_⟩
  · rw [swp_get e (by omega) (by omega), if_neg (by omega), if_neg (by omega), h1 x (by omega)]
  · obtain rfl : x = k - 1 := by omega
    rw [swp_get e (by omega) (by omega), if_pos rfl, h2 k (by omega) (by omega)]; congr 1; omega
  · rw [swp_get e (by omega) (by omega), if_neg (by omega)]
    by_cases hx : x = k
    · rw [if_pos hx, h1 (k - 1) (by omega), hx]; congr 1; omega
    · rw [if_neg hx, h3 x (by omega) hx2]

/-- An order of elements: total on what is different. -/
structure Tot (T : α → α → Prop) : Prop where
  trans : ∀ {x y z}, T x y → T y z → T x z
  irr : ∀ x, ¬ T x x
def Srt (T : α → α → Prop) (d : Array α) (a b : Nat) : Prop := ∀ x y, a ≤ x → x < y → y < b → T d[x]! d[y]!
/-- What stands from a to m, and from m to b: the test tells the order. -/
def Agr (lt : α → α → Bool) (T : α → α → Prop) (d : Array α) (a m b : Nat) : Prop :=
  ∀ x y, a ≤ x → x < m → m ≤ y → y < b → (lt d[y]! d[x]! = true → T d[y]! d[x]!) ∧ (lt d[y]! d[x]! = false → T d[x]! d[y]!)
/-- Behind a step the range from a to b holds elements that it held before, and the rest is as it was. -/
def Frm (d e : Array α) (a b : Nat) : Prop := e.size = d.size ∧ (∀ x, x < a ∨ b ≤ x → e[x]! = d[x]!) ∧ ∀ x, a ≤ x → x < b → ∃ y, a ≤ y ∧ y < b ∧ e[x]! = d[y]!
theorem Frm.refl (d : Array α) (a b : Nat) : Frm d d a b := ⟨rfl, fun _ _ => rfl, fun x h1 h2 => ⟨x, h1, h2, rfl⟩⟩
theorem Frm.trans {d e f : Array α} {a b : Nat} (h : Frm d e a b) (k : Frm e f a b) : Frm d f a b :=
  ⟨k.1.trans h.1, fun x hx => (k.2.1 x hx).trans (h.2.1 x hx), fun x h1 h2 => by
    obtain ⟨y, y1, y2, y3⟩ := k.2.2 x h1 h2
    obtain ⟨z, z1, z2, z3⟩ := h.2.2 y y1 y2
    exact ⟨z, z1, z2, y3.trans z3⟩⟩
theorem Frm.wide {d e : Array α} {a b a' b' : Nat} (h : Frm d e a b) (ha : a' ≤ a) (hb : b ≤ b') : Frm d e a' b' :=
  ⟨h.1, fun x hx => h.2.1 x (by omega), fun x h1 h2 => by
    by_cases hx : a ≤ x ∧ x < b
    · obtain ⟨y, y1, y2, y3⟩ := h.2.2 x hx.1 hx.2
      exact ⟨y, by omega, by omega, y3⟩
    · exact ⟨x, h1, h2, h.2.1 x (by omega)⟩⟩
theorem Frm.srt {T : α → α → Prop} {d e : Array α} {a b a' b' : Nat} (h : Frm d e a b) (hd : b' ≤ a ∨ b ≤ a') (hs : Srt T d a' b') : Srt T e a' b' := fun x y h1 h2 h3 => by
  rw [h.2.1 x (by omega), h.2.1 y (by omega)]; exact hs x y h1 h2 h3
theorem Srt.join {T : α → α → Prop} {d : Array α} {a m b : Nat} (h1 : Srt T d a m) (h2 : Srt T d m b) (hc : ∀ x y, a ≤ x → x < m → m ≤ y → y < b → T d[x]! d[y]!) : Srt T d a b := fun x y hx hxy hy => by
  by_cases h : y < m
  · exact h1 x y hx hxy h
  · by_cases h' : m ≤ x
    · exact h2 x y h' hxy hy
    · exact hc x y hx (by omega) (by omega) hy
theorem Srt.le {T : α → α → Prop} {d : Array α} {a b : Nat} (h : Srt T d a b) {a' b' : Nat} (ha : a ≤ a') (hb : b' ≤ b) : Srt T d a' b' := fun x y h1 h2 h3 => h x y (by omega) h2 (by omega)
theorem srt_one {T : α → α → Prop} {d : Array α} {a b : Nat} (h : b ≤ a + 1) : Srt T d a b := fun x y h1 h2 h3 => by omega
theorem rot_frm {d e : Array α} {s m t a b : Nat} (h : RotP d e s m t) (ha : a ≤ s) (hs : s ≤ m) (ht : m ≤ t) (hb : t ≤ b) : Frm d e a b := by
  obtain ⟨h0, h1, h2, h3⟩ := h
  refine ⟨h0, fun x hx => h1 x (by omega), fun x hx1 hx2 => ?_⟩
  by_cases c1 : x < s ∨ t ≤ x
  · exact ⟨x, hx1, hx2, h1 x c1⟩
  · by_cases c2 : x < s + (t - m)
    · exact ⟨_, by omega, by omega, h2 x (by omega) c2⟩
    · exact ⟨_, by omega, by omega, h3 x (by omega) (by omega)⟩
/-- What a rotation of the middle of two sorted rows makes: four rows, the first two and the last two to be merged. -/
theorem rot_split {lt : α → α → Bool} {T : α → α → Prop} {d e : Array α} {a s m t b c : Nat} (hr : RotP d e s m t) (ha : a ≤ s) (hs : s ≤ m) (ht : m ≤ t) (hb : t ≤ b) (hc : c = s + (t - m))
    (hL : Srt T d a m) (hR : Srt T d m b) (hA : Agr lt T d a m b) :
    Srt T e a s ∧ Srt T e s c ∧ Srt T e c t ∧ Srt T e t b ∧ Agr lt T e a s c ∧ Agr lt T e c t b := by
  obtain ⟨h0, h1, h2, h3⟩ := hr
  subst hc
  refine ⟨fun x y x1 x2 x3 => ?_, fun x y x1 x2 x3 => ?_, fun x y x1 x2 x3 => ?_, fun x y x1 x2 x3 => ?_, fun x y x1 x2 y1 y2 => ?_, fun x y x1 x2 y1 y2 => ?_⟩
  · rw [h1 x (by omega), h1 y (by omega)]; exact hL x y (by omega) x2 (by omega)
  · rw [h2 x (by omega) (by omega), h2 y (by omega) (by omega)]; exact hR _ _ (by omega) (by omega) (by omega)
  · rw [h3 x (by omega) (by omega), h3 y (by omega) (by omega)]; exact hL _ _ (by omega) (by omega) (by omega)
  · rw [h1 x (by omega), h1 y (by omega)]; exact hR x y (by omega) x2 (by omega)
  · rw [h1 x (by omega), h2 y (by omega) (by omega)]; exact hA _ _ (by omega) (by omega) (by omega) (by omega)
  · rw [h3 x (by omega) (by omega), h1 y (by omega)]; exact hA _ _ (by omega) (by omega) (by omega) (by omega)
theorem srt_to {T : α → α → Prop} (hT : Tot T) {d : Array α} {a b x y : Nat} {z : α} (h : Srt T d a b) (hx : a ≤ x) (hxy : x ≤ y) (hy : y < b) (hz : T d[y]! z) : T d[x]! z := by
  rcases Nat.lt_or_eq_of_le hxy with h' | rfl
  · exact hT.trans (h x y hx h' hy) hz
  · exact hz
theorem srt_from {T : α → α → Prop} (hT : Tot T) {d : Array α} {a b x y : Nat} {z : α} (h : Srt T d a b) (hx : a ≤ x) (hxy : x ≤ y) (hy : y < b) (hz : T z d[x]!) : T z d[y]! := by
  rcases Nat.lt_or_eq_of_le hxy with h' | rfl
  · exact hT.trans hz (h x y hx h' hy)
  · exact hz
/-- .. and all of the first two stand ahead of all of the last two. -/
theorem rot_cross {T : α → α → Prop} (hT : Tot T) {d e : Array α} {a s m t b c : Nat} (hr : RotP d e s m t) (ha : a ≤ s) (hs : s ≤ m) (ht : m ≤ t) (hb : t ≤ b) (hc : c = s + (t - m))
    (hL : Srt T d a m) (hR : Srt T d m b) (h1 : a < s → t < b → T d[s - 1]! d[t]!) (h2 : m < t → s < m → T d[t - 1]! d[s]!) : ∀ x y, a ≤ x → x < c → c ≤ y → y < b → T e[x]! e[y]! := by
  obtain ⟨_, r1, r2, r3⟩ := hr
  subst hc
  intro x y x1 x2 y1 y2
  by_cases hx : x < s
  · rw [r1 x (.inl hx)]
    by_cases hy : y < t
    · rw [r3 y y1 hy]; exact hL _ _ x1 (by omega) (by omega)
    · rw [r1 y (by omega)]
      exact srt_to hT hL x1 (by omega) (show s - 1 < m by omega) (srt_from hT hR (x := t) (by omega) (by omega) y2 (h1 (by omega) (by omega)))
  · rw [r2 x (by omega) x2]
    by_cases hy : y < t
    · rw [r3 y y1 hy]
      exact srt_to hT hR (y := t - 1) (by omega) (by omega) (by omega) (srt_from hT hL (x := s) (by omega) (by omega) (by omega) (h2 (by omega) (by omega)))
    · rw [r1 y (by omega)]; exact hR _ _ (by omega) (by omega) y2
/-- Two rows merged, one of which is one element: it has found its place. -/
theorem merge_up {T : α → α → Prop} {d e : Array α} {a b i : Nat} (hr : RotP d e a (a + 1) i) (hi : a + 1 ≤ i) (hb : i ≤ b) (hR : Srt T d (a + 1) b)
    (h1 : ∀ y, a + 1 ≤ y → y < i → T d[y]! d[a]!) (h2 : ∀ y, i ≤ y → y < b → T d[a]! d[y]!) : Frm d e a b ∧ Srt T e a b := by
  refine ⟨rot_frm hr (Nat.le_refl _) (by omega) hi hb, ?_⟩
  obtain ⟨_, r1, r2, r3⟩ := hr
  intro x y x1 xy y1
  by_cases hy : i ≤ y
  · rw [r1 y (by omega)]
    by_cases hx : i ≤ x
    · rw [r1 x (by omega)]; exact hR x y (by omega) xy y1
    · by_cases hx' : x < a + (i - (a + 1))
      · rw [r2 x x1 hx']; exact hR _ _ (by omega) (by omega) y1
      · rw [r3 x (by omega) (by omega), show x - (i - (a + 1)) = a by omega]; exact h2 y hy y1
  · rw [r2 x x1 (by omega)]
    by_cases hy' : y < a + (i - (a + 1))
    · rw [r2 y (by omega) hy']; exact hR _ _ (by omega) (by omega) (by omega)
    · rw [r3 y (by omega) (by omega), show y - (i - (a + 1)) = a by omega]; exact h1 _ (by omega) (by omega)
theorem merge_down {T : α → α → Prop} {d e : Array α} {a m i : Nat} (hr : RotP d e i m (m + 1)) (ha : a ≤ i) (hi : i ≤ m) (hL : Srt T d a m)
    (h1 : ∀ x, a ≤ x → x < i → T d[x]! d[m]!) (h2 : ∀ x, i ≤ x → x < m → T d[m]! d[x]!) : Frm d e a (m + 1) ∧ Srt T e a (m + 1) := by
  refine ⟨rot_frm hr ha hi (by omega) (Nat.le_refl _), ?_⟩
  obtain ⟨_, r1, r2, r3⟩ := hr
  intro x y x1 xy y1
  by_cases hx : x < i
  · rw [r1 x (.inl hx)]
    by_cases hy : y < i
    · rw [r1 y (.inl hy)]; exact hL x y x1 xy (by omega)
    · by_cases hy' : y < i + (m + 1 - m)
      · rw [r2 y (by omega) hy', show y + (m - i) = m by omega]; exact h1 x x1 hx
      · rw [r3 y (by omega) y1]; exact hL _ _ x1 (by omega) (by omega)
  · by_cases hx' : x < i + (m + 1 - m)
    · rw [r2 x (by omega) hx', show x + (m - i) = m by omega, r3 y (by omega) y1]; exact h2 _ (by omega) (by omega)
    · rw [r3 x (by omega) (by omega), r3 y (by omega) y1]; exact hL _ _ (by omega) (by omega) (by omega)
/-- Both halves sorted, one behind the other. -/
theorem merge_both {T : α → α → Prop} {d e f : Array α} {a c b : Nat} (hac : a ≤ c) (hcb : c ≤ b) (hC : ∀ x y, a ≤ x → x < c → c ≤ y → y < b → T d[x]! d[y]!) (h1 : Frm d e a c) (s1 : Srt T e a c) (h2 : Frm e f c b) (s2 : Srt T f c b) : Frm d f a b ∧ Srt T f a b := by
  refine ⟨(h1.wide (Nat.le_refl _) hcb).trans (h2.wide hac (Nat.le_refl _)), Srt.join (h2.srt (.inl (Nat.le_refl _)) s1) s2 fun x y x1 x2 y1 y2 => ?_⟩
  rw [h2.2.1 x (.inl x2)]
  obtain ⟨z, z1, z2, z3⟩ := h1.2.2 x x1 x2
  obtain ⟨u, u1, u2, u3⟩ := h2.2.2 y y1 y2
  rw [z3, u3, h1.2.1 u (.inr u1)]
  exact hC z u z1 z2 u1 u2

/-! ### Insertion -/
/-- While an element is being put into its place: the rest is sorted, what stands behind it is behind it. -/
theorem ins_in {lt : α → α → Bool} {T : α → α → Prop} (hT : Tot T) (a i : Nat) : ∀ (j : Nat) (d : Array α), a ≤ j → j ≤ i → i < d.size →
    (∀ x y, a ≤ x → x < y → y ≤ i → x ≠ j → y ≠ j → T d[x]! d[y]!) → (∀ y, j < y → y ≤ i → T d[j]! d[y]!) → (∀ x, a ≤ x → x < j → (lt d[j]! d[x]! = true → T d[j]! d[x]!) ∧ (lt d[j]! d[x]! = false → T d[x]! d[j]!)) →
    Frm d (insInner lt a j d) a (i + 1) ∧ Srt T (insInner lt a j d) a (i + 1) := by
  intro j
  induction j with
  | zero =>
    intro d ha hi hs h1 h2 h3
    rw [insInner_stop lt a 0 d (.inl (by omega))]
    refine ⟨Frm.refl _ _ _, fun x y x1 xy y1 => ?_⟩
    by_cases hx : x = 0
    · subst hx; exact h2 y xy (by omega)
    · exact h1 x y x1 xy (by omega) hx (by omega)
  | succ j ih =>
    intro d ha hi hs h1 h2 h3
    by_cases hst : j + 1 ≤ a ∨ lt d[j + 1]! d[j + 1 - 1]! = false
    · rw [insInner_stop lt a (j + 1) d hst]
      refine ⟨Frm.refl _ _ _, fun x y x1 xy y1 => ?_⟩
      by_cases hx : x = j + 1
      · subst hx; exact h2 y xy (by omega)
      · by_cases hy : y = j + 1
        · subst hy
          have hl : T d[j]! d[j + 1]! := (h3 j (by omega) (by omega)).2 (by rcases hst with h | h; (omega); (exact h))
          rcases Nat.lt_or_eq_of_le (show x ≤ j by omega) with h | rfl
          · exact hT.trans (h1 x j x1 h (by omega) hx (by omega)) hl
          · exact hl
        · exact h1 x y x1 xy (by omega) hx hy
    · have hgo := not_or.1 hst
      have hlt : lt d[j + 1]! d[j]! = true := by simpa using hgo.2
      rw [insInner_go lt a (j + 1) d (by omega) hlt, Nat.add_sub_cancel]
      have hg := swp_get d (i := j + 1) (j := j) (by omega) (by omega)
      have hT1 := (h3 j (by omega) (by omega)).1 hlt
      obtain ⟨f1, f2⟩ := ih (swp d (j + 1) j) (by omega) (by omega) (by rw [size_swp]; exact hs) (fun x y x1 xy y1 hx hy => by
          rw [hg x, hg y, if_neg hx, if_neg hy]
          by_cases e1 : x = j + 1
          · rw [if_pos e1, if_neg (by omega)]; exact h1 j y (by omega) (by omega) y1 (by omega) (by omega)
          · rw [if_neg e1]
            by_cases e2 : y = j + 1
            · rw [if_pos e2]; exact h1 x j x1 (by omega) (by omega) e1 (by omega)
            · rw [if_neg e2]; exact h1 x y x1 xy y1 e1 e2)
        (fun y y1 y2 => by
          rw [hg j, hg y, if_pos rfl, if_neg (by omega)]
          by_cases e : y = j + 1
          · rw [if_pos e]; exact hT1
          · rw [if_neg e]; exact h2 y (by omega) y2)
        (fun x x1 x2 => by
          rw [hg j, hg x, if_pos rfl, if_neg (by omega), if_neg (by omega)]
          exact h3 x x1 (by omega))
      refine ⟨Frm.trans ⟨by rw [size_swp], fun x hx => ?_, fun x x1 x2 => ?_⟩ f1, f2⟩
      · rw [hg x, if_neg (by omega), if_neg (by omega)]
      · rw [hg x]
        by_cases e : x = j
        · rw [if_pos e]; exact ⟨j + 1, by omega, by omega, rfl⟩
        · rw [if_neg e]
          by_cases e' : x = j + 1
          · rw [if_pos e']; exact ⟨j, by omega, by omega, rfl⟩
          · rw [if_neg e']; exact ⟨x, x1, x2, rfl⟩
/-- Insertion sort of a row in which the test tells the order of any two, the first one standing ahead. -/
theorem ins_out {lt : α → α → Bool} {T : α → α → Prop} (hT : Tot T) (a b : Nat) (d0 : Array α) (hb : b ≤ d0.size)
    (hA : ∀ x y, a ≤ x → x < y → y < b → (lt d0[y]! d0[x]! = true → T d0[y]! d0[x]!) ∧ (lt d0[y]! d0[x]! = false → T d0[x]! d0[y]!)) : ∀ n i d, i + n = b → a < i → Frm d0 d a i → Srt T d a i →
    Frm d0 (insOuter lt a b i d) a b ∧ Srt T (insOuter lt a b i d) a b := by
  intro n
  induction n with
  | zero =>
    intro i d hn hai hf hs
    obtain rfl : i = b := by omega
    rw [insOuter_stop lt a i i d (by omega)]
    exact ⟨hf, hs⟩
  | succ n ih =>
    intro i d hn hai hf hs
    rw [insOuter_go lt a b i d (by omega)]
    have hi : d[i]! = d0[i]! := hf.2.1 i (.inr (Nat.le_refl _))
    obtain ⟨f1, f2⟩ := ins_in (lt := lt) hT a i i d (by omega) (Nat.le_refl _) (by rw [hf.1]; omega) (fun x y x1 xy y1 hx hy => hs x y x1 xy (by omega)) (fun y y1 y2 => by omega) (fun x x1 x2 => by
      obtain ⟨z, z1, z2, z3⟩ := hf.2.2 x x1 x2
      rw [hi, z3]
      exact hA z i z1 z2 (by omega))
    exact ih (i + 1) _ (by omega) (by omega) ((hf.wide (Nat.le_refl _) (by omega)).trans f1) f2
theorem ins_srt {lt : α → α → Bool} {T : α → α → Prop} (hT : Tot T) (a b : Nat) (d : Array α) (hab : a ≤ b) (hb : b ≤ d.size)
    (hA : ∀ x y, a ≤ x → x < y → y < b → (lt d[y]! d[x]! = true → T d[y]! d[x]!) ∧ (lt d[y]! d[x]! = false → T d[x]! d[y]!)) : Frm d (insertionSort lt d a b) a b ∧ Srt T (insertionSort lt d a b) a b := by
  unfold insertionSort
  by_cases h : a < b
  · exact ins_out hT a b d hb hA (b - (a + 1)) (a + 1) d (by omega) (by omega) (Frm.refl _ _ _) (srt_one (by omega))
  · rw [insOuter_stop lt a b (a + 1) d (by omega)]
    exact ⟨Frm.refl _ _ _, srt_one (by omega)⟩
end
end Go.Proofs.YtlfncplldppncaaDoor

/-
  A contract of the library, laid at this program's own numbers. No condition.
-/
namespace Go.Proofs.YtlfncplldppncaaDoor
open Go.Shelf

def insInt_ren : Go.Shelf.Ren := ⟨fun | 20 => 45 | n => n, fun | 24 => 3 | 22 => 22 | 3 => 3 | 25 => 59 | 4 => 4 | 0 => 0 | n => n, fun | n => n⟩
theorem insInt : SlLaysF.n20 Tryd.prog insInt_ren :=
  {
    mixed := by kernel_rfl,
    f20 := ⟨Tryd.f45.name, by decide, Tryd.func45.trans (congrArg some (by kernel_rfl))⟩,
    t0 := Tryd.underlying0,
    a0 := Tryd.isAgg0,
    z0 := Tryd.sizeOf0,
    v0 := Tryd.zeroValue0,
    t3 := Tryd.underlying3,
    a3 := Tryd.isAgg3,
    z3 := Tryd.sizeOf3,
    v3 := Tryd.zeroValue3,
    t4 := Tryd.underlying4,
    a4 := Tryd.isAgg4,
    z4 := Tryd.sizeOf4,
    v4 := Tryd.zeroValue4,
    t22 := Tryd.underlying22,
    a22 := Tryd.isAgg22,
    z22 := Tryd.sizeOf22,
    v22 := Tryd.zeroValue22,
    a24 := Tryd.isAgg3,
    z24 := Tryd.sizeOf3,
    t25 := Tryd.underlying59,
    a25 := Tryd.isAgg59,
    z25 := Tryd.sizeOf59,
    v25 := Tryd.zeroValue59 }
end Go.Proofs.YtlfncplldppncaaDoor

/-
  Contracts of slices.stableCmpFunc and slices.SortStableFunc at ints, for fewer than 20 elements: the row comes into the order T that the test tells of any two elements, the first one standing ahead. No element: nothing turns.
-/
namespace Go.Proofs.YtlfncplldppncaaDoor
open Go.Shelf Go.RowKit Go.Lib Go.Sort
variable {α : Type} [Inhabited α]

theorem ins_none (p : Option Addr) (cap : Nat) (fv : Value) (w : World) :
    Calls Tryd.prog 45 #[.slice p 0 cap, .int .i64 0, .int .i64 0, fv] w fun e w' => e = .returned (.tuple #[]) ∧ w' = w := by
  go_enter Tryd.func45, Tryd.ntmps45
  go_wp2
  refine wp_loop_rounds 1 ?_
  rw [rounds_succ]
  go_wp2
  go_end0
  exact ⟨rfl, rfl⟩
set_option maxRecDepth 100000 in
theorem stable_none (p : Option Addr) (cap : Nat) (fv : Value) (w : World) :
    Calls Tryd.prog 40 #[.slice p 0 cap, .int .i64 0, fv] w fun e w' => e = .returned (.tuple #[]) ∧ w' = w := by
  have H := hid (ins_none p cap fv w)
  go_enter Tryd.func40, Tryd.ntmps40
  go_wp2
  refine wp_loop_rounds 1 ?_
  rw [rounds_succ]
  go_wp2_with fail
  refine H.out.mono ?_
  rintro e w' ⟨rfl, hw'⟩
  subst w'
  go_wp2_with fail
  refine wp_loop_rounds 1 ?_
  rw [rounds_succ]
  go_wp2
  go_end0
  exact ⟨rfl, rfl⟩
theorem sortstable_none (p : Option Addr) (cap : Nat) (fv : Value) (w : World) :
    Calls Tryd.prog 33 #[.slice p 0 cap, fv] w fun e w' => e = .returned (.tuple #[]) ∧ w' = w := by
  have H := hid (stable_none p cap fv w)
  go_enter Tryd.func33, Tryd.ntmps33
  go_wp2_with fail
  refine H.out.mono ?_
  rintro e w' ⟨rfl, hw'⟩
  subst w'
  go_wp2_with fail
  go_end0
  exact ⟨rfl, rfl⟩

/-- What a stable sort of few elements gives. -/
def StbL (enc : α → Value) (T : α → α → Prop) (blk off : Nat) (d : Array α) (w : World) (e : Ending) (w' : World) : Prop :=
  e = .returned (.tuple #[]) ∧ ∃ d', (Frm d d' 0 d.size ∧ Srt T d' 0 d.size) ∧ SW enc w blk off d' w'

set_option maxHeartbeats 4000000 in
set_option maxRecDepth 1000000 in
theorem stable_few (enc : α → Value) (cf : α → α → Int) (T : α → α → Prop) (hT : Tot T) (g : Nat) (cb : Array Value) (blk off cap : Nat) (d : Array α) (w : World)
    (eg : ∀ args w, (callFunc g args).run Tryd.prog w = .ok (.enter g args) w) (hcmp : CmpLays1 Tryd.prog g cb enc cf blk off d.size w) (R : Row1 enc w blk off d) (hsz : d.size < 20)
    (hA : ∀ x y, x < y → y < d.size → (ltOf cf d[y]! d[x]! = true → T d[y]! d[x]!) ∧ (ltOf cf d[y]! d[x]! = false → T d[x]! d[y]!)) :
    Calls Tryd.prog 40 #[.slice (some ⟨blk, off, none⟩) d.size cap, .int .i64 d.size, .func (.func g) #[] cb] w (StbL enc T blk off d w) := by
  have S0 : SW enc w blk off d w := SW.start R.hH
  have h20z : ¬ (20 : Int) ≤ (d.size : Int) := by omega
  have h20y : ¬ (20 : Int) < (d.size : Int) := by omega
  have c1 := hid (Any.insertionSortCmpFunc_s insInt enc cf g cb blk off cap 0 d.size d d w w eg hcmp R rfl S0 (by omega) (Nat.le_refl _) (by omega))
  have HF := hid (ins_srt (lt := ltOf cf) hT 0 d.size d (Nat.zero_le _) (Nat.le_refl _) (fun x y _ h1 h2 => hA x y h1 h2))
  clear S0 hA hcmp R
  go_enter Tryd.func40, Tryd.ntmps40
  go_wp2
  refine wp_loop_rounds 1 ?_
  rw [rounds_succ]
  go_wp2_with fail
  refine c1.out.mono ?_
  rintro e w1 ⟨rfl, S1⟩
  have HS1 := hid S1
  clear S1
  go_wp2_with fail
  refine wp_loop_rounds 1 ?_
  rw [rounds_succ]
  go_wp2_with fail
  go_end0
  exact ⟨rfl, _, HF.out, HS1.out⟩

theorem sortstable_few (enc : α → Value) (cf : α → α → Int) (T : α → α → Prop) (hT : Tot T) (g : Nat) (cb : Array Value) (blk off cap : Nat) (d : Array α) (w : World)
    (eg : ∀ args w, (callFunc g args).run Tryd.prog w = .ok (.enter g args) w) (hcmp : CmpLays1 Tryd.prog g cb enc cf blk off d.size w) (R : Row1 enc w blk off d) (hsz : d.size < 20)
    (hA : ∀ x y, x < y → y < d.size → (ltOf cf d[y]! d[x]! = true → T d[y]! d[x]!) ∧ (ltOf cf d[y]! d[x]! = false → T d[x]! d[y]!)) :
    Calls Tryd.prog 33 #[.slice (some ⟨blk, off, none⟩) d.size cap, .func (.func g) #[] cb] w (StbL enc T blk off d w) := by
  have H := hid (stable_few enc cf T hT g cb blk off cap d w eg hcmp R hsz hA)
  clear hcmp R hA
  go_enter Tryd.func33, Tryd.ntmps33
  go_wp2_with fail
  refine H.out.mono ?_
  rintro e w' ⟨rfl, hr⟩
  go_wp2_with fail
  go_end0
  exact ⟨rfl, hr⟩
end Go.Proofs.YtlfncplldppncaaDoor

/-
  Plain mathematics, without a program: an order of places by lengths, what is taken ahead of each of them, and the bits of a number by their places. No condition.
-/
namespace Go.Proofs.YtlfncplldppncaaDoor

/-- An order of all places: the shorter ones first, of equal ones the earlier one. -/
def LOrd (E o : List Nat) : Prop := o.Perm (List.range E.length) ∧ o.Pairwise fun a b => E.getD a 0 < E.getD b 0 ∨ (E.getD a 0 = E.getD b 0 ∧ a < b)
/-- The room of those in a list. -/
def tkn (E l : List Nat) : Nat := (l.map fun j => 2 ^ (12 - E.getD j 0)).sum
theorem tkn_perm {E l m : List Nat} (h : l.Perm m) : tkn E l = tkn E m := (h.map _).sum_nat
theorem tkn_snoc (E l : List Nat) (j : Nat) : tkn E (l ++ [j]) = tkn E l + 2 ^ (12 - E.getD j 0) := by simp [tkn]
theorem usd_tkn (E : List Nat) (n i : Nat) : ∀ k, usdTo E n i k = tkn E ((List.range k).filter (bef E n i)) := by
  intro k
  induction k with
  | zero => rfl
  | succ k ih =>
    rw [usdTo, ih, List.range_succ, List.filter_append]
    by_cases e : bef E n i k = true
    · rw [if_pos e, List.filter_cons_of_pos (by simpa using e), List.filter_nil, tkn_snoc]
    · rw [if_neg e, List.filter_cons_of_neg (by simpa using e), List.filter_nil, List.append_nil]; rfl
theorem ord_len {E o : List Nat} (h : LOrd E o) : o.length = E.length := by rw [h.1.length_eq, List.length_range]
theorem ord_lt {E o : List Nat} (h : LOrd E o) {t : Nat} (ht : t < o.length) : o.getD t 0 < E.length := by
  rw [List.getD_eq_getElem?_getD, List.getElem?_eq_getElem ht]
  exact List.mem_range.1 (h.1.mem_iff.1 (List.getElem_mem ht))
theorem ord_nodup {E o : List Nat} (h : LOrd E o) : o.Nodup := h.1.nodup_iff.2 List.nodup_range
/-- Those ahead of a place in the order are those that come ahead of it. -/
theorem ord_ahead {E o : List Nat} (h : LOrd E o) {t : Nat} (ht : t < o.length) : o.filter (bef E (E.getD (o.getD t 0) 0) (o.getD t 0)) = o.take t := by
  have hp := List.pairwise_iff_getElem.1 h.2
  have e1 : o.getD t 0 = o[t] := by simp [ht]
  rw [e1]
  have hs : o = o.take t ++ o[t] :: o.drop (t + 1) := by rw [List.getElem_cons_drop, List.take_append_drop]
  have hf : o.filter (bef E (E.getD o[t] 0) o[t]) = (o.take t ++ o[t] :: o.drop (t + 1)).filter (bef E (E.getD o[t] 0) o[t]) := congrArg _ hs
  rw [hf, List.filter_append, List.filter_eq_self.2 ?_, List.filter_eq_nil_iff.2 ?_, List.append_nil]
  · intro x hx
    rw [bef_iff]
    rcases List.mem_cons.1 hx with rfl | hx
    · omega
    · obtain ⟨j, hj, rfl⟩ := List.getElem_of_mem hx
      rw [List.length_drop] at hj
      rw [List.getElem_drop]
      have := hp t (t + 1 + j) ht (by omega) (by omega)
      omega
  · intro x hx
    rw [bef_iff]
    obtain ⟨j, hj, rfl⟩ := List.getElem_of_mem hx
    rw [List.length_take] at hj
    rw [List.getElem_take]
    exact hp j t (by omega) ht (by omega)
/-- What is taken ahead of a place in the order is what those ahead of it use. -/
theorem ord_ahd {E o : List Nat} (h : LOrd E o) {t : Nat} (ht : t < o.length) : tkn E (o.take t) = ahd E (o.getD t 0) := by
  unfold ahd usd
  rw [usd_tkn, ← tkn_perm (h.1.filter _), ord_ahead h ht]
theorem ord_next {E o : List Nat} {t : Nat} (ht : t < o.length) : tkn E (o.take (t + 1)) = tkn E (o.take t) + 2 ^ (12 - E.getD (o.getD t 0) 0) := by
  rw [List.take_succ_eq_append_getElem ht, tkn_snoc]
  simp [ht]
/-- A bit of a number, by its place. -/
theorem bits_at (n : Nat) : ∀ (k i : Nat), i < n → (bitsL n k).getD i 0 = if (k / 2 ^ (n - 1 - i)) % 2 = 1 then 49 else 48 := by
  induction n with
  | zero => intro k i h; omega
  | succ n ih =>
    intro k i h
    rw [bitsL]
    by_cases e : i = n
    · subst e
      rw [List.getD_eq_getElem?_getD, List.getElem?_append_right (by rw [bits_len]; exact Nat.le_refl _), bits_len]
      simp
    · have hi : i < n := by omega
      rw [List.getD_eq_getElem?_getD, List.getElem?_append_left (by rw [bits_len]; exact hi), ← List.getD_eq_getElem?_getD, ih _ _ hi, Nat.div_div_eq_div_mul, show n + 1 - 1 - i = (n - 1 - i) + 1 by omega, Nat.pow_succ, Nat.mul_comm 2]
end Go.Proofs.YtlfncplldppncaaDoor
