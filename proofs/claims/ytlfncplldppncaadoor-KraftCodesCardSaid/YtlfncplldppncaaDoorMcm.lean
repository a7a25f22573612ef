/-
  Plain mathematics, without a program: McMillan: words of two signs that can be told apart have room. No condition.
-/
import Derived.Test.YtlfncplldppncaaDoorSard
import Derived.Test.YtlfncplldppncaaDoorHuf
namespace Go.Proofs.YtlfncplldppncaaDoor

/-- A word of 0 and 1. -/
def Bin (x : List UInt8) : Prop := ∀ c ∈ x, c = 48 ∨ c = 49
theorem bin_app {x y : List UInt8} (hx : Bin x) (hy : Bin y) : Bin (x ++ y) := fun c hc => by
  rcases List.mem_append.1 hc with hc | hc
  · exact hx c hc
  · exact hy c hc
/-- Different words of B signs are at most 2 ^ B. -/
theorem bin_few (B : Nat) : ∀ X : List (List UInt8), X.Nodup → (∀ x ∈ X, Bin x ∧ x.length = B) → X.length ≤ 2 ^ B := by
  induction B with
  | zero =>
    intro X hn h
    match X, hn, h with
    | [], _, _ => simp
    | [_], _, _ => simp
    | x :: y :: X, hn, h =>
      have h1 := List.eq_nil_of_length_eq_zero (h x (by simp)).2
      have h2 := List.eq_nil_of_length_eq_zero (h y (by simp)).2
      rw [List.nodup_cons] at hn
      exact absurd (by rw [h1, h2]; simp) hn.1
  | succ B ih =>
    intro X hn h
    have part : ∀ (c : UInt8), ((X.filter fun x => x.head? == some c).map List.tail).length ≤ 2 ^ B := by
      intro c
      refine ih _ ?_ ?_
      · have hf := hn.filter (fun x => x.head? == some c)
        refine List.pairwise_map.2 (hf.imp_of_mem ?_)
        intro a b ha hb hne e
        have ha := (List.mem_filter.1 ha).2
        have hb := (List.mem_filter.1 hb).2
        cases a with
        | nil => simp at ha
        | cons p a =>
          cases b with
          | nil => simp at hb
          | cons q b =>
            simp at ha hb e
            exact hne (by rw [ha, hb, e])
      · intro y hy
        obtain ⟨x, hx, rfl⟩ := List.mem_map.1 hy
        obtain ⟨hx1, hx2⟩ := h x (List.mem_filter.1 hx).1
        exact ⟨fun c hc => hx1 c (List.mem_of_mem_tail hc), by rw [List.length_tail]; omega⟩
    have two : ∀ L : List (List UInt8), (∀ x ∈ L, x.head? = some 48 ∨ x.head? = some 49) → L.length = (L.filter fun x => x.head? == some (48 : UInt8)).length + (L.filter fun x => x.head? == some (49 : UInt8)).length := by
      intro L
      induction L with
      | nil => intro _; rfl
      | cons x L ihL =>
        intro hL
        have := ihL (fun y hy => hL y (by simp [hy]))
        rcases hL x (by simp) with e | e
        · rw [List.filter_cons, List.filter_cons, e]
          simp [this]; omega
        · rw [List.filter_cons, List.filter_cons, e]
          simp [this]; omega
    have h48 := part 48
    have h49 := part 49
    rw [List.length_map] at h48 h49
    rw [two X (fun x hx => ?_), Nat.pow_succ]
    · omega
    · obtain ⟨hx1, hx2⟩ := h x hx
      cases x with
      | nil => simp at hx2
      | cons c x => simpa using hx1 c (by simp)
/-- The room of words as long as they are, of 2 ^ B. -/
def rmX (B : Nat) : List (List UInt8) → Nat
  | [] => 0
  | x :: X => 2 ^ (B - x.length) + rmX B X
theorem rmX_app (B : Nat) (X Y : List (List UInt8)) : rmX B (X ++ Y) = rmX B X + rmX B Y := by
  induction X with
  | nil => simp [rmX]
  | cons x X ih => rw [List.cons_append, rmX, rmX, ih]; omega
theorem rmX_split (B : Nat) (X : List (List UInt8)) (h : ∀ x ∈ X, x.length ≤ B + 1) :
    rmX (B + 1) X = (X.filter fun x => x.length == B + 1).length + 2 * rmX B (X.filter fun x => !(x.length == B + 1)) := by
  induction X with
  | nil => rfl
  | cons x X ih =>
    have h1 := ih (fun y hy => h y (by simp [hy]))
    have h2 := h x (by simp)
    rw [rmX, h1]
    by_cases e : x.length = B + 1
    · simp [e]; omega
    · have e2 : (x.length == B + 1) = false := by simpa using e
      rw [List.filter_cons, List.filter_cons, e2]
      simp only [Bool.not_false, if_true, Bool.false_eq_true, if_false, rmX]
      rw [show B + 1 - x.length = (B - x.length) + 1 by omega, Nat.pow_succ]
      omega
/-- Different words of at most B signs have no more room than B + 1 times all. -/
theorem rmX_few (B : Nat) : ∀ X : List (List UInt8), X.Nodup → (∀ x ∈ X, Bin x ∧ x.length ≤ B) → rmX B X ≤ (B + 1) * 2 ^ B := by
  induction B with
  | zero =>
    intro X hn h
    have h1 := bin_few 0 X hn (fun x hx => ⟨(h x hx).1, by have := (h x hx).2; omega⟩)
    have h2 : ∀ Y : List (List UInt8), rmX 0 Y = Y.length := by
      intro Y
      induction Y with
      | nil => rfl
      | cons y Y ih => rw [rmX, ih, List.length_cons]; simp; omega
    rw [h2]
    simpa using h1
  | succ B ih =>
    intro X hn h
    rw [rmX_split B X (fun x hx => (h x hx).2)]
    have h1 := bin_few (B + 1) _ (hn.filter fun x => x.length == B + 1) (fun x hx => ⟨(h x (List.mem_filter.1 hx).1).1, by simpa using (List.mem_filter.1 hx).2⟩)
    have h2 := ih _ (hn.filter fun x => !(x.length == B + 1)) (fun x hx => by
      obtain ⟨hx1, hx2⟩ := List.mem_filter.1 hx
      have := h x hx1
      have h3 : x.length ≠ B + 1 := by simpa using hx2
      exact ⟨this.1, by omega⟩)
    have e : (B + 1 + 1) * 2 ^ (B + 1) = 2 ^ (B + 1) + 2 * ((B + 1) * 2 ^ B) := by
      rw [Nat.pow_succ, Nat.add_mul, Nat.one_mul, Nat.add_comm, Nat.mul_comm (2 ^ B) 2, ← Nat.mul_assoc, ← Nat.mul_assoc, Nat.mul_comm (B + 1) 2]
    rw [e]
    omega

/-! ### Rows of m words -/
/-- All rows of m words. -/
def tup (n : Nat) : Nat → List (List Nat)
  | 0 => [[]]
  | m + 1 => (List.range n).flatMap fun i => (tup n m).map (i :: ·)
theorem tup_in (n m : Nat) : ∀ a ∈ tup n m, a.length = m ∧ ∀ i ∈ a, i < n := by
  induction m with
  | zero => intro a ha; simp [tup] at ha; subst ha; simp
  | succ m ih =>
    intro a ha
    rw [tup] at ha
    obtain ⟨i, hi, ha⟩ := List.mem_flatMap.1 ha
    obtain ⟨b, hb, rfl⟩ := List.mem_map.1 ha
    have := ih b hb
    refine ⟨by rw [List.length_cons, this.1], fun j hj => ?_⟩
    rcases List.mem_cons.1 hj with rfl | hj
    · exact List.mem_range.1 hi
    · exact this.2 j hj
theorem tup_nodup (n m : Nat) : (tup n m).Nodup := by
  induction m with
  | zero => simp [tup]
  | succ m ih =>
    rw [tup]
    refine List.pairwise_flatMap.2 ⟨fun i _ => List.pairwise_map.2 (ih.imp fun hne e => hne (by injection e)), ?_⟩
    refine List.nodup_range.imp ?_
    intro i j hij x hx y hy e
    obtain ⟨a, _, rfl⟩ := List.mem_map.1 hx
    obtain ⟨b, _, rfl⟩ := List.mem_map.1 hy
    injection e with e1
    exact hij e1
theorem len_cat {W : List (List UInt8)} (h : ∀ i, (W.getD i []).length ≤ 12) (a : List Nat) : (catW W a).length ≤ 12 * a.length := by
  induction a with
  | nil => simp [catW]
  | cons i a ih =>
    have := h i
    rw [catW_cons, List.length_append, List.length_cons]
    omega
theorem rmX_mul {W : List (List UInt8)} (h : ∀ i, (W.getD i []).length ≤ 12) (i m : Nat) (T : List (List Nat)) (hT : ∀ a ∈ T, a.length = m) :
    rmX (12 * (m + 1)) ((T.map (i :: ·)).map (catW W)) = 2 ^ (12 - (W.getD i []).length) * rmX (12 * m) (T.map (catW W)) := by
  induction T with
  | nil => simp [rmX]
  | cons a T ih =>
    have h1 := len_cat h a
    have h2 := h i
    rw [hT a (by simp)] at h1
    simp only [List.map_cons, rmX]
    have e : 2 ^ (12 * (m + 1) - (catW W (i :: a)).length) = 2 ^ (12 - (W.getD i []).length) * 2 ^ (12 * m - (catW W a).length) := by
      rw [← Nat.pow_add, catW_cons, List.length_append]
      congr 1
      omega
    rw [ih (fun b hb => hT b (by simp [hb])), e, Nat.mul_add]
/-- The room of all rows of m words is the power of the words' room. -/
theorem rmX_pow {W : List (List UInt8)} (h : ∀ i, (W.getD i []).length ≤ 12) (m : Nat) :
    rmX (12 * m) ((tup W.length m).map (catW W)) = (rmX 12 W) ^ m := by
  induction m with
  | zero => simp [tup, rmX, catW]
  | succ m ih =>
    rw [Nat.pow_succ, ← ih, tup]
    have h1 : ∀ k, k ≤ W.length → rmX (12 * (m + 1)) (((List.range k).flatMap fun i => (tup W.length m).map (i :: ·)).map (catW W)) = rmX (12 * m) ((tup W.length m).map (catW W)) * rmX 12 (W.take k) := by
      intro k
      induction k with
      | zero => intro _; simp [rmX]
      | succ k ihk =>
        intro hk
        rw [List.range_succ, List.flatMap_append, List.map_append, rmX_app, ihk (by omega), List.flatMap_singleton, rmX_mul h k m _ (fun a ha => (tup_in _ _ a ha).1), List.take_succ_eq_append_getElem (by omega), rmX_app, Nat.mul_add]
        congr 1
        rw [Nat.mul_comm]
        congr 1
        simp [rmX, List.getD_eq_getElem?_getD, show k < W.length by omega]
    have := h1 W.length (Nat.le_refl _)
    rw [List.take_length] at this
    exact this
/-- A power that grows no faster than a line. -/
theorem pow_grow (N m : Nat) (hN : 1 ≤ N) : N ^ m * (2 * N * N + (2 * N - 1) * m + m * m) ≤ (N + 1) ^ m * (2 * N * N) := by
  induction m with
  | zero => simp
  | succ m ih =>
    obtain ⟨K, rfl⟩ : ∃ K, N = K + 1 := ⟨N - 1, by omega⟩
    have e1 : 2 * (K + 1) - 1 = 2 * K + 1 := by omega
    rw [e1] at ih ⊢
    have hm : m ≤ m * m := by
      cases m with
      | zero => simp
      | succ m => rw [Nat.mul_add]; omega
    have key : (K + 1) * (2 * (K + 1) * (K + 1) + (2 * K + 1) * (m + 1) + (m + 1) * (m + 1)) ≤ (K + 1 + 1) * (2 * (K + 1) * (K + 1) + (2 * K + 1) * m + m * m) := by
      have e2 : (2 * K + 1) * (m + 1) + (m + 1) * (m + 1) = (2 * K + 1) * m + m * m + (2 * (K + 1) + 2 * m) := by
        simp only [Nat.mul_add, Nat.add_mul, Nat.mul_one, Nat.one_mul]; omega
      have e3 : (K + 1) * (2 * (K + 1) + 2 * m) = 2 * (K + 1) * (K + 1) + (2 * K + 2) * m := by
        rw [Nat.mul_add, Nat.mul_comm (K + 1) (2 * (K + 1)), ← Nat.mul_assoc, Nat.mul_comm (K + 1) 2]
        rfl
      have e4 : (2 * K + 2) * m = (2 * K + 1) * m + m := by rw [show 2 * K + 2 = 2 * K + 1 + 1 by omega, Nat.add_mul, Nat.one_mul]
      generalize 2 * (K + 1) * (K + 1) = A at e3 ⊢
      rw [Nat.add_assoc A, e2, ← Nat.add_assoc A, ← Nat.add_assoc A]
      generalize hX : A + (2 * K + 1) * m + m * m = X
      rw [Nat.mul_add (K + 1) X, e3, Nat.add_mul (K + 1) 1 X, Nat.one_mul]
      omega
    rw [Nat.pow_succ, Nat.pow_succ]
    calc (K + 1) ^ m * (K + 1) * (2 * (K + 1) * (K + 1) + (2 * K + 1) * (m + 1) + (m + 1) * (m + 1))
        = (K + 1) ^ m * ((K + 1) * (2 * (K + 1) * (K + 1) + (2 * K + 1) * (m + 1) + (m + 1) * (m + 1))) := by rw [Nat.mul_assoc]
      _ ≤ (K + 1) ^ m * ((K + 1 + 1) * (2 * (K + 1) * (K + 1) + (2 * K + 1) * m + m * m)) := Nat.mul_le_mul_left _ key
      _ = (K + 1 + 1) * ((K + 1) ^ m * (2 * (K + 1) * (K + 1) + (2 * K + 1) * m + m * m)) := by rw [Nat.mul_left_comm]
      _ ≤ (K + 1 + 1) * ((K + 1 + 1) ^ m * (2 * (K + 1) * (K + 1))) := Nat.mul_le_mul_left _ ih
      _ = (K + 1 + 1) ^ m * (K + 1 + 1) * (2 * (K + 1) * (K + 1)) := by rw [← Nat.mul_assoc, Nat.mul_comm (K + 1 + 1)]
theorem pow_line {R N : Nat} (hN : 1 ≤ N) (h : ∀ m, R ^ m ≤ (12 * m + 1) * N ^ m) : R ≤ N := by
  rcases Nat.lt_or_ge N R with hlt | hge
  · exfalso
    obtain ⟨m, hm⟩ : ∃ m, m = 24 * N * N := ⟨_, rfl⟩
    have h1 := h m
    have h2 : (N + 1) ^ m ≤ R ^ m := Nat.pow_le_pow_left hlt m
    have h3 := pow_grow N m hN
    have h4 : N ^ m * (2 * N * N + (2 * N - 1) * m + m * m) ≤ N ^ m * ((12 * m + 1) * (2 * N * N)) := by
      refine Nat.le_trans h3 ?_
      have := Nat.mul_le_mul_right (2 * N * N) (Nat.le_trans h2 h1)
      rw [← Nat.mul_assoc (N ^ m), Nat.mul_comm (N ^ m)]
      exact this
    have h5 := Nat.le_of_mul_le_mul_left h4 (Nat.pow_pos (by omega))
    have e : (12 * m + 1) * (2 * N * N) = m * (24 * N * N) + 2 * N * N := by
      rw [Nat.add_mul, Nat.one_mul]
      congr 1
      rw [Nat.mul_comm 12 m, Nat.mul_assoc m]
      congr 1
      rw [← Nat.mul_assoc, ← Nat.mul_assoc]
    rw [e, ← hm] at h5
    have h6 : 0 < m := by rw [hm]; exact Nat.mul_pos (Nat.mul_pos (by decide) (by omega)) (by omega)
    have h7 : 0 < (2 * N - 1) * m := Nat.mul_pos (by omega) h6
    omega
  · exact hge
/-- MCMILLAN. -/
theorem mcmillan {W : List (List UInt8)} (hu : UD W) (hb : ∀ x ∈ W, Bin x) (hl : ∀ i, (W.getD i []).length ≤ 12) : rmX 12 W ≤ 4096 := by
  refine pow_line (by decide) fun m => ?_
  rw [← rmX_pow hl m]
  have hbin : ∀ a : List Nat, Bin (catW W a) := by
    intro a
    induction a with
    | nil => intro c hc; simp [catW] at hc
    | cons i a ih =>
      rw [catW_cons]
      refine bin_app ?_ ih
      by_cases hi : i < W.length
      · refine hb _ ?_
        rw [List.getD_eq_getElem?_getD, List.getElem?_eq_getElem hi]
        exact List.getElem_mem hi
      · intro c hc; simp [hi] at hc
  have := rmX_few (12 * m) ((tup W.length m).map (catW W)) ?_ ?_
  · rwa [Nat.pow_mul] at this
  · refine List.pairwise_map.2 ((tup_nodup W.length m).imp_of_mem ?_)
    intro a b ha hb hne e
    exact hne (hu a b (tup_in _ _ a ha).2 (tup_in _ _ b hb).2 e)
  · intro x hx
    obtain ⟨a, ha, rfl⟩ := List.mem_map.1 hx
    have h1 := len_cat hl a
    rw [(tup_in _ _ a ha).1] at h1
    exact ⟨hbin a, h1⟩
theorem rmX_rm (W : List (List UInt8)) : rmX 12 W = rm 12 (W.map List.length) := by
  induction W with
  | nil => rfl
  | cons x W ih => rw [rmX, List.map_cons, rm, ih]
end Go.Proofs.YtlfncplldppncaaDoor
