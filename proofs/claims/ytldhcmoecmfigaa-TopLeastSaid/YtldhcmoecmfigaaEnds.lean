/-
  Plain mathematics of the ends of a text, without a program: their order and that it is one, what neighbours in the order begin with alike (Kasai), how many different texts stand in a text: by ends, by the order, from the text's end, with one sign more. No condition.
-/
import Derived.Test.YtldhcmoecmfigaaTmath
namespace Go.Proofs.Ytldhcmoecmfigaa

/-! ### How many texts -/
/-- The first m ends of a text, with their places. -/
def ens (l : List UInt8) (m : Nat) : List Wd := (List.range m).map fun i => (l.drop i, i)
theorem ens_succ (l : List UInt8) (m : Nat) : ens l (m + 1) = ens l m ++ [(l.drop m, m)] := by simp [ens, List.range_succ]
theorem ens_mem {l : List UInt8} {m : Nat} {p : Wd} : p ∈ ens l m ↔ ∃ i, i < m ∧ p = (l.drop i, i) := by
  simp only [ens, List.mem_map, List.mem_range]
  exact ⟨fun ⟨i, hi, e⟩ => ⟨i, hi, e.symm⟩, fun ⟨i, hi, e⟩ => ⟨i, hi, e.symm⟩⟩
/-- How many texts but the empty one the first m ends begin with. -/
def dn (l : List UInt8) : Nat → Nat
  | 0 => 0
  | m + 1 => dn l m + fr (ens l m) (l.drop m)
theorem sz_ens (l : List UInt8) (k : Nat) (hk : l.length ≤ k) (m : Nat) : sz k (ens l m) = 1 + dn l m := by
  induction m with
  | zero => rw [show ens l 0 = [] from rfl, sz_none]; rfl
  | succ m ih => rw [ens_succ, sz_snoc k _ _ _ (by rw [List.length_drop]; omega), ih, dn]; omega
/-- How many different texts but the empty one stand in a text. -/
def cN (l : List UInt8) : Nat := dn l l.length
theorem dn_mono (l : List UInt8) {a b : Nat} (h : a ≤ b) : dn l a ≤ dn l b := by
  induction b with
  | zero => rw [show a = 0 by omega]; exact Nat.le_refl _
  | succ b ih =>
    by_cases e : a = b + 1
    · rw [e]; exact Nat.le_refl _
    · have := ih (by omega); rw [dn]; omega
theorem cN_ge (l : List UInt8) : l.length ≤ cN l := by
  cases l with
  | nil => simp
  | cons c r =>
    have : dn (c :: r) 1 = (c :: r).length := by
      show dn (c :: r) 0 + fr (ens (c :: r) 0) ((c :: r).drop 0) = _
      rw [show ens (c :: r) 0 = [] from rfl, fr_none]
      simp [dn]
    have h2 := dn_mono (c :: r) (a := 1) (b := (c :: r).length) (by simp)
    unfold cN; omega
/-- Sum of the ends' lengths. -/
def lens (n : Nat) (o : List Nat) : Nat := (o.map fun i => n - i).sum
theorem lens_range (n : Nat) : ∀ m, m ≤ n → 2 * lens n (List.range m) + m * m = m * (2 * n + 1) := by
  intro m
  induction m with
  | zero => intro _; simp [lens]
  | succ m ih =>
    intro h
    have := ih (by omega)
    unfold lens at this ⊢
    rw [List.range_succ]
    simp only [List.map_append, List.map_cons, List.map_nil, List.sum_append, List.sum_cons, List.sum_nil]
    have e1 : (m + 1) * (m + 1) = m * m + 2 * m + 1 := by rw [Nat.add_mul, Nat.mul_add]; omega
    have e2 : (m + 1) * (2 * n + 1) = m * (2 * n + 1) + (2 * n + 1) := by rw [Nat.add_mul]; omega
    omega
theorem lens_all (n : Nat) : lens n (List.range n) = n * (n + 1) / 2 := by
  have := lens_range n n (Nat.le_refl _)
  have e1 : n * (2 * n + 1) = 2 * (n * n) + n := by rw [Nat.mul_add, Nat.mul_one, Nat.mul_left_comm]
  have e2 : n * (n + 1) = n * n + n := by rw [Nat.mul_add]; omega
  omega
theorem dn_le (l : List UInt8) (m : Nat) : dn l m ≤ lens l.length (List.range m) := by
  induction m with
  | zero => simp [dn]
  | succ m ih =>
    have := fr_le (l.drop m) (ens l m)
    rw [List.length_drop] at this
    unfold lens at ih ⊢
    rw [dn, List.range_succ]
    simp only [List.map_append, List.map_cons, List.map_nil, List.sum_append, List.sum_cons, List.sum_nil]
    omega
theorem cN_le (l : List UInt8) : cN l ≤ l.length * (l.length + 1) / 2 := by rw [← lens_all]; exact dn_le l _

/-! ### A set and how many it has -/
/-- P has just m texts. -/
def Cnt (P : List UInt8 → Prop) (m : Nat) : Prop := ∃ d : List (List UInt8), d.Nodup ∧ (∀ x, x ∈ d ↔ P x) ∧ d.length = m
theorem cnt_one {P : List UInt8 → Prop} {m k : Nat} (h : Cnt P m) (h' : Cnt P k) : m = k := by
  obtain ⟨d, h1, h2, rfl⟩ := h
  obtain ⟨e, h3, h4, rfl⟩ := h'
  exact ((List.perm_ext_iff_of_nodup h1 h3).2 fun x => (h2 x).trans (h4 x).symm).length_eq
theorem cnt_dn (l : List UInt8) (m : Nat) (hm : m ≤ l.length) : Cnt (fun x => x ≠ [] ∧ ∃ i, i < m ∧ x <+: l.drop i) (dn l m) := by
  induction m with
  | zero => exact ⟨[], List.nodup_nil, fun x => by simp, rfl⟩
  | succ m ih =>
    obtain ⟨d, h1, h2, h3⟩ := ih (by omega)
    have hlen : (l.drop m).length = l.length - m := List.length_drop
    have hnew : ∀ k, k < (l.drop m).length → ((subs ((l.drop m).take (k + 1)) (ens l m)).isEmpty = true ↔ ∀ i, i < m → ¬ (l.drop m).take (k + 1) <+: l.drop i) := fun k _ => by
      rw [List.isEmpty_iff, subs_empty]
      constructor
      · intro h i hi; exact h _ (ens_mem.2 ⟨i, hi, rfl⟩)
      · intro h q hq; obtain ⟨i, hi, rfl⟩ := ens_mem.1 hq; exact h i hi
    refine ⟨d ++ ((List.range (l.drop m).length).filter fun k => (subs ((l.drop m).take (k + 1)) (ens l m)).isEmpty).map fun k => (l.drop m).take (k + 1), ?_, ?_, ?_⟩
    · rw [List.nodup_append]
      refine ⟨h1, ?_, ?_⟩
      · refine List.pairwise_map.2 (List.Pairwise.imp_of_mem ?_ (List.pairwise_lt_range.filter _))
        intro a b ha hb hab e
        have ha' := List.mem_range.1 (List.mem_filter.1 ha).1
        have hb' := List.mem_range.1 (List.mem_filter.1 hb).1
        have := congrArg List.length e
        simp only [List.length_take] at this
        omega
      · rintro a ha b hb rfl
        obtain ⟨k, hk, rfl⟩ := List.mem_map.1 hb
        obtain ⟨hk1, hk2⟩ := List.mem_filter.1 hk
        obtain ⟨_, i, hi, hp⟩ := (h2 _).1 ha
        exact (hnew k (List.mem_range.1 hk1)).1 hk2 i hi hp
    · intro x
      rw [List.mem_append, h2, List.mem_map]
      constructor
      · rintro (⟨h4, i, hi, h5⟩ | ⟨k, hk, rfl⟩)
        · exact ⟨h4, i, by omega, h5⟩
        · have hk1 := List.mem_range.1 (List.mem_filter.1 hk).1
          refine ⟨fun e => ?_, m, by omega, List.take_prefix _ _⟩
          have := congrArg List.length e
          rw [List.length_take] at this
          simp at this; omega
      · rintro ⟨h4, i, hi, h5⟩
        by_cases he : ∃ j, j < m ∧ x <+: l.drop j
        · exact .inl ⟨h4, he⟩
        · have him : i = m := by
            rcases Nat.lt_or_ge i m with h | h
            · exact absurd ⟨i, h, h5⟩ he
            · omega
          subst him
          have hx : (l.drop i).take x.length = x := (List.prefix_iff_eq_take.1 h5).symm
          have hx0 : 0 < x.length := List.length_pos_iff.2 h4
          have hxl := h5.length_le
          refine .inr ⟨x.length - 1, List.mem_filter.2 ⟨List.mem_range.2 (by omega), ?_⟩, by rw [show x.length - 1 + 1 = x.length by omega, hx]⟩
          rw [hnew _ (by omega), show x.length - 1 + 1 = x.length by omega, hx]
          exact fun j hj hp => he ⟨j, hj, hp⟩
    · rw [List.length_append, h3, List.length_map, ← fr_count, dn]
theorem infix_drop {x l : List UInt8} : x <:+: l ↔ ∃ i, i ≤ l.length ∧ x <+: l.drop i := by
  constructor
  · rintro ⟨a, b, rfl⟩
    exact ⟨a.length, by simp, ⟨b, by simp⟩⟩
  · rintro ⟨i, _, h⟩
    exact h.isInfix.trans (List.drop_suffix i l).isInfix
theorem cnt_in (l : List UInt8) : Cnt (fun x => x ≠ [] ∧ x <:+: l) (cN l) := by
  obtain ⟨d, h1, h2, h3⟩ := cnt_dn l l.length (Nat.le_refl _)
  refine ⟨d, h1, fun x => ?_, h3⟩
  rw [h2]
  show (x ≠ [] ∧ ∃ i, i < l.length ∧ x <+: l.drop i) ↔ (x ≠ [] ∧ x <:+: l)
  rw [infix_drop]
  constructor
  · rintro ⟨h4, i, hi, h5⟩; exact ⟨h4, i, by omega, h5⟩
  · rintro ⟨h4, i, hi, h5⟩
    refine ⟨h4, i, ?_, h5⟩
    have := h5.length_le
    rw [List.length_drop] at this
    have : 0 < x.length := List.length_pos_iff.2 h4
    omega
theorem cN_back (l : List UInt8) : cN l.reverse = cN l := by
  refine cnt_one (cnt_in l.reverse) ?_
  obtain ⟨d, h1, h2, h3⟩ := cnt_in l
  refine ⟨d.map List.reverse, ?_, fun x => ?_, by rw [List.length_map, h3]⟩
  · refine List.pairwise_map.2 (List.Pairwise.imp (fun {a b} (h : a ≠ b) e => h (List.reverse_inj.1 e)) h1)
  · rw [List.mem_map]
    constructor
    · rintro ⟨y, hy, rfl⟩
      have := (h2 y).1 hy
      exact ⟨by simpa using this.1, List.reverse_infix.2 this.2⟩
    · rintro ⟨h4, h5⟩
      exact ⟨x.reverse, (h2 _).2 ⟨by simpa using h4, List.reverse_infix.1 (by simpa using h5)⟩, by simp⟩
/-- One sign more: as many new texts as ends of the longer text that did not stand in the shorter one. -/
theorem cN_more (l : List UInt8) (c : UInt8) (F : Nat → Bool) (hF : ∀ i, i < l.length + 1 → (F i = true ↔ ¬ (l ++ [c]).drop i <:+: l)) :
    cN (l ++ [c]) = cN l + ((List.range (l.length + 1)).filter F).length := by
  refine cnt_one (cnt_in _) ?_
  obtain ⟨d, h1, h2, h3⟩ := cnt_in l
  have hl : (l ++ [c]).length = l.length + 1 := by simp
  refine ⟨d ++ ((List.range (l.length + 1)).filter F).map fun i => (l ++ [c]).drop i, ?_, fun x => ?_, by rw [List.length_append, h3, List.length_map]⟩
  · rw [List.nodup_append]
    refine ⟨h1, ?_, ?_⟩
    · refine List.pairwise_map.2 (List.Pairwise.imp_of_mem ?_ (List.pairwise_lt_range.filter _))
      intro a b ha hb hab e
      have hb' := List.mem_range.1 (List.mem_filter.1 hb).1
      have := congrArg List.length e
      simp only [List.length_drop, hl] at this
      omega
    · rintro a ha b hb rfl
      obtain ⟨k, hk, rfl⟩ := List.mem_map.1 hb
      obtain ⟨hk1, hk2⟩ := List.mem_filter.1 hk
      exact (hF k (List.mem_range.1 hk1)).1 hk2 ((h2 _).1 ha).2
  · rw [List.mem_append, h2, List.mem_map]
    constructor
    · rintro (⟨h4, h5⟩ | ⟨k, hk, rfl⟩)
      · exact ⟨h4, h5.trans (List.prefix_append l [c]).isInfix⟩
      · have hk1 := List.mem_range.1 (List.mem_filter.1 hk).1
        refine ⟨fun e => ?_, (List.drop_suffix k _).isInfix⟩
        have := congrArg List.length e
        rw [List.length_drop, hl] at this
        simp at this; omega
    · rintro ⟨h4, h5⟩
      by_cases he : x <:+: l
      · exact .inl ⟨h4, he⟩
      · obtain ⟨i, hi, hp⟩ := infix_drop.1 h5
        have hil : i < l.length + 1 := by
          have := hp.length_le
          rw [List.length_drop, hl] at this
          have : 0 < x.length := List.length_pos_iff.2 h4
          omega
        have hx : x = (l ++ [c]).drop i := by
          rw [List.drop_append_of_le_length (by omega)] at hp ⊢
          rcases List.prefix_concat_iff.1 hp with e | h
          · exact e
          · exact absurd (h.isInfix.trans (List.drop_suffix i l).isInfix) he
        refine .inr ⟨i, List.mem_filter.2 ⟨List.mem_range.2 hil, (hF i hil).2 (by rw [← hx]; exact he)⟩, hx.symm⟩
theorem long_new (l : List UInt8) (c : UInt8) : ¬ (l ++ [c]).drop 0 <:+: l := fun h => by
  have := h.length_le
  simp at this
  omega

/-! ### The order -/
/-- o lists the places of a text's ends in the ends' order. -/
def Ord (l : List UInt8) (o : List Nat) : Prop := o.Perm (List.range l.length) ∧ o.Pairwise fun i j => l.drop i < l.drop j
theorem ord_one {l : List UInt8} {o o' : List Nat} (h : Ord l o) (h' : Ord l o') : o = o' :=
  List.Perm.eq_of_pairwise (le := fun i j => l.drop i < l.drop j) (fun _ _ _ _ h h' => absurd h' (lt_asym h)) h.2 h'.2 (h.1.trans h'.1.symm)
theorem Ord.len {l : List UInt8} {o : List Nat} (h : Ord l o) : o.length = l.length := by rw [h.1.length_eq, List.length_range]
theorem Ord.mem {l : List UInt8} {o : List Nat} (h : Ord l o) {i : Nat} : i ∈ o ↔ i < l.length := by rw [h.1.mem_iff, List.mem_range]
theorem getN_mem {xs : List Nat} {i : Nat} (h : i < xs.length) : xs.getD i 0 ∈ xs := by simp [List.getD_eq_getElem?_getD, h]
theorem Ord.lt {l : List UInt8} {o : List Nat} (h : Ord l o) {k : Nat} (hk : k < l.length) : o.getD k 0 < l.length := h.mem.1 (getN_mem (by rw [h.len]; exact hk))
theorem Ord.at {l : List UInt8} {o : List Nat} (h : Ord l o) {i : Nat} (hi : i < l.length) : ∃ k, k < l.length ∧ o.getD k 0 = i := by
  obtain ⟨k, hk, e⟩ := List.mem_iff_getElem.1 (h.mem.2 hi)
  exact ⟨k, by rw [← h.len]; exact hk, by simp [List.getD_eq_getElem?_getD, hk, e]⟩
theorem Ord.less {l : List UInt8} {o : List Nat} (h : Ord l o) {a b : Nat} (hab : a < b) (hb : b < l.length) : l.drop (o.getD a 0) < l.drop (o.getD b 0) := by
  have hb' : b < o.length := by rw [h.len]; exact hb
  have ha' : a < o.length := by omega
  have := List.pairwise_iff_getElem.1 h.2 a b ha' hb' hab
  simpa [List.getD_eq_getElem?_getD, ha', hb'] using this
theorem Ord.index {l : List UInt8} {o : List Nat} (h : Ord l o) {a b : Nat} (ha : a < l.length) (hl : l.drop (o.getD a 0) < l.drop (o.getD b 0)) : a < b := by
  rcases Nat.lt_trichotomy a b with h1 | h1 | h1
  · exact h1
  · subst h1; exact absurd hl (lt_irr _)
  · exact absurd hl (lt_asym (h.less h1 ha))
theorem Ord.inj {l : List UInt8} {o : List Nat} (h : Ord l o) {a b : Nat} (ha : a < l.length) (hb : b < l.length) (e : o.getD a 0 = o.getD b 0) : a = b := by
  rcases Nat.lt_trichotomy a b with h1 | h1 | h1
  · have := h.less h1 hb; rw [e] at this; exact absurd this (lt_irr _)
  · exact h1
  · have := h.less h1 ha; rw [e] at this; exact absurd this (lt_irr _)
theorem drop_ne {l : List UInt8} {i j : Nat} (hi : i < l.length) (hj : j < l.length) (h : i ≠ j) : l.drop i ≠ l.drop j := fun e => by
  have := congrArg List.length e
  simp only [List.length_drop] at this
  omega
theorem drop_or {l : List UInt8} {i j : Nat} (hi : i < l.length) (hj : j < l.length) (h : i ≠ j) : l.drop i < l.drop j ∨ l.drop j < l.drop i := by
  by_cases h1 : l.drop i < l.drop j
  · exact .inl h1
  · rcases List.le_iff_lt_or_eq.1 (List.not_lt.1 h1) with h2 | h2
    · exact .inr h2
    · exact absurd h2.symm (drop_ne hi hj h)

/-! ### Neighbours -/
/-- What the ends at the places k and k + 1 of the order begin with alike. -/
def lcp (l : List UInt8) (o : List Nat) (k : Nat) : Nat := lc (l.drop (o.getD k 0)) (l.drop (o.getD (k + 1) 0))
def nbTo (l : List UInt8) (o : List Nat) (m : Nat) : List Int := (List.range m).map fun k => (lcp l o k : Int)
theorem nbTo_succ (l : List UInt8) (o : List Nat) (m : Nat) : nbTo l o (m + 1) = nbTo l o m ++ [(lcp l o m : Int)] := by simp [nbTo, List.range_succ]
theorem nbTo_len (l : List UInt8) (o : List Nat) (m : Nat) : (nbTo l o m).length = m := by simp [nbTo]
theorem nbTo_at (l : List UInt8) (o : List Nat) {m k : Nat} (h : k < m) : (nbTo l o m).getD k 0 = (lcp l o k : Int) := by simp [nbTo, List.getD_eq_getElem?_getD, h]
theorem lcp_le (l : List UInt8) (o : List Nat) (k : Nat) : lcp l o k ≤ l.length - o.getD (k + 1) 0 := by
  have := lc_le (l.drop (o.getD k 0)) (l.drop (o.getD (k + 1) 0))
  rw [List.length_drop] at this
  exact this
/-- How many places two ends have in common, summed up along the order. -/
def lcsum (l : List UInt8) (o : List Nat) : Nat → Nat
  | 0 => 0
  | m + 1 => lcsum l o m + lcp l o m
theorem take_get {o : List Nat} {m : Nat} (h : m < o.length) : o.take (m + 1) = o.take m ++ [o.getD m 0] := by
  rw [List.take_add_one]; simp [List.getD_eq_getElem?_getD, h]
theorem sum_order {l : List UInt8} {o : List Nat} (h : Ord l o) (m : Nat) (hm : m < l.length) :
    sz l.length ((o.take (m + 1)).map fun i => (l.drop i, i)) + lcsum l o m = 1 + lens l.length (o.take (m + 1)) := by
  induction m with
  | zero =>
    rw [take_get (by rw [h.len]; exact hm)]
    have := sz_snoc l.length [] (l.drop (o.getD 0 0)) (o.getD 0 0) (by rw [List.length_drop]; omega)
    rw [fr_none, sz_none, List.length_drop, List.nil_append] at this
    simp only [List.take_zero, List.nil_append, List.map_cons, List.map_nil, lcsum, lens, List.sum_cons, List.sum_nil]
    omega
  | succ m ih =>
    have := ih (by omega)
    rw [take_get (m := m + 1) (by rw [h.len]; exact hm), List.map_append]
    simp only [List.map_cons, List.map_nil]
    rw [sz_snoc l.length _ _ _ (by rw [List.length_drop]; omega)]
    have hf : fr ((o.take (m + 1)).map fun i => (l.drop i, i)) (l.drop (o.getD (m + 1) 0)) = (l.drop (o.getD (m + 1) 0)).length - lcp l o m := by
      refine fr_sorted (z := l.drop (o.getD m 0)) (.inr ⟨o.getD m 0, ?_⟩) ?_ (h.less (by omega) hm)
      · rw [take_get (by rw [h.len]; omega)]; simp
      · intro p hp
        obtain ⟨i, hi, rfl⟩ := List.mem_map.1 hp
        obtain ⟨k, hk, e⟩ := List.mem_iff_getElem.1 hi
        rw [List.length_take] at hk
        rw [List.getElem_take] at e
        have e' : o.getD k 0 = i := by simp [List.getD_eq_getElem?_getD, show k < o.length by omega, e]
        by_cases hkm : k = m
        · right; show l.drop i = _; rw [← e', hkm]
        · left; show l.drop i < _; rw [← e']; exact h.less (by omega) (by omega)
    rw [hf, List.length_drop]
    have hl := lcp_le l o m
    unfold lens at this ⊢
    simp only [List.map_append, List.map_cons, List.map_nil, List.sum_append, List.sum_cons, List.sum_nil, lcsum]
    omega
/-- As many different texts as the ends have signs in all, but for what neighbours begin with alike. -/
theorem cN_order {l : List UInt8} {o : List Nat} (h : Ord l o) : cN l + lcsum l o (l.length - 1) = l.length * (l.length + 1) / 2 := by
  by_cases h0 : l.length = 0
  · have : l = [] := List.length_eq_zero_iff.1 h0
    subst this; rfl
  · have hs := sum_order h (l.length - 1) (by omega)
    rw [show l.length - 1 + 1 = l.length by omega, List.take_of_length_le (by rw [h.len]; exact Nat.le_refl _)] at hs
    have hp : (o.map fun i => (l.drop i, i)).Perm (ens l l.length) := h.1.map _
    rw [sz_perm _ hp, sz_ens l _ (Nat.le_refl _)] at hs
    have hq : lens l.length o = lens l.length (List.range l.length) := (h.1.map _).sum_nat
    rw [hq, lens_all] at hs
    unfold cN; omega
theorem lcsum_le {l : List UInt8} {o : List Nat} {m : Nat} : lcsum l o m ≤ m * l.length := by
  induction m with
  | zero => simp [lcsum]
  | succ m ih => have := lcp_le l o m; rw [lcsum, Nat.add_mul]; omega
/-- Of a stretch of the order the last two begin alike the furthest. -/
theorem lc_mid {y z x : List UInt8} (h1 : y < z ∨ y = z) (h2 : z < x) : lc y x ≤ lc z x := by
  have hl := lc_le y x
  exact (lc_pre z x _ hl).1 (pre_between h1 h2 ((lc_pre y x _ hl).2 (Nat.le_refl _)) (List.take_prefix _ _))
theorem lcp_most {l : List UInt8} {o : List Nat} (h : Ord l o) {a b : Nat} (hab : a < b) (hb : b < l.length) : lc (l.drop (o.getD a 0)) (l.drop (o.getD b 0)) ≤ lcp l o (b - 1) := by
  unfold lcp
  rw [show b - 1 + 1 = b by omega]
  refine lc_mid ?_ (h.less (by omega) hb)
  by_cases e : a = b - 1
  · right; rw [e]
  · left; exact h.less (by omega) (by omega)

/-! ### Kasai -/
/-- How far each end goes with the one ahead of it, behind the first i places of the order. -/
def farF (l : List UInt8) (o : List Nat) : Nat → Nat → Int
  | 0 => fun _ => 0
  | i + 1 => fun j => if 0 < i ∧ j = o.getD i 0 then (lcp l o (i - 1) : Int) else farF l o i j
theorem farF_nonneg (l : List UInt8) (o : List Nat) (i j : Nat) : 0 ≤ farF l o i j := by
  induction i with
  | zero => exact Int.le_refl _
  | succ i ih => unfold farF; split; omega; exact ih
theorem farF_le (l : List UInt8) (o : List Nat) (i j : Nat) : farF l o i j ≤ (l.length : Int) := by
  induction i with
  | zero => show (0 : Int) ≤ _; omega
  | succ i ih =>
    unfold farF
    split
    · have := lcp_le l o (i - 1); omega
    · exact ih
theorem farF_out {l : List UInt8} {o : List Nat} {i j : Nat} (hj : ∀ k, 0 < k → k < i → o.getD k 0 ≠ j) : farF l o i j = 0 := by
  induction i with
  | zero => rfl
  | succ i ih =>
    unfold farF
    rw [if_neg (fun e => hj i e.1 (by omega) e.2.symm)]
    exact ih fun k h1 h2 => hj k h1 (by omega)
theorem farF_at {l : List UInt8} {o : List Nat} (h : Ord l o) {i k : Nat} (hi : i ≤ l.length) (hk0 : 0 < k) (hk : k < i) : farF l o i (o.getD k 0) = (lcp l o (k - 1) : Int) := by
  induction i with
  | zero => omega
  | succ i ih =>
    unfold farF
    by_cases e : k = i
    · subst e; rw [if_pos ⟨hk0, rfl⟩]
    · rw [if_neg fun e' => e (h.inj (by omega) (by omega) e'.2)]
      exact ih (by omega) (by omega)
theorem drop_cons {l : List UInt8} {p : Nat} (hp : p < l.length) : l.drop p = l[p] :: l.drop (p + 1) := List.drop_eq_getElem_cons hp
theorem kasai {l : List UInt8} {o : List Nat} (h : Ord l o) {p : Nat} (hp : p + 1 < l.length) : farF l o l.length p - 1 ≤ farF l o l.length (p + 1) := by
  have h0 := farF_nonneg l o l.length (p + 1)
  obtain ⟨k, hk, rfl⟩ := h.at (i := p) (by omega)
  by_cases hk0 : k = 0
  · subst hk0
    rw [farF_out (j := o.getD 0 0) (fun m h1 h2 e => by have := h.inj h2 (by omega) e; omega)]
    omega
  · rw [farF_at h (Nat.le_refl _) (by omega) hk]
    by_cases h2 : lcp l o (k - 1) ≤ 1
    · omega
    · have hq : o.getD (k - 1) 0 < l.length := h.lt (by omega)
      have hless := h.less (a := k - 1) (b := k) (by omega) hk
      have e0 : lcp l o (k - 1) = lc (l.drop (o.getD (k - 1) 0)) (l.drop (o.getD k 0)) := by unfold lcp; rw [show k - 1 + 1 = k by omega]
      rw [drop_cons hq, drop_cons (show o.getD k 0 < l.length by omega)] at hless e0
      rw [lc] at e0
      by_cases hc : l[o.getD (k - 1) 0] = l[o.getD k 0]
      · rw [if_pos hc] at e0
        rw [hc, List.cons_lt_cons_self] at hless
        have hq1 : o.getD (k - 1) 0 + 1 < l.length := by
          rcases Nat.lt_or_ge (o.getD (k - 1) 0 + 1) l.length with h3 | h3
          · exact h3
          · rw [List.drop_eq_nil_of_le h3] at e0; simp [lc] at e0; omega
        obtain ⟨a, ha, ea⟩ := h.at hq1
        obtain ⟨b, hb, eb⟩ := h.at hp
        have hab : a < b := h.index ha (by rw [ea, eb]; exact hless)
        have := lcp_most h hab hb
        rw [ea, eb] at this
        rw [← eb, farF_at h (Nat.le_refl _) (by omega) hb]
        omega
      · rw [if_neg hc] at e0; omega

/-! ### What stands twice -/
/-- m: the most that neighbours among the first i + 1 of the order begin with alike. -/
def Most (l : List UInt8) (o : List Nat) (i m : Nat) : Prop := (∀ k, k < i → lcp l o k ≤ m) ∧ (m = 0 ∨ ∃ k, k < i ∧ lcp l o k = m)
theorem most_start (l : List UInt8) (o : List Nat) : Most l o 0 0 := ⟨fun k hk => by omega, .inl rfl⟩
theorem most_keep {l : List UInt8} {o : List Nat} {i m : Nat} (h : Most l o i m) (hl : lcp l o i ≤ m) : Most l o (i + 1) m := by
  refine ⟨fun k hk => ?_, h.2.imp_right fun ⟨k, hk, e⟩ => ⟨k, by omega, e⟩⟩
  by_cases e : k = i
  · subst e; exact hl
  · exact h.1 k (by omega)
theorem most_new {l : List UInt8} {o : List Nat} {i m : Nat} (h : Most l o i m) (hl : m < lcp l o i) : Most l o (i + 1) (lcp l o i) := by
  refine ⟨fun k hk => ?_, .inr ⟨i, by omega, rfl⟩⟩
  by_cases e : k = i
  · subst e; exact Nat.le_refl _
  · have := h.1 k (by omega); omega
theorem lc_comm (x : List UInt8) : ∀ y, lc x y = lc y x := by
  induction x with
  | nil => intro y; cases y <;> rfl
  | cons a x ih =>
    intro y
    cases y with
    | nil => rfl
    | cons b y =>
      unfold lc
      by_cases e : a = b
      · rw [if_pos e, if_pos e.symm, ih y]
      · rw [if_neg e, if_neg (Ne.symm e)]
/-- What stands at two places is no longer than the most of what neighbours begin with alike. -/
theorem twice_le {l : List UInt8} {o : List Nat} (h : Ord l o) {m : Nat} (hm : Most l o (l.length - 1) m) {u : List UInt8} {p q : Nat} (hpq : p < q) (hq : q < l.length) (h1 : u <+: l.drop p) (h2 : u <+: l.drop q) : u.length ≤ m := by
  obtain ⟨a, ha, rfl⟩ := h.at (i := p) (by omega)
  obtain ⟨b, hb, rfl⟩ := h.at hq
  have hk : ∀ x y : List UInt8, u <+: x → u <+: y → u.length ≤ lc x y := fun x y hx hy => by
    rw [← lc_pre x y _ hy.length_le, ← List.prefix_iff_eq_take.1 hy]; exact hx
  rcases Nat.lt_trichotomy a b with h3 | h3 | h3
  · have := lcp_most h h3 hb
    have := hk _ _ h1 h2
    have := hm.1 (b - 1) (by omega)
    omega
  · subst h3; omega
  · have := lcp_most h h3 ha
    have := hk _ _ h2 h1
    have := hm.1 (a - 1) (by omega)
    omega
/-- The most of what neighbours begin with alike stands twice. -/
theorem twice_ex {l : List UInt8} {o : List Nat} (h : Ord l o) {m : Nat} (hm : Most l o (l.length - 1) m) (h0 : 0 < m) :
    ∃ p q, p ≠ q ∧ p < l.length ∧ q < l.length ∧ p + m ≤ l.length ∧ (l.drop p).take m <+: l.drop q := by
  rcases hm.2 with e | ⟨k, hk, e⟩
  · omega
  · have hl := lc_le (l.drop (o.getD k 0)) (l.drop (o.getD (k + 1) 0))
    have e' : lc (l.drop (o.getD k 0)) (l.drop (o.getD (k + 1) 0)) = m := e
    have hq := h.lt (k := k + 1) (by omega)
    rw [List.length_drop] at hl
    refine ⟨o.getD (k + 1) 0, o.getD k 0, fun e => ?_, hq, h.lt (by omega), by omega, ?_⟩
    · have := h.inj (a := k + 1) (b := k) (by omega) (by omega) e; omega
    · rw [lc_pre _ _ _ (by rw [List.length_drop]; omega)]; omega

/-! ### A stretch of the order -/
/-- How many of the first i are marked. -/
def cnB (B : Nat → Bool) (i : Nat) : Nat := ((List.range i).filter B).length
theorem cnB_yes {B : Nat → Bool} {i : Nat} (h : B i = true) : cnB B (i + 1) = cnB B i + 1 := by simp [cnB, List.range_succ, h]
theorem cnB_no {B : Nat → Bool} {i : Nat} (h : B i = false) : cnB B (i + 1) = cnB B i := by simp [cnB, List.range_succ, h]
theorem cnB_le (B : Nat → Bool) (i : Nat) : cnB B i ≤ i := by have := List.length_filter_le B (List.range i); simpa [cnB] using this
theorem cnB_congr {B C : Nat → Bool} {n : Nat} (h : ∀ i, i < n → B i = C i) : cnB B n = cnB C n := by
  unfold cnB; rw [List.filter_congr fun i hi => h i (List.mem_range.1 hi)]
/-- Marks that are counted along the order are all marks. -/
theorem cnB_order {l : List UInt8} {o : List Nat} (h : Ord l o) (B : Nat → Bool) : cnB (fun k => B (o.getD k 0)) l.length = cnB B l.length := by
  have h1 : (o.filter B).length = cnB B l.length := (h.1.filter B).length_eq
  rw [← h1]
  have e : o = (List.range l.length).map fun k => o.getD k 0 := by
    apply List.ext_getElem
    · simp [h.len]
    · intro i h1 h2; simp [List.getD_eq_getElem?_getD, h1]
  conv => rhs; rw [e]
  rw [List.filter_map, List.length_map]; rfl
/-- Behind i places: the first one marked, the last one, and how many: a stretch. -/
def Strch (B : Nat → Bool) (i : Nat) (first last : Int) : Prop :=
  (first = -1 ∧ last = -1 ∧ cnB B i = 0) ∨ ∃ f z : Nat, first = f ∧ last = z ∧ f ≤ z ∧ z < i ∧ B z = true ∧ (∀ k, z < k → k < i → B k = false) ∧ cnB B i + f = z + 1
theorem strch_no {B : Nat → Bool} {i : Nat} {a b : Int} (h : Strch B i a b) (hb : B i = false) : Strch B (i + 1) a b := by
  rcases h with ⟨h1, h2, h3⟩ | ⟨f, z, h1, h2, h3, h4, h5, h6, h7⟩
  · exact .inl ⟨h1, h2, by rw [cnB_no hb]; exact h3⟩
  · refine .inr ⟨f, z, h1, h2, h3, by omega, h5, fun k h8 h9 => ?_, by rw [cnB_no hb]; exact h7⟩
    by_cases e : k = i
    · subst e; exact hb
    · exact h6 k h8 (by omega)
theorem strch_first {B : Nat → Bool} {i : Nat} {b : Int} (h : Strch B i (-1) b) (hb : B i = true) : Strch B (i + 1) i i := by
  rcases h with ⟨h1, h2, h3⟩ | ⟨f, z, h1, _⟩
  · exact .inr ⟨i, i, rfl, rfl, Nat.le_refl _, by omega, hb, fun k h8 h9 => by omega, by rw [cnB_yes hb]; omega⟩
  · omega
theorem strch_more {B : Nat → Bool} {i f : Nat} {b : Int} (hc : ∀ x y z, x < y → y < z → z ≤ i → B x = true → B z = true → B y = true) (h : Strch B i (f : Nat) b) (hb : B i = true) : Strch B (i + 1) (f : Nat) i := by
  rcases h with ⟨h1, _⟩ | ⟨f', z, h1, h2, h3, h4, h5, h6, h7⟩
  · omega
  · have hz : z + 1 = i := by
      rcases Nat.lt_or_ge (z + 1) i with h8 | h8
      · have := hc z (z + 1) i (by omega) h8 (Nat.le_refl _) h5 hb
        rw [h6 (z + 1) (by omega) h8] at this; cases this
      · omega
    exact .inr ⟨f', i, h1, rfl, by omega, by omega, hb, fun k h8 h9 => by omega, by rw [cnB_yes hb]; omega⟩
theorem strch_or {B : Nat → Bool} {i : Nat} {a b : Int} (h : Strch B i a b) : (a = -1 ∧ b = -1) ∨ ∃ f z : Nat, a = f ∧ b = z ∧ f ≤ z ∧ z < i := by
  rcases h with ⟨h1, h2, _⟩ | ⟨f, z, h1, h2, h3, h4, _⟩
  · exact .inl ⟨h1, h2⟩
  · exact .inr ⟨f, z, h1, h2, h3, h4⟩
theorem two_le {B : Nat → Bool} {n : Nat} : 2 ≤ cnB B n ↔ ∃ p q, p < q ∧ q < n ∧ B p = true ∧ B q = true := by
  induction n with
  | zero => simp [cnB]
  | succ n ih =>
    cases hb : B n with
    | false =>
      rw [cnB_no hb, ih]
      constructor
      · rintro ⟨p, q, h1, h2, h3⟩; exact ⟨p, q, h1, by omega, h3⟩
      · rintro ⟨p, q, h1, h2, h3, h4⟩
        refine ⟨p, q, h1, ?_, h3, h4⟩
        by_cases e : q = n
        · subst e; rw [hb] at h4; cases h4
        · omega
    | true =>
      rw [cnB_yes hb]
      constructor
      · intro h
        have : 0 < cnB B n := by omega
        obtain ⟨p, hp⟩ := List.exists_mem_of_length_pos this
        obtain ⟨h1, h2⟩ := List.mem_filter.1 hp
        have := List.mem_range.1 h1
        exact ⟨p, n, this, by omega, h2, hb⟩
      · rintro ⟨p, q, h1, h2, h3, h4⟩
        have : p ∈ (List.range n).filter B := List.mem_filter.2 ⟨List.mem_range.2 (by omega), h3⟩
        have := List.length_pos_of_mem this
        unfold cnB; omega
end Go.Proofs.Ytldhcmoecmfigaa
