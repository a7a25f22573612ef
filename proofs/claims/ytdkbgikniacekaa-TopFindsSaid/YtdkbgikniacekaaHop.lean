/-
  Plain mathematics of the search by leaps (Boyer, Moore, Horspool), without a program: how far a byte lets the word leap, where the word is laid, where it is first found and how often it was laid. No condition.
-/
import Derived.Test.YtdkbgikniacekaaOcc
namespace Go.Proofs.Ytdkbgikniacekaa

/-- The last place of the sign c among the first k signs. -/
def look (g : Nat → UInt8) (c : UInt8) : Nat → Option Nat
  | 0 => none
  | k + 1 => if g k = c then some k else look g c k
theorem look_some {g : Nat → UInt8} {c : UInt8} {i : Nat} : ∀ {k : Nat}, look g c k = some i → i < k ∧ g i = c ∧ ∀ j, i < j → j < k → g j ≠ c
  | 0, h => by simp [look] at h
  | k + 1, h => by
    unfold look at h
    by_cases e : g k = c
    · simp [e] at h; subst h; exact ⟨by omega, e, fun j h1 h2 => by omega⟩
    · simp [e] at h
      obtain ⟨h1, h2, h3⟩ := look_some h
      refine ⟨by omega, h2, fun j hj hk => ?_⟩
      by_cases ej : j = k
      · subst ej; exact e
      · exact h3 j hj (by omega)
theorem look_none {g : Nat → UInt8} {c : UInt8} : ∀ {k : Nat}, look g c k = none → ∀ j, j < k → g j ≠ c
  | 0, _, j, hj => by omega
  | k + 1, h, j, hj => by
    unfold look at h
    by_cases e : g k = c
    · simp [e] at h
    · simp [e] at h
      by_cases ej : j = k
      · subst ej; exact e
      · exact look_none h j (by omega)
theorem look_hit {g : Nat → UInt8} {c : UInt8} {k : Nat} (h : g k = c) : look g c (k + 1) = some k := by simp [look, h]
theorem look_miss {g : Nat → UInt8} {c : UInt8} {k : Nat} (h : g k ≠ c) : look g c (k + 1) = look g c k := by simp [look, h]

/-- How far the word g of m signs leaps at the sign c. -/
def lp (g : Nat → UInt8) (m : Nat) (c : UInt8) : Nat := match look g c (m - 1) with | none => m | some i => m - 1 - i
theorem lp_none {g : Nat → UInt8} {m : Nat} {c : UInt8} (h : look g c (m - 1) = none) : lp g m c = m := by simp [lp, h]
theorem lp_some {g : Nat → UInt8} {m i : Nat} {c : UInt8} (h : look g c (m - 1) = some i) : lp g m c = m - 1 - i := by simp [lp, h]
theorem lp_pos {g : Nat → UInt8} {m : Nat} {c : UInt8} (h : 0 < m) : 1 ≤ lp g m c := by
  cases e : look g c (m - 1) with
  | none => rw [lp_none e]; omega
  | some i => rw [lp_some e]; have := (look_some e).1; omega
theorem lp_le (g : Nat → UInt8) (m : Nat) (c : UInt8) : lp g m c ≤ m := by
  cases e : look g c (m - 1) with
  | none => rw [lp_none e]; omega
  | some i => rw [lp_some e]; omega
theorem lp_miss {g : Nat → UInt8} {m d : Nat} {c : UInt8} (h1 : 1 ≤ d) (h2 : d < lp g m c) : g (m - 1 - d) ≠ c := by
  have hl := lp_le g m c
  cases e : look g c (m - 1) with
  | none => exact look_none e _ (by omega)
  | some i =>
    rw [lp_some e] at h2
    exact (look_some e).2.2 _ (by omega) (by omega)
theorem lp_hit {g : Nat → UInt8} {m : Nat} {c : UInt8} (h : lp g m c < m) : g (m - 1 - lp g m c) = c := by
  cases e : look g c (m - 1) with
  | none => rw [lp_none e] at h; omega
  | some i =>
    have h1 := look_some e
    rw [lp_some e, show m - 1 - (m - 1 - i) = i by omega]; exact h1.2.1
/-- The first distance at which the sign stands is the leap. -/
theorem lp_eq {g : Nat → UInt8} {m d : Nat} {c : UInt8} (h1 : 1 ≤ d) (h2 : d < m) (h3 : ∀ k, 1 ≤ k → k < d → g (m - 1 - k) ≠ c) (h4 : g (m - 1 - d) = c) : lp g m c = d := by
  have hp := lp_pos (g := g) (c := c) (show 0 < m by omega)
  rcases Nat.lt_trichotomy (lp g m c) d with h | h | h
  · exact absurd (lp_hit (by omega)) (h3 _ hp h)
  · exact h
  · exact absurd h4 (lp_miss h1 h)
theorem lp_far {g : Nat → UInt8} {m : Nat} {c : UInt8} (h : ∀ k, 1 ≤ k → k < m → g (m - 1 - k) ≠ c) (hm : 0 < m) : lp g m c = m := by
  have hl := lp_le g m c
  have hp := lp_pos (g := g) (c := c) hm
  rcases Nat.lt_or_ge (lp g m c) m with h' | h'
  · exact absurd (lp_hit h') (h _ hp h')
  · omega

/-- Where the word is laid, the j-th time. -/
def hop (f g : Nat → UInt8) (m : Nat) : Nat → Nat
  | 0 => 0
  | j + 1 => hop f g m j + lp g m (f (hop f g m j + m - 1))
theorem hop_succ (f g : Nat → UInt8) (m j : Nat) : hop f g m (j + 1) = hop f g m j + lp g m (f (hop f g m j + m - 1)) := rfl
/-- Laid the j-th time, the word lies within the text and does not stand there. -/
def Live (f g : Nat → UInt8) (n m j : Nat) : Prop := hop f g m j + m ≤ n ∧ ¬ Oc f g n m (hop f g m j)
def Lives (f g : Nat → UInt8) (n m j : Nat) : Prop := ∀ i, i < j → Live f g n m i
theorem lives_zero (f g : Nat → UInt8) (n m : Nat) : Lives f g n m 0 := fun i hi => absurd hi (by omega)
theorem lives_succ {f g : Nat → UInt8} {n m j : Nat} (h : Lives f g n m j) (h' : Live f g n m j) : Lives f g n m (j + 1) := fun i hi => by
  by_cases e : i = j
  · subst e; exact h'
  · exact h i (by omega)
/-- What 'First' answers: the place, or -1, and how often the word was laid. -/
def Fst (f g : Nat → UInt8) (n m : Nat) (a : Int) (k : Nat) : Prop :=
  ∃ j, Lives f g n m j ∧ ((Oc f g n m (hop f g m j) ∧ a = (hop f g m j : Nat) ∧ k = j + 1) ∨ (n < hop f g m j + m ∧ a = -1 ∧ k = j))
theorem fst_hit {f g : Nat → UInt8} {n m j : Nat} (h : Lives f g n m j) (ho : Oc f g n m (hop f g m j)) : Fst f g n m (hop f g m j : Nat) (j + 1) := ⟨j, h, .inl ⟨ho, rfl, rfl⟩⟩
theorem fst_out {f g : Nat → UInt8} {n m j : Nat} (h : Lives f g n m j) (ho : n < hop f g m j + m) : Fst f g n m (-1) j := ⟨j, h, .inr ⟨ho, rfl, rfl⟩⟩
theorem fst_one {f g : Nat → UInt8} {n m k k' : Nat} {a a' : Int} (h : Fst f g n m a k) (h' : Fst f g n m a' k') : a = a' ∧ k = k' := by
  obtain ⟨j, h1, h2⟩ := h
  obtain ⟨j', h1', h2'⟩ := h'
  have e : j = j' := by
    rcases Nat.lt_trichotomy j j' with hl | hl | hl
    · obtain ⟨h3, h4⟩ := h1' j hl
      rcases h2 with h2 | h2
      · exact absurd h2.1 h4
      · omega
    · exact hl
    · obtain ⟨h3, h4⟩ := h1 j' hl
      rcases h2' with h2' | h2'
      · exact absurd h2'.1 h4
      · omega
  subst e
  rcases h2 with ⟨o1, e1, e2⟩ | ⟨o1, e1, e2⟩ <;> rcases h2' with ⟨o2, e3, e4⟩ | ⟨o2, e3, e4⟩
  · exact ⟨by omega, by omega⟩
  · have := o1.1; omega
  · have := o2.1; omega
  · exact ⟨by omega, by omega⟩
theorem hop_ge (f g : Nat → UInt8) {m : Nat} (hm : 0 < m) : ∀ j, j ≤ hop f g m j
  | 0 => Nat.zero_le _
  | j + 1 => by
    have := hop_ge f g hm j
    have := lp_pos (g := g) (c := f (hop f g m j + m - 1)) hm
    rw [hop_succ]; omega
/-- No leap is too far. -/
theorem hop_skips {f g : Nat → UInt8} {n m : Nat} (hm : 0 < m) : ∀ j, Lives f g n m j → ∀ p, p < hop f g m j → ¬ Oc f g n m p
  | 0, _, p, hp => by simp [hop] at hp
  | j + 1, h, p, hp => by
    intro ho
    rcases Nat.lt_trichotomy p (hop f g m j) with hl | hl | hl
    · exact hop_skips hm j (fun i hi => h i (by omega)) p hl ho
    · subst hl; exact (h j (by omega)).2 ho
    · rw [hop_succ] at hp
      have hle := lp_le g m (f (hop f g m j + m - 1))
      have := lp_miss (g := g) (m := m) (c := f (hop f g m j + m - 1)) (d := p - hop f g m j) (by omega) (by omega)
      apply this
      rw [ho.2 _ (by omega)]; congr 1; omega
theorem fst_finds {t u : ByteArray} {a : Int} {k : Nat} (hm : 0 < u.size) (h : Fst (sg t) (sg u) t.size u.size a k) : (occL t u = [] ∧ a = -1) ∨ (0 < (occL t u).length ∧ a = (occL t u).getD 0 0 ∧ 0 ≤ a ∧ a ≤ t.size ∧ 1 ≤ k) := by
  obtain ⟨j, hl, ⟨ho, rfl, rfl⟩ | ⟨ho, rfl, rfl⟩⟩ := h
  · refine .inr ?_
    have h1 := ho.1
    have hs := hop_skips hm j hl
    have e : occN (sg t) (sg u) t.size u.size (hop (sg t) (sg u) u.size j) = [] := by
      unfold occN
      rw [List.filter_eq_nil_iff]
      intro p hp
      simp at hp
      simp [ocB_no (hs p hp)]
    have e2 : occTo (sg t) (sg u) t.size u.size (hop (sg t) (sg u) u.size j) = [] := by simp [occTo, e]
    have e3 := occTo_split (i := hop (sg t) (sg u) u.size j) (by omega) ho
    rw [e2] at e3
    exact ⟨e3.1, e3.2.symm, by omega, by omega, by omega⟩
  · refine .inl ⟨?_, rfl⟩
    have hs := hop_skips hm k hl
    unfold occL occTo occN
    rw [List.map_eq_nil_iff, List.filter_eq_nil_iff]
    intro p hp
    simp at hp
    have : ¬ Oc (sg t) (sg u) t.size u.size p := by
      by_cases h : p < hop (sg t) (sg u) u.size k
      · exact hs p h
      · intro h2; have := h2.1; omega
    simp [ocB_no this]
/-- How often the word is laid. -/
theorem fst_times {f g : Nat → UInt8} {n m k : Nat} {a : Int} (hm : 0 < m) (h : Fst f g n m a k) : (n < m → a = -1 ∧ k = 0) ∧ (m ≤ n → 1 ≤ k ∧ k ≤ n - m + 1) := by
  obtain ⟨j, hl, h⟩ := h
  constructor
  · intro hlt
    have e : j = 0 := by
      rcases Nat.eq_zero_or_pos j with e | e
      · exact e
      · have := (hl 0 e).1; omega
    subst e
    rcases h with ⟨ho, _⟩ | ⟨_, h1, h2⟩
    · have := ho.1; omega
    · exact ⟨h1, h2⟩
  · intro hle
    rcases h with ⟨ho, _, rfl⟩ | ⟨ho, _, rfl⟩
    · have := ho.1
      have := hop_ge f g hm j
      omega
    · have h0 : 0 < k := by
        rcases Nat.eq_zero_or_pos k with e | e
        · subst e; simp [hop] at ho; omega
        · exact e
      have := (hl (k - 1) (by omega)).1
      have := hop_ge f g hm (k - 1)
      omega
/-- Where text and word have no sign in common. -/
def Far (f g : Nat → UInt8) (n m : Nat) : Prop := ∀ i, i < n → ∀ j, j < m → f i ≠ g j
theorem far_hop {f g : Nat → UInt8} {n m : Nat} (hm : 0 < m) (hf : Far f g n m) : ∀ j, Lives f g n m j → hop f g m j = j * m
  | 0, _ => by simp [hop]
  | j + 1, h => by
    have h1 := far_hop hm hf j (fun i hi => h i (by omega))
    have h2 := (h j (by omega)).1
    rw [hop_succ, lp_far (fun k _ _ => (hf _ (by omega) _ (by omega)).symm) hm, h1, Nat.succ_mul]
theorem fst_far {f g : Nat → UInt8} {n m k : Nat} {a : Int} (hm : 0 < m) (hf : Far f g n m) (h : Fst f g n m a k) : a = -1 ∧ k = n / m := by
  obtain ⟨j, hl, h⟩ := h
  have hh := far_hop hm hf j hl
  rcases h with ⟨ho, _, _⟩ | ⟨ho, h1, rfl⟩
  · have h1 := ho.1
    exact absurd (ho.2 0 hm).symm (hf _ (by omega) _ hm)
  · refine ⟨h1, ?_⟩
    rw [hh] at ho
    have h3 : k * m ≤ n := by
      rcases Nat.eq_zero_or_pos k with e | e
      · subst e; simp
      · have h4 := (hl (k - 1) (by omega)).1
        rw [far_hop hm hf (k - 1) (fun i hi => hl i (by omega))] at h4
        have : k * m = (k - 1) * m + m := by rw [← Nat.succ_mul]; congr 1; omega
        omega
    exact (Nat.div_eq_of_lt_le h3 (by rw [Nat.succ_mul]; exact ho)).symm
end Go.Proofs.Ytdkbgikniacekaa
