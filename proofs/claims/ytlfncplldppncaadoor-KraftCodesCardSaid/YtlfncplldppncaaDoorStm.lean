/-
  Plain mathematics of the stable sort, without a program: exchanges of two ranges (SwpR), rotations (RotP), rows in the order T (Srt), rows whose elements come from a range (Frm), two rows of which a test tells the order (Agr); insertion and merging keep the order T. No condition.
-/
import Derived.WalkKit
import Derived.Sort.WalkA
import Derived.Sort.LotA
namespace Go.Proofs.YtlfncplldppncaaDoor
open Go.Sort
section
variable {α : Type} [Inhabited α]

/-- The ranges of n cells at a and at b are exchanged. -/
def SwpR (d e : Array α) (a b n : Nat) : Prop :=
  e.size = d.size ∧ (∀ x, a ≤ x → x < a + n → e[x]! = d[b + (x - a)]!) ∧ (∀ x, b ≤ x → x < b + n → e[x]! = d[a + (x - b)]!) ∧ ∀ x, ¬ (a ≤ x ∧ x < a + n) → ¬ (b ≤ x ∧ x < b + n) → e[x]! = d[x]!
theorem SwpR.start (d : Array α) (a b : Nat) : SwpR d d a b 0 := ⟨rfl, fun x h1 h2 => by omega, fun x h1 h2 => by omega, fun _ _ _ => rfl⟩
theorem SwpR.step {d e : Array α} {a b n k : Nat} (h : SwpR d e a b k) (hab : a + n ≤ b) (hb : b + n ≤ d.size) (hk : k < n) : SwpR d (swp e (a + k) (b + k)) a b (k + 1) := by
  obtain ⟨h0, h1, h2, h3⟩ := h
  refine ⟨by rw [size_swp, h0], fun x hx1 hx2 => ?_, fun x hx1 hx2 => ?_, fun x hx1 hx2 => ?_⟩
  · rw [swp_get e (by omega) (by omega), if_neg (by omega)]
    by_cases hx : x = a + k
    · rw [if_pos hx, h3 (b + k) (by omega) (by omega), hx]; congr 1; omega
    · rw [if_neg hx, h1 x hx1 (by omega)]
  · rw [swp_get e (by omega) (by omega)]
    by_cases hx : x = b + k
    · rw [if_pos hx, h3 (a + k) (by omega) (by omega), hx]; congr 1; omega
    · rw [if_neg hx, if_neg (by omega), h2 x hx1 (by omega)]
  · rw [swp_get e (by omega) (by omega), if_neg (by omega), if_neg (by omega), h3 x (by omega) (by omega)]

/-- The range from a to b is rotated: what stood from m on comes first. -/
def RotP (d e : Array α) (a m b : Nat) : Prop :=
  e.size = d.size ∧ (∀ x, x < a ∨ b ≤ x → e[x]! = d[x]!) ∧ (∀ x, a ≤ x → x < a + (b - m) → e[x]! = d[x + (m - a)]!) ∧ ∀ x, a + (b - m) ≤ x → x < b → e[x]! = d[x - (b - m)]!
theorem rot_none_l (d : Array α) (m b : Nat) : RotP d d m m b := ⟨rfl, fun _ _ => rfl, fun x _ _ => by simp, fun x h1 h2 => by omega⟩
theorem rot_none_r (d : Array α) (a m : Nat) : RotP d d a m m := ⟨rfl, fun _ _ => rfl, fun x h1 h2 => by omega, fun x _ _ => by simp⟩
theorem rot_end {d e : Array α} {m i : Nat} (hi : i ≤ m) (h : SwpR d e (m - i) m i) : RotP d e (m - i) m (m + i) := by
  obtain ⟨h0, h1, h2, h3⟩ := h
  refine ⟨h0, fun x hx => h3 x (by omega) (by omega), fun x hx1 hx2 => ?_, fun x hx1 hx2 => ?_⟩
  · rw [h1 x hx1 (by omega)]; congr 1; omega
  · rw [h2 x (by omega) (by omega)]; congr 1; omega
theorem rot_left {d e f : Array α} {m i j : Nat} (hi : i ≤ m) (hj : j < i) (h : SwpR d e (m - i) m j) (hr : RotP e f (m - (i - j)) m (m + j)) : RotP d f (m - i) m (m + j) := by
  obtain ⟨h0, h1, h2, h3⟩ := h
  obtain ⟨r0, r1, r2, r3⟩ := hr
  refine ⟨by omega, fun x hx => ?_, fun x hx1 hx2 => ?_, fun x hx1 hx2 => ?_⟩
  · rw [r1 x (by omega), h3 x (by omega) (by omega)]
  · rw [r1 x (by omega), h1 x hx1 (by omega)]; congr 1; omega
  · by_cases hx : x < m - (i - j) + (m + j - m)
    · rw [r2 x (by omega) hx, h2 _ (by omega) (by omega)]; congr 1; omega
    · rw [r3 x (by omega) hx2, h3 _ (by omega) (by omega)]
theorem rot_right {d e f : Array α} {m i j : Nat} (hi : i ≤ m) (hj : i < j) (h : SwpR d e (m - i) (m + j - i) i) (hr : RotP e f (m - i) m (m + (j - i))) : RotP d f (m - i) m (m + j) := by
  obtain ⟨h0, h1, h2, h3⟩ := h
  obtain ⟨r0, r1, r2, r3⟩ := hr
  refine ⟨by omega, fun x hx => ?_, fun x hx1 hx2 => ?_, fun x hx1 hx2 => ?_⟩
  · rw [r1 x (by omega), h3 x (by omega) (by omega)]
  · by_cases hx : x < m - i + (m + (j - i) - m)
    · rw [r2 x (by omega) hx, h3 _ (by omega) (by omega)]
    · rw [r3 x (by omega) (by omega), h1 _ (by omega) (by omega)]; congr 1; omega
  · rw [r1 x (by omega), h2 x (by omega) (by omega)]; congr 1; omega
/-- One element goes up, place by place. -/
theorem rot_up {d e : Array α} {a k : Nat} (h : RotP d e a (a + 1) (k + 1)) (hk : a ≤ k) (hs : k + 1 < d.size) : RotP d (swp e k (k + 1)) a (a + 1) (k + 2) := by
  obtain ⟨h0, h1, h2, h3⟩ := h
  refine ⟨by rw [size_swp, h0], fun x hx => ?_, fun x hx1 hx2 => ?_, fun x hx1 hx2 => ?_⟩
  · rw [swp_get e (by omega) (by omega), if_neg (by omega), if_neg (by omega), h1 x (by omega)]
  · rw [swp_get e (by omega) (by omega), if_neg (by omega)]
    by_cases hx : x = k
    · rw [if_pos hx, h1 (k + 1) (by omega), hx]; congr 1; omega
    · rw [if_neg hx, h2 x hx1 (by omega)]
  · obtain rfl : x = k + 1 := by omega
    rw [swp_get e (by omega) (by omega), if_pos rfl, h3 k (by omega) (by omega)]; congr 1; omega
/-- One element goes down, place by place. -/
theorem rot_down {d e : Array α} {m k : Nat} (h : RotP d e k m (m + 1)) (hk : 0 < k) (hm : k ≤ m) (hs : m < d.size) : RotP d (swp e k (k - 1)) (k - 1) m (m + 1) := by
  obtain ⟨h0, h1, h2, h3⟩ := h
  refine ⟨by rw [size_swp, h0], fun x hx => ?_, fun x hx1 hx2 => ?_, fun x hx1 hx2 => ?_⟩
  · rw [swp_get e (by omega) (by omega), if_neg (by omega), if_neg (by omega), h1 x (by omega)]
  · obtain rfl : x = k - 1 := by omega
    rw [swp_get e (by omega) (by omega), if_pos rfl, h2 k (by omega) (by omega)]; congr 1; omega
  · rw [swp_get e (by omega) (by omega), if_neg (by omega)]
    by_cases hx : x = k
    · rw [if_pos hx, h1 (k - 1) (by omega), hx]; congr 1; omega
    · rw [if_neg hx, h3 x (by omega) hx2]

/-- An order of elements: total on what is different. -/
structure Tot (T : α → α → Prop) : Prop where
  trans : ∀ {x y z}, T x y → T y z → T x z
  irr : ∀ x, ¬ T x x
def Srt (T : α → α → Prop) (d : Array α) (a b : Nat) : Prop := ∀ x y, a ≤ x → x < y → y < b → T d[x]! d[y]!
/-- What stands from a to m, and from m to b: the test tells the order. -/
def Agr (lt : α → α → Bool) (T : α → α → Prop) (d : Array α) (a m b : Nat) : Prop :=
  ∀ x y, a ≤ x → x < m → m ≤ y → y < b → (lt d[y]! d[x]! = true → T d[y]! d[x]!) ∧ (lt d[y]! d[x]! = false → T d[x]! d[y]!)
/-- Behind a step the range from a to b holds elements that it held before, and the rest is as it was. -/
def Frm (d e : Array α) (a b : Nat) : Prop := e.size = d.size ∧ (∀ x, x < a ∨ b ≤ x → e[x]! = d[x]!) ∧ ∀ x, a ≤ x → x < b → ∃ y, a ≤ y ∧ y < b ∧ e[x]! = d[y]!
theorem Frm.refl (d : Array α) (a b : Nat) : Frm d d a b := ⟨rfl, fun _ _ => rfl, fun x h1 h2 => ⟨x, h1, h2, rfl⟩⟩
theorem Frm.trans {d e f : Array α} {a b : Nat} (h : Frm d e a b) (k : Frm e f a b) : Frm d f a b :=
  ⟨k.1.trans h.1, fun x hx => (k.2.1 x hx).trans (h.2.1 x hx), fun x h1 h2 => by
    obtain ⟨y, y1, y2, y3⟩ := k.2.2 x h1 h2
    obtain ⟨z, z1, z2, z3⟩ := h.2.2 y y1 y2
    exact ⟨z, z1, z2, y3.trans z3⟩⟩
theorem Frm.wide {d e : Array α} {a b a' b' : Nat} (h : Frm d e a b) (ha : a' ≤ a) (hb : b ≤ b') : Frm d e a' b' :=
  ⟨h.1, fun x hx => h.2.1 x (by omega), fun x h1 h2 => by
    by_cases hx : a ≤ x ∧ x < b
    · obtain ⟨y, y1, y2, y3⟩ := h.2.2 x hx.1 hx.2
      exact ⟨y, by omega, by omega, y3⟩
    · exact ⟨x, h1, h2, h.2.1 x (by omega)⟩⟩
theorem Frm.srt {T : α → α → Prop} {d e : Array α} {a b a' b' : Nat} (h : Frm d e a b) (hd : b' ≤ a ∨ b ≤ a') (hs : Srt T d a' b') : Srt T e a' b' := fun x y h1 h2 h3 => by
  rw [h.2.1 x (by omega), h.2.1 y (by omega)]; exact hs x y h1 h2 h3
theorem Srt.join {T : α → α → Prop} {d : Array α} {a m b : Nat} (h1 : Srt T d a m) (h2 : Srt T d m b) (hc : ∀ x y, a ≤ x → x < m → m ≤ y → y < b → T d[x]! d[y]!) : Srt T d a b := fun x y hx hxy hy => by
  by_cases h : y < m
  · exact h1 x y hx hxy h
  · by_cases h' : m ≤ x
    · exact h2 x y h' hxy hy
    · exact hc x y hx (by omega) (by omega) hy
theorem Srt.le {T : α → α → Prop} {d : Array α} {a b : Nat} (h : Srt T d a b) {a' b' : Nat} (ha : a ≤ a') (hb : b' ≤ b) : Srt T d a' b' := fun x y h1 h2 h3 => h x y (by omega) h2 (by omega)
theorem srt_one {T : α → α → Prop} {d : Array α} {a b : Nat} (h : b ≤ a + 1) : Srt T d a b := fun x y h1 h2 h3 => by omega
theorem rot_frm {d e : Array α} {s m t a b : Nat} (h : RotP d e s m t) (ha : a ≤ s) (hs : s ≤ m) (ht : m ≤ t) (hb : t ≤ b) : Frm d e a b := by
  obtain ⟨h0, h1, h2, h3⟩ := h
  refine ⟨h0, fun x hx => h1 x (by omega), fun x hx1 hx2 => ?_⟩
  by_cases c1 : x < s ∨ t ≤ x
  · exact ⟨x, hx1, hx2, h1 x c1⟩
  · by_cases c2 : x < s + (t - m)
    · exact ⟨_, by omega, by omega, h2 x (by omega) c2⟩
    · exact ⟨_, by omega, by omega, h3 x (by omega) (by omega)⟩
/-- What a rotation of the middle of two sorted rows makes: four rows, the first two and the last two to be merged. -/
theorem rot_split {lt : α → α → Bool} {T : α → α → Prop} {d e : Array α} {a s m t b c : Nat} (hr : RotP d e s m t) (ha : a ≤ s) (hs : s ≤ m) (ht : m ≤ t) (hb : t ≤ b) (hc : c = s + (t - m))
    (hL : Srt T d a m) (hR : Srt T d m b) (hA : Agr lt T d a m b) :
    Srt T e a s ∧ Srt T e s c ∧ Srt T e c t ∧ Srt T e t b ∧ Agr lt T e a s c ∧ Agr lt T e c t b := by
  obtain ⟨h0, h1, h2, h3⟩ := hr
  subst hc
  refine ⟨fun x y x1 x2 x3 => ?_, fun x y x1 x2 x3 => ?_, fun x y x1 x2 x3 => ?_, fun x y x1 x2 x3 => ?_, fun x y x1 x2 y1 y2 => ?_, fun x y x1 x2 y1 y2 => ?_⟩
  · rw [h1 x (by omega), h1 y (by omega)]; exact hL x y (by omega) x2 (by omega)
  · rw [h2 x (by omega) (by omega), h2 y (by omega) (by omega)]; exact hR _ _ (by omega) (by omega) (by omega)
  · rw [h3 x (by omega) (by omega), h3 y (by omega) (by omega)]; exact hL _ _ (by omega) (by omega) (by omega)
  · rw [h1 x (by omega), h1 y (by omega)]; exact hR x y (by omega) x2 (by omega)
  · rw [h1 x (by omega), h2 y (by omega) (by omega)]; exact hA _ _ (by omega) (by omega) (by omega) (by omega)
  · rw [h3 x (by omega) (by omega), h1 y (by omega)]; exact hA _ _ (by omega) (by omega) (by omega) (by omega)
theorem srt_to {T : α → α → Prop} (hT : Tot T) {d : Array α} {a b x y : Nat} {z : α} (h : Srt T d a b) (hx : a ≤ x) (hxy : x ≤ y) (hy : y < b) (hz : T d[y]! z) : T d[x]! z := by
  rcases Nat.lt_or_eq_of_le hxy with h' | rfl
  · exact hT.trans (h x y hx h' hy) hz
  · exact hz
theorem srt_from {T : α → α → Prop} (hT : Tot T) {d : Array α} {a b x y : Nat} {z : α} (h : Srt T d a b) (hx : a ≤ x) (hxy : x ≤ y) (hy : y < b) (hz : T z d[x]!) : T z d[y]! := by
  rcases Nat.lt_or_eq_of_le hxy with h' | rfl
  · exact hT.trans hz (h x y hx h' hy)
  · exact hz
/-- .. and all of the first two stand ahead of all of the last two. -/
theorem rot_cross {T : α → α → Prop} (hT : Tot T) {d e : Array α} {a s m t b c : Nat} (hr : RotP d e s m t) (ha : a ≤ s) (hs : s ≤ m) (ht : m ≤ t) (hb : t ≤ b) (hc : c = s + (t - m))
    (hL : Srt T d a m) (hR : Srt T d m b) (h1 : a < s → t < b → T d[s - 1]! d[t]!) (h2 : m < t → s < m → T d[t - 1]! d[s]!) : ∀ x y, a ≤ x → x < c → c ≤ y → y < b → T e[x]! e[y]! := by
  obtain ⟨_, r1, r2, r3⟩ := hr
  subst hc
  intro x y x1 x2 y1 y2
  by_cases hx : x < s
  · rw [r1 x (.inl hx)]
    by_cases hy : y < t
    · rw [r3 y y1 hy]; exact hL _ _ x1 (by omega) (by omega)
    · rw [r1 y (by omega)]
      exact srt_to hT hL x1 (by omega) (show s - 1 < m by omega) (srt_from hT hR (x := t) (by omega) (by omega) y2 (h1 (by omega) (by omega)))
  · rw [r2 x (by omega) x2]
    by_cases hy : y < t
    · rw [r3 y y1 hy]
      exact srt_to hT hR (y := t - 1) (by omega) (by omega) (by omega) (srt_from hT hL (x := s) (by omega) (by omega) (by omega) (h2 (by omega) (by omega)))
    · rw [r1 y (by omega)]; exact hR _ _ (by omega) (by omega) y2
/-- Two rows merged, one of which is one element: it has found its place. -/
theorem merge_up {T : α → α → Prop} {d e : Array α} {a b i : Nat} (hr : RotP d e a (a + 1) i) (hi : a + 1 ≤ i) (hb : i ≤ b) (hR : Srt T d (a + 1) b)
    (h1 : ∀ y, a + 1 ≤ y → y < i → T d[y]! d[a]!) (h2 : ∀ y, i ≤ y → y < b → T d[a]! d[y]!) : Frm d e a b ∧ Srt T e a b := by
  refine ⟨rot_frm hr (Nat.le_refl _) (by omega) hi hb, ?_⟩
  obtain ⟨_, r1, r2, r3⟩ := hr
  intro x y x1 xy y1
  by_cases hy : i ≤ y
  · rw [r1 y (by omega)]
    by_cases hx : i ≤ x
    · rw [r1 x (by omega)]; exact hR x y (by omega) xy y1
    · by_cases hx' : x < a + (i - (a + 1))
      · rw [r2 x x1 hx']; exact hR _ _ (by omega) (by omega) y1
      · rw [r3 x (by omega) (by omega), show x - (i - (a + 1)) = a by omega]; exact h2 y hy y1
  · rw [r2 x x1 (by omega)]
    by_cases hy' : y < a + (i - (a + 1))
    · rw [r2 y (by omega) hy']; exact hR _ _ (by omega) (by omega) (by omega)
    · rw [r3 y (by omega) (by omega), show y - (i - (a + 1)) = a by omega]; exact h1 _ (by omega) (by omega)
theorem merge_down {T : α → α → Prop} {d e : Array α} {a m i : Nat} (hr : RotP d e i m (m + 1)) (ha : a ≤ i) (hi : i ≤ m) (hL : Srt T d a m)
    (h1 : ∀ x, a ≤ x → x < i → T d[x]! d[m]!) (h2 : ∀ x, i ≤ x → x < m → T d[m]! d[x]!) : Frm d e a (m + 1) ∧ Srt T e a (m + 1) := by
  refine ⟨rot_frm hr ha hi (by omega) (Nat.le_refl _), ?_⟩
  obtain ⟨_, r1, r2, r3⟩ := hr
  intro x y x1 xy y1
  by_cases hx : x < i
  · rw [r1 x (.inl hx)]
    by_cases hy : y < i
    · rw [r1 y (.inl hy)]; exact hL x y x1 xy (by omega)
    · by_cases hy' : y < i + (m + 1 - m)
      · rw [r2 y (by omega) hy', show y + (m - i) = m by omega]; exact h1 x x1 hx
      · rw [r3 y (by omega) y1]; exact hL _ _ x1 (by omega) (by omega)
  · by_cases hx' : x < i + (m + 1 - m)
    · rw [r2 x (by omega) hx', show x + (m - i) = m by omega, r3 y (by omega) y1]; exact h2 _ (by omega) (by omega)
    · rw [r3 x (by omega) (by omega), r3 y (by omega) y1]; exact hL _ _ (by omega) (by omega) (by omega)
/-- Both halves sorted, one behind the other. -/
theorem merge_both {T : α → α → Prop} {d e f : Array α} {a c b : Nat} (hac : a ≤ c) (hcb : c ≤ b) (hC : ∀ x y, a ≤ x → x < c → c ≤ y → y < b → T d[x]! d[y]!) (h1 : Frm d e a c) (s1 : Srt T e a c) (h2 : Frm e f c b) (s2 : Srt T f c b) : Frm d f a b ∧ Srt T f a b := by
  refine ⟨(h1.wide (Nat.le_refl _) hcb).trans (h2.wide hac (Nat.le_refl _)), Srt.join (h2.srt (.inl (Nat.le_refl _)) s1) s2 fun x y x1 x2 y1 y2 => ?_⟩
  rw [h2.2.1 x (.inl x2)]
  obtain ⟨z, z1, z2, z3⟩ := h1.2.2 x x1 x2
  obtain ⟨u, u1, u2, u3⟩ := h2.2.2 y y1 y2
  rw [z3, u3, h1.2.1 u (.inr u1)]
  exact hC z u z1 z2 u1 u2

/-! ### Insertion -/
/-- While an element is being put into its place: the rest is sorted, what stands behind it is behind it. -/
theorem ins_in {lt : α → α → Bool} {T : α → α → Prop} (hT : Tot T) (a i : Nat) : ∀ (j : Nat) (d : Array α), a ≤ j → j ≤ i → i < d.size →
    (∀ x y, a ≤ x → x < y → y ≤ i → x ≠ j → y ≠ j → T d[x]! d[y]!) → (∀ y, j < y → y ≤ i → T d[j]! d[y]!) → (∀ x, a ≤ x → x < j → (lt d[j]! d[x]! = true → T d[j]! d[x]!) ∧ (lt d[j]! d[x]! = false → T d[x]! d[j]!)) →
    Frm d (insInner lt a j d) a (i + 1) ∧ Srt T (insInner lt a j d) a (i + 1) := by
  intro j
  induction j with
  | zero =>
    intro d ha hi hs h1 h2 h3
    rw [insInner_stop lt a 0 d (.inl (by omega))]
    refine ⟨Frm.refl _ _ _, fun x y x1 xy y1 => ?_⟩
    by_cases hx : x = 0
    · subst hx; exact h2 y xy (by omega)
    · exact h1 x y x1 xy (by omega) hx (by omega)
  | succ j ih =>
    intro d ha hi hs h1 h2 h3
    by_cases hst : j + 1 ≤ a ∨ lt d[j + 1]! d[j + 1 - 1]! = false
    · rw [insInner_stop lt a (j + 1) d hst]
      refine ⟨Frm.refl _ _ _, fun x y x1 xy y1 => ?_⟩
      by_cases hx : x = j + 1
      · subst hx; exact h2 y xy (by omega)
      · by_cases hy : y = j + 1
        · subst hy
          have hl : T d[j]! d[j + 1]! := (h3 j (by omega) (by omega)).2 (by rcases hst with h | h; (omega); (exact h))
          rcases Nat.lt_or_eq_of_le (show x ≤ j by omega) with h | rfl
          · exact hT.trans (h1 x j x1 h (by omega) hx (by omega)) hl
          · exact hl
        · exact h1 x y x1 xy (by omega) hx hy
    · have hgo := not_or.1 hst
      have hlt : lt d[j + 1]! d[j]! = true := by simpa using hgo.2
      rw [insInner_go lt a (j + 1) d (by omega) hlt, Nat.add_sub_cancel]
      have hg := swp_get d (i := j + 1) (j := j) (by omega) (by omega)
      have hT1 := (h3 j (by omega) (by omega)).1 hlt
      obtain ⟨f1, f2⟩ := ih (swp d (j + 1) j) (by omega) (by omega) (by rw [size_swp]; exact hs) (fun x y x1 xy y1 hx hy => by
          rw [hg x, hg y, if_neg hx, if_neg hy]
          by_cases e1 : x = j + 1
          · rw [if_pos e1, if_neg (by omega)]; exact h1 j y (by omega) (by omega) y1 (by omega) (by omega)
          · rw [if_neg e1]
            by_cases e2 : y = j + 1
            · rw [if_pos e2]; exact h1 x j x1 (by omega) (by omega) e1 (by omega)
            · rw [if_neg e2]; exact h1 x y x1 xy y1 e1 e2)
        (fun y y1 y2 => by
          rw [hg j, hg y, if_pos rfl, if_neg (by omega)]
          by_cases e : y = j + 1
          · rw [if_pos e]; exact hT1
          · rw [if_neg e]; exact h2 y (by omega) y2)
        (fun x x1 x2 => by
          rw [hg j, hg x, if_pos rfl, if_neg (by omega), if_neg (by omega)]
          exact h3 x x1 (by omega))
      refine ⟨Frm.trans ⟨by rw [size_swp], fun x hx => ?_, fun x x1 x2 => ?_⟩ f1, f2⟩
      · rw [hg x, if_neg (by omega), if_neg (by omega)]
      · rw [hg x]
        by_cases e : x = j
        · rw [if_pos e]; exact ⟨j + 1, by omega, by omega, rfl⟩
        · rw [if_neg e]
          by_cases e' : x = j + 1
          · rw [if_pos e']; exact ⟨j, by omega, by omega, rfl⟩
          · rw [if_neg e']; exact ⟨x, x1, x2, rfl⟩
/-- Insertion sort of a row in which the test tells the order of any two, the first one standing ahead. -/
theorem ins_out {lt : α → α → Bool} {T : α → α → Prop} (hT : Tot T) (a b : Nat) (d0 : Array α) (hb : b ≤ d0.size)
    (hA : ∀ x y, a ≤ x → x < y → y < b → (lt d0[y]! d0[x]! = true → T d0[y]! d0[x]!) ∧ (lt d0[y]! d0[x]! = false → T d0[x]! d0[y]!)) : ∀ n i d, i + n = b → a < i → Frm d0 d a i → Srt T d a i →
    Frm d0 (insOuter lt a b i d) a b ∧ Srt T (insOuter lt a b i d) a b := by
  intro n
  induction n with
  | zero =>
    intro i d hn hai hf hs
    obtain rfl : i = b := by omega
    rw [insOuter_stop lt a i i d (by omega)]
    exact ⟨hf, hs⟩
  | succ n ih =>
    intro i d hn hai hf hs
    rw [insOuter_go lt a b i d (by omega)]
    have hi : d[i]! = d0[i]! := hf.2.1 i (.inr (Nat.le_refl _))
    obtain ⟨f1, f2⟩ := ins_in (lt := lt) hT a i i d (by omega) (Nat.le_refl _) (by rw [hf.1]; omega) (fun x y x1 xy y1 hx hy => hs x y x1 xy (by omega)) (fun y y1 y2 => by omega) (fun x x1 x2 => by
      obtain ⟨z, z1, z2, z3⟩ := hf.2.2 x x1 x2
      rw [hi, z3]
      exact hA z i z1 z2 (by omega))
    exact ih (i + 1) _ (by omega) (by omega) ((hf.wide (Nat.le_refl _) (by omega)).trans f1) f2
theorem ins_srt {lt : α → α → Bool} {T : α → α → Prop} (hT : Tot T) (a b : Nat) (d : Array α) (hab : a ≤ b) (hb : b ≤ d.size)
    (hA : ∀ x y, a ≤ x → x < y → y < b → (lt d[y]! d[x]! = true → T d[y]! d[x]!) ∧ (lt d[y]! d[x]! = false → T d[x]! d[y]!)) : Frm d (insertionSort lt d a b) a b ∧ Srt T (insertionSort lt d a b) a b := by
  unfold insertionSort
  by_cases h : a < b
  · exact ins_out hT a b d hb hA (b - (a + 1)) (a + 1) d (by omega) (by omega) (Frm.refl _ _ _) (srt_one (by omega))
  · rw [insOuter_stop lt a b (a + 1) d (by omega)]
    exact ⟨Frm.refl _ _ _, srt_one (by omega)⟩
end
end Go.Proofs.YtlfncplldppncaaDoor
