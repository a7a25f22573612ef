/-
  Several of this claim's texts in one (Stm, InsL, StL, Kord, Tmath, Str, Bs, Strs, Klen, ByteI, Kbin, CodeT): what each proves stands at its own head. Conditions: as each says.
-/
import Derived.WalkKit
import Derived.Sort.WalkA
import Derived.Sort.LotA
import Derived.Shelf.SlSortCmp.Insertion1
import Derived.Test.YtlfncplldppncaaProg
import Derived.Deep.OwnRows
import Derived.Laws.IdiomStrings
import Derived.Lib.RabinKarpLaws
import Derived.Test.YtlfncplldppncaaQc

/-
  Plain mathematics of the stable sort, without a program: exchanges of two ranges (SwpR), rotations (RotP), rows in the order T (Srt), rows whose elements come from a range (Frm), two rows of which a test tells the order (Agr); insertion and merging keep the order T. No condition.
-/
namespace Go.Proofs.Ytlfncplldppncaa
open Go.Sort
section
variable {α : Type} [Inhabited α]

/-- The ranges of n cells at a and at b are exchanged. -/
def SwpR (d e : Array α) (a b n : Nat) : Prop :=
  e.size = d.size ∧ (∀ x, a ≤ x → x < a + n → e[x]! = d[b + (x - a)]!) ∧ (∀ x, b ≤ x → x < b + n → e[x]! = d[a + (x - b)]!) ∧ ∀ x, ¬ (a ≤ x ∧ x < a + n) → ¬ (b ≤ x ∧ x < b + n) → e[x]! = d[x]!
theorem SwpR.start (d : Array α) (a b : Nat) : SwpR d d a b 0 := ⟨rfl, fun x h1 h2 => by omega, fun x h1 h2 => by omega, fun _ _ _ => rfl⟩
theorem SwpR.step {d e : Array α} {a b n k : Nat} (h : SwpR d e a b k) (hab : a + n ≤ b) (hb : b + n ≤ d.size) (hk : k < n) : SwpR d (swp e (a + k) (b + k)) a b (k + 1) := by
  obtain ⟨h0, h1, h2, h3⟩ := h
  refine ⟨by rw [size_swp, h0], fun x hx1 hx2 => ?_, fun x hx1 hx2 => ?_, fun x hx1 hx2 => ?_⟩
  · rw [swp_get e (by omega) (by omega), if_neg (by omega)]
    by_cases hx : x = a + k
    · rw [if_pos hx, h3 (b + k) (by omega) (by omega), hx]; congr 1; omega
    · rw [if_neg hx, h1 x hx1 (by omega)]
  · rw [swp_get e (by omega) (by omega)]
    by_cases hx : x = b + k
    · rw [if_pos hx, h3 (a + k) (by omega) (by omega), hx]; congr 1; omega
    · rw [if_neg hx, if_neg (by omega), h2 x hx1 (by omega)]
  · rw [swp_get e (by omega) (by omega), if_neg (by omega), if_neg (by omega), h3 x (by omega) (by omega)]

/-- The range from a to b is rotated: what stood from m on comes first. -/
def RotP (d e : Array α) (a m b : Nat) : Prop :=
  e.size = d.size ∧ (∀ x, x < a ∨ b ≤ x → e[x]! = d[x]!) ∧ (∀ x, a ≤ x → x < a + (b - m) → e[x]! = d[x + (m - a)]!) ∧ ∀ x, a + (b - m) ≤ x → x < b → e[x]! = d[x - (b - m)]!
theorem rot_none_l (d : Array α) (m b : Nat) : RotP d d m m b := ⟨rfl, fun _ _ => rfl, fun x _ _ => by simp, fun x h1 h2 => by omega⟩
theorem rot_none_r (d : Array α) (a m : Nat) : RotP d d a m m := ⟨rfl, fun _ _ => rfl, fun x h1 h2 => by omega, fun x _ _ => by simp⟩
theorem rot_end {d e : Array α} {m i : Nat} (hi : i ≤ m) (h : SwpR d e (m - i) m i) : RotP d e (m - i) m (m + i) := by
  obtain ⟨h0, h1, h2, h3⟩ := h
  refine ⟨h0, fun x hx => h3 x (by omega) (by omega), fun x hx1 hx2 => ?_, fun x hx1 hx2 => ?_⟩
  · rw [h1 x hx1 (by omega)]; congr 1; omega
  · rw [h2 x (by omega) (by omega)]; congr 1; omega
theorem rot_left {d e f : Array α} {m i j : Nat} (hi : i ≤ m) (hj : j < i) (h : SwpR d e (m - i) m j) (hr : RotP e f (m - (i - j)) m (m + j)) : RotP d f (m - i) m (m + j) := by
  obtain ⟨h0, h1, h2, h3⟩ := h
  obtain ⟨r0, r1, r2, r3⟩ := hr
  refine ⟨by omega, fun x hx => ?_, fun x hx1 hx2 => ?_, fun x hx1 hx2 => ?_⟩
  · rw [r1 x (by omega), h3 x (by omega) (by omega)]
  · rw [r1 x (by omega), h1 x hx1 (by omega)]; congr 1; omega
  · by_cases hx : x < m - (i - j) + (m + j - m)
    · rw [r2 x (by omega) hx, h2 _ (by omega) (by omega)]; congr 1; omega
    · rw [r3 x (by omega) hx2, h3 _ (by omega) (by omega)]
theorem rot_right {d e f : Array α} {m i j : Nat} (hi : i ≤ m) (hj : i < j) (h : SwpR d e (m - i) (m + j - i) i) (hr : RotP e f (m - i) m (m + (j - i))) : RotP d f (m - i) m (m + j) := by
  obtain ⟨h0, h1, h2, h3⟩ := h
  obtain ⟨r0, r1, r2, r3⟩ := hr
  refine ⟨by omega, fun x hx => ?_, fun x hx1 hx2 => ?_, fun x hx1 hx2 => ?_⟩
  · rw [r1 x (by omega), h3 x (by omega) (by omega)]
  · by_cases hx : x < m - i + (m + (j - i) - m)
    · rw [r2 x (by omega) hx, h3 _ (by omega) (by omega)]
    · rw [r3 x (by omega) (by omega), h1 _ (by omega) (by omega)]; congr 1; omega
  · rw [r1 x (by omega), h2 x (by omega) (by omega)]; congr 1; omega
/-- One element goes up, place by place. -/
theorem rot_up {d e : Array α} {a k : Nat} (h : RotP d e a (a + 1) (k + 1)) (hk : a ≤ k) (hs : k + 1 < d.size) : RotP d (swp e k (k + 1)) a (a + 1) (k + 2) := by
  obtain ⟨h0, h1, h2, h3⟩ := h
  refine ⟨by rw [size_swp, h0], fun x hx => ?_, fun x hx1 hx2 => ?_, fun x hx1 hx2 => ?_⟩
  · rw [swp_get e (by omega) (by omega), if_neg (by omega), if_neg (by omega), h1 x (by omega)]
  · rw [swp_get e (by omega) (by omega), if_neg (by omega)]
    by_cases hx : x = k
    · rw [if_pos hx, h1 (k + 1) (by omega), hx]; congr 1; omega
    · rw [if_neg hx, h2 x hx1 (by omega)]
  · obtain rfl : x = k + 1 := by omega
    rw [swp_get e (by omega) (by omega), if_pos rfl, h3 k (by omega) (by omega)]; congr 1; omega
/-- One element goes down, place by place. -/
theorem rot_down {d e : Array α} {m k : Nat} (h : RotP d e k m (m + 1)) (hk : 0 < k) (hm : k ≤ m) (hs : m < d.size) : RotP d (swp e k (k - 1)) (k - 1) m (m + 1) := by
  obtain ⟨h0, h1, h2, h3⟩ := h
  refine ⟨by rw [size_swp, h0], fun x hx => ?_, fun x hx1 hx2 => ?_, fun x hx1 hx2 => ?_⟩
  · rw [swp_get e (by omega) (by omega), if_neg (by omega), if_neg (by omega), h1 x (by omega)]
  · obtain rfl : x = k - 1 := by omega
    rw [swp_get e (by omega) (by omega), if_pos rfl, h2 k (by omega) (by omega)]; congr 1; omega
  · rw [swp_get e (by omega) (by omega), if_neg (by omega)]
    by_cases hx : x = k
    · rw [if_pos hx, h1 (k - 1) (by omega), hx]; congr 1; omega
    · rw [if_neg hx, h3 x (by omega) hx2]

/-- An order of elements: total on what is different. -/
structure Tot (T : α → α → Prop) : Prop where
  trans : ∀ {x y z}, T x y → T y z → T x z
  irr : ∀ x, ¬ T x x
def Srt (T : α → α → Prop) (d : Array α) (a b : Nat) : Prop := ∀ x y, a ≤ x → x < y → y < b → T d[x]! d[y]!
/-- What stands from a to m, and from m to b: the test tells the order. -/
def Agr (lt : α → α → Bool) (T : α → α → Prop) (d : Array α) (a m b : Nat) : Prop :=
  ∀ x y, a ≤ x → x < m → m ≤ y → y < b → (lt d[y]! d[x]! = true → T d[y]! d[x]!) ∧ (lt d[y]! d[x]! = false → T d[x]! d[y]!)
/-- Behind a step the range from a to b holds elements that it held before, and the rest is as it was. -/
def Frm (d e : Array α) (a b : Nat) : Prop := e.size = d.size ∧ (∀ x, x < a ∨ b ≤ x → e[x]! = d[x]!) ∧ ∀ x, a ≤ x → x < b → ∃ y, a ≤ y ∧ y < b ∧ e[x]! = d[y]!
theorem Frm.refl (d : Array α) (a b : Nat) : Frm d d a b := ⟨rfl, fun _ _ => rfl, fun x h1 h2 => ⟨x, h1, h2, rfl⟩⟩
theorem Frm.trans {d e f : Array α} {a b : Nat} (h : Frm d e a b) (k : Frm e f a b) : Frm d f a b :=
  ⟨k.1.trans h.1, fun x hx => (k.2.1 x hx).trans (h.2.1 x hx), fun x h1 h2 => by
    obtain ⟨y, y1, y2, y3⟩ := k.2.2 x h1 h2
    obtain ⟨z, z1, z2, z3⟩ := h.2.2 y y1 y2
    exact ⟨z, z1, z2, y3.trans z3⟩⟩
theorem Frm.wide {d e : Array α} {a b a' b' : Nat} (h : Frm d e a b) (ha : a' ≤ a) (hb : b ≤ b') : Frm d e a' b' :=
  ⟨h.1, fun x hx => h.2.1 x (by omega), fun x h1 h2 => by
    by_cases hx : a ≤ x ∧ x < b
    · obtain ⟨y, y1, y2, y3⟩ := h.2.2 x hx.1 hx.2
      exact ⟨y, by omega, by omega, y3⟩
    · exact ⟨x, h1, h2, h.2.1 x (by omega)⟩⟩
theorem Frm.srt {T : α → α → Prop} {d e : Array α} {a b a' b' : Nat} (h : Frm d e a b) (hd : b' ≤ a ∨ b ≤ a') (hs : Srt T d a' b') : Srt T e a' b' := fun x y h1 h2 h3 => by
  rw [h.2.1 x (by omega), h.2.1 y (by omega)]; exact hs x y h1 h2 h3
theorem Srt.join {T : α → α → Prop} {d : Array α} {a m b : Nat} (h1 : Srt T d a m) (h2 : Srt T d m b) (hc : ∀ x y, a ≤ x → x < m → m ≤ y → y < b → T d[x]! d[y]!) : Srt T d a b := fun x y hx hxy hy => by
  by_cases h : y < m
  · exact h1 x y hx hxy h
  · by_cases h' : m ≤ x
    · exact h2 x y h' hxy hy
    · exact hc x y hx (by omega) (by omega) hy
theorem Srt.le {T : α → α → Prop} {d : Array α} {a b : Nat} (h : Srt T d a b) {a' b' : Nat} (ha : a ≤ a') (hb : b' ≤ b) : Srt T d a' b' := fun x y h1 h2 h3 => h x y (by omega) h2 (by omega)
theorem srt_one {T : α → α → Prop} {d : Array α} {a b : Nat} (h : b ≤ a + 1) : Srt T d a b := fun x y h1 h2 h3 => by omega
theorem rot_frm {d e : Array α} {s m t a b : Nat} (h : RotP d e s m t) (ha : a ≤ s) (hs : s ≤ m) (ht : m ≤ t) (hb : t ≤ b) : Frm d e a b := by
  obtain ⟨h0, h1, h2, h3⟩ := h
  refine ⟨h0, fun x hx => h1 x (by omega), fun x hx1 hx2 => ?_⟩
  by_cases c1 : x < s ∨ t ≤ x
  · exact ⟨x, hx1, hx2, h1 x c1⟩
  · by_cases c2 : x < s + (t - m)
    · exact ⟨_, by omega, by omega, h2 x (by omega) c2⟩
    · exact ⟨_, by omega, by omega, h3 x (by omega) (by omega)⟩
/-- What a rotation of the middle of two sorted rows makes: four rows, the first two and the last two to be merged. -/
theorem rot_split {lt : α → α → Bool} {T : α → α → Prop} {d e : Array α} {a s m t b c : Nat} (hr : RotP d e s m t) (ha : a ≤ s) (hs : s ≤ m) (ht : m ≤ t) (hb : t ≤ b) (hc : c = s + (t - m))
    (hL : Srt T d a m) (hR : Srt T d m b) (hA : Agr lt T d a m b) :
    Srt T e a s ∧ Srt T e s c ∧ Srt T e c t ∧ Srt T e t b ∧ Agr lt T e a s c ∧ Agr lt T e c t b := by
  obtain ⟨h0, h1, h2, h3⟩ := hr
  subst hc
  refine ⟨fun x y x1 x2 x3 => ?_, fun x y x1 x2 x3 => ?_, fun x y x1 x2 x3 => ?_, fun x y x1 x2 x3 => ?_, fun x y x1 x2 y1 y2 => ?_, fun x y x1 x2 y1 y2 => ?_⟩
  · rw [h1 x (by omega), h1 y (by omega)]; exact hL x y (by omega) x2 (by omega)
  · rw [h2 x (by omega) (by omega), h2 y (by omega) (by omega)]; exact hR _ _ (by omega) (by omega) (by omega)
  · rw [h3 x (by omega) (by omega), h3 y (by omega) (by omega)]; exact hL _ _ (by omega) (by omega) (by omega)
  · rw [h1 x (by omega), h1 y (by omega)]; exact hR x y (by omega) x2 (by omega)
  · rw [h1 x (by omega), h2 y (by omega) (by omega)]; exact hA _ _ (by omega) (by omega) (by omega) (by omega)
  · rw [h3 x (by omega) (by omega), h1 y (by omega)]; exact hA _ _ (by omega) (by omega) (by omega) (by omega)
theorem srt_to {T : α → α → Prop} (hT : Tot T) {d : Array α} {a b x y : Nat} {z : α} (h : Srt T d a b) (hx : a ≤ x) (hxy : x ≤ y) (hy : y < b) (hz : T d[y]! z) : T d[x]! z := by
  rcases Nat.lt_or_eq_of_le hxy with h' | rfl
  · exact hT.trans (h x y hx h' hy) hz
  · exact hz
theorem srt_from {T : α → α → Prop} (hT : Tot T) {d : Array α} {a b x y : Nat} {z : α} (h : Srt T d a b) (hx : a ≤ x) (hxy : x ≤ y) (hy : y < b) (hz : T z d[x]!) : T z d[y]! := by
  rcases Nat.lt_or_eq_of_le hxy with h' | rfl
  · exact hT.trans hz (h x y hx h' hy)
  · exact hz
/-- .. and all of the first two stand ahead of all of the last two. -/
theorem rot_cross {T : α → α → Prop} (hT : Tot T) {d e : Array α} {a s m t b c : Nat} (hr : RotP d e s m t) (ha : a ≤ s) (hs : s ≤ m) (ht : m ≤ t) (hb : t ≤ b) (hc : c = s + (t - m))
    (hL : Srt T d a m) (hR : Srt T d m b) (h1 : a < s → t < b → T d[s - 1]! d[t]!) (h2 : m < t → s < m → T d[t - 1]! d[s]!) : ∀ x y, a ≤ x → x < c → c ≤ y → y < b → T e[x]! e[y]! := by
  obtain ⟨_, r1, r2, r3⟩ := hr
  subst hc
  intro x y x1 x2 y1 y2
  by_cases hx : x < s
  · rw [r1 x (.inl hx)]
    by_cases hy : y < t
    · rw [r3 y y1 hy]; exact hL _ _ x1 (by omega) (by omega)
    · rw [r1 y (by omega)]
      exact srt_to hT hL x1 (by omega) (show s - 1 < m by omega) (srt_from hT hR (x := t) (by omega) (by omega) y2 (h1 (by omega) (by omega)))
  · rw [r2 x (by omega) x2]
    by_cases hy : y < t
    · rw [r3 y y1 hy]
      exact srt_to hT hR (y := t - 1) (by omega) (by omega) (by omega) (srt_from hT hL (x := s) (by omega) (by omega) (by omega) (h2 (by omega) (by omega)))
    · rw [r1 y (by omega)]; exact hR _ _ (by omega) (by omega) y2
/-- Two rows merged, one of which is one element: it has found its place. -/
theorem merge_up {T : α → α → Prop} {d e : Array α} {a b i : Nat} (hr : RotP d e a (a + 1) i) (hi : a + 1 ≤ i) (hb : i ≤ b) (hR : Srt T d (a + 1) b)
    (h1 : ∀ y, a + 1 ≤ y → y < i → T d[y]! d[a]!) (h2 : ∀ y, i ≤ y → y < b → T d[a]! d[y]!) : Frm d e a b ∧ Srt T e a b := by
  refine ⟨rot_frm hr (Nat.le_refl _) (by omega) hi hb, ?_⟩
  obtain ⟨_, r1, r2, r3⟩ := hr
  intro x y x1 xy y1
  by_cases hy : i ≤ y
  · rw [r1 y (by omega)]
    by_cases hx : i ≤ x
    · rw [r1 x (by omega)]; exact hR x y (by omega) xy y1
    · by_cases hx' : x < a + (i - (a + 1))
      · rw [r2 x x1 hx']; exact hR _ _ (by omega) (by omega) y1
      · rw [r3 x (by omega) (by omega), show x - (i - (a + 1)) = a by omega]; exact h2 y hy y1
  · rw [r2 x x1 (by omega)]
    by_cases hy' : y < a + (i - (a + 1))
    · rw [r2 y (by omega) hy']; exact hR _ _ (by omega) (by omega) (by omega)
    · rw [r3 y (by omega) (by omega), show y - (i - (a + 1)) = a by omega]; exact h1 _ (by omega) (by omega)
theorem merge_down {T : α → α → Prop} {d e : Array α} {a m i : Nat} (hr : RotP d e i m (m + 1)) (ha : a ≤ i) (hi : i ≤ m) (hL : Srt T d a m)
    (h1 : ∀ x, a ≤ x → x < i → T d[x]! d[m]!) (h2 : ∀ x, i ≤ x → x < m → T d[m]! d[x]!) : Frm d e a (m + 1) ∧ Srt T e a (m + 1) := by
  refine ⟨rot_frm hr ha hi (by omega) (Nat.le_refl _), ?_⟩
  obtain ⟨_, r1, r2, r3⟩ := hr
  intro x y x1 xy y1
  by_cases hx : x < i
  · rw [r1 x (.inl hx)]
    by_cases hy : y < i
    · rw [r1 y (.inl hy)]; exact hL x y x1 xy (by omega)
    · by_cases hy' : y < i + (m + 1 - m)
      · rw [r2 y (by omega) hy', show y + (m - i) = m by omega]; exact h1 x x1 hx
      · rw [r3 y (by omega) y1]; exact hL _ _ x1 (by omega) (by omega)
  · by_cases hx' : x < i + (m + 1 - m)
    · rw [r2 x (by omega) hx', show x + (m - i) = m by omega, r3 y (by omega) y1]; exact h2 _ (by omega) (by omega)
    · rw [r3 x (by omega) (by omega), r3 y (by omega) y1]; exact hL _ _ (by omega) (by omega) (by omega)
/-- Both halves sorted, one behind the other. -/
theorem merge_both {T : α → α → Prop} {d e f : Array α} {a c b : Nat} (hac : a ≤ c) (hcb : c ≤ b) (hC : ∀ x y, a ≤ x → x < c → c ≤ y → y < b → T d[x]! d[y]!) (h1 : Frm d e a c) (s1 : Srt T e a c) (h2 : Frm e f c b) (s2 : Srt T f c b) : Frm d f a b ∧ Srt T f a b := by
  refine ⟨(h1.wide (Nat.le_refl _) hcb).trans (h2.wide hac (Nat.le_refl _)), Srt.join (h2.srt (.inl (Nat.le_refl _)) s1) s2 fun x y x1 x2 y1 y2 => ?_⟩
  rw [h2.2.1 x (.inl x2)]
  obtain ⟨z, z1, z2, z3⟩ := h1.2.2 x x1 x2
  obtain ⟨u, u1, u2, u3⟩ := h2.2.2 y y1 y2
  rw [z3, u3, h1.2.1 u (.inr u1)]
  exact hC z u z1 z2 u1 u2

/-! ### Insertion -/
/-- While an element is being put into its place: the rest is sorted, what stands behind it is behind it. -/
theorem ins_in {lt : α → α → Bool} {T : α → α → Prop} (hT : Tot T) (a i : Nat) : ∀ (j : Nat) (d : Array α), a ≤ j → j ≤ i → i < d.size →
    (∀ x y, a ≤ x → x < y → y ≤ i → x ≠ j → y ≠ j → T d[x]! d[y]!) → (∀ y, j < y → y ≤ i → T d[j]! d[y]!) → (∀ x, a ≤ x → x < j → (lt d[j]! d[x]! = true → T d[j]! d[x]!) ∧ (lt d[j]! d[x]! = false → T d[x]! d[j]!)) →
    Frm d (insInner lt a j d) a (i + 1) ∧ Srt T (insInner lt a j d) a (i + 1) := by
  intro j
  induction j with
  | zero =>
    intro d ha hi hs h1 h2 h3
    rw [insInner_stop lt a 0 d (.inl (by omega))]
    refine ⟨Frm.refl _ _ _, fun x y x1 xy y1 => ?_⟩
    by_cases hx : x = 0
    · subst hx; exact h2 y xy (by omega)
    · exact h1 x y x1 xy (by omega) hx (by omega)
  | succ j ih =>
    intro d ha hi hs h1 h2 h3
    by_cases hst : j + 1 ≤ a ∨ lt d[j + 1]! d[j + 1 - 1]! = false
    · rw [insInner_stop lt a (j + 1) d hst]
      refine ⟨Frm.refl _ _ _, fun x y x1 xy y1 => ?_⟩
      by_cases hx : x = j + 1
      · subst hx; exact h2 y xy (by omega)
      · by_cases hy : y = j + 1
        · subst hy
          have hl : T d[j]! d[j + 1]! := (h3 j (by omega) (by omega)).2 (by rcases hst with h | h; (omega); (exact h))
          rcases Nat.lt_or_eq_of_le (show x ≤ j by omega) with h | rfl
          · exact hT.trans (h1 x j x1 h (by omega) hx (by omega)) hl
          · exact hl
        · exact h1 x y x1 xy (by omega) hx hy
    · have hgo := not_or.1 hst
      have hlt : lt d[j + 1]! d[j]! = true := by simpa using hgo.2
      rw [insInner_go lt a (j + 1) d (by omega) hlt, Nat.add_sub_cancel]
      have hg := swp_get d (i := j + 1) (j := j) (by omega) (by omega)
      have hT1 := (h3 j (by omega) (by omega)).1 hlt
      obtain ⟨f1, f2⟩ := ih (swp d (j + 1) j) (by omega) (by omega) (by rw [size_swp]; exact hs) (fun x y x1 xy y1 hx hy => by
          rw [hg x, hg y, if_neg hx, if_neg hy]
          by_cases e1 : x = j + 1
          · rw [if_pos e1, if_neg (by omega)]; exact h1 j y (by omega) (by omega) y1 (by omega) (by omega)
          · rw [if_neg e1]
            by_cases e2 : y = j + 1
            · rw [if_pos e2]; exact h1 x j x1 (by omega) (by omega) e1 (by omega)
            · rw [if_neg e2]; exact h1 x y x1 xy y1 e1 e2)
        (fun y y1 y2 => by
          rw [hg j, hg y, if_pos rfl, if_neg (by omega)]
          by_cases e : y = j + 1
          · rw [if_pos e]; exact hT1
          · rw [if_neg e]; exact h2 y (by omega) y2)
        (fun x x1 x2 => by
          rw [hg j, hg x, if_pos rfl, if_neg (by omega), if_neg (by omega)]
          exact h3 x x1 (by omega))
      refine ⟨Frm.trans ⟨by rw [size_swp], fun x hx => ?_, fun x x1 x2 => ?_⟩ f1, f2⟩
      · rw [hg x, if_neg (by omega), if_neg (by omega)]
      · rw [hg x]
        by_cases e : x = j
        · rw [if_pos e]; exact ⟨j + 1, by omega, by omega, rfl⟩
        · rw [if_neg e]
          by_cases e' : x = j + 1
          · rw [if_pos e']; exact ⟨j, by omega, by omega, rfl⟩
          · rw [if_neg e']; exact ⟨x, x1, x2, rfl⟩
/-- Insertion sort of a row in which the test tells the order of any two, the first one standing ahead. -/
theorem ins_out {lt : α → α → Bool} {T : α → α → Prop} (hT : Tot T) (a b : Nat) (d0 : Array α) (hb : b ≤ d0.size)
    (hA : ∀ x y, a ≤ x → x < y → y < b → (lt d0[y]! d0[x]! = true → T d0[y]! d0[x]!) ∧ (lt d0[y]! d0[x]! = false → T d0[x]! d0[y]!)) : ∀ n i d, i + n = b → a < i → Frm d0 d a i → Srt T d a i →
    Frm d0 (insOuter lt a b i d) a b ∧ Srt T (insOuter lt a b i d) a b := by
  intro n
  induction n with
  | zero =>
    intro i d hn hai hf hs
    obtain rfl : i = b := by omega
    rw [insOuter_stop lt a i i d (by omega)]
    exact ⟨hf, hs⟩
  | succ n ih =>
    intro i d hn hai hf hs
    rw [insOuter_go lt a b i d (by omega)]
    have hi : d[i]! = d0[i]! := hf.2.1 i (.inr (Nat.le_refl _))
    obtain ⟨f1, f2⟩ := ins_in (lt := lt) hT a i i d (by omega) (Nat.le_refl _) (by rw [hf.1]; omega) (fun x y x1 xy y1 hx hy => hs x y x1 xy (by omega)) (fun y y1 y2 => by omega) (fun x x1 x2 => by
      obtain ⟨z, z1, z2, z3⟩ := hf.2.2 x x1 x2
      rw [hi, z3]
      exact hA z i z1 z2 (by omega))
    exact ih (i + 1) _ (by omega) (by omega) ((hf.wide (Nat.le_refl _) (by omega)).trans f1) f2
theorem ins_srt {lt : α → α → Bool} {T : α → α → Prop} (hT : Tot T) (a b : Nat) (d : Array α) (hab : a ≤ b) (hb : b ≤ d.size)
    (hA : ∀ x y, a ≤ x → x < y → y < b → (lt d[y]! d[x]! = true → T d[y]! d[x]!) ∧ (lt d[y]! d[x]! = false → T d[x]! d[y]!)) : Frm d (insertionSort lt d a b) a b ∧ Srt T (insertionSort lt d a b) a b := by
  unfold insertionSort
  by_cases h : a < b
  · exact ins_out hT a b d hb hA (b - (a + 1)) (a + 1) d (by omega) (by omega) (Frm.refl _ _ _) (srt_one (by omega))
  · rw [insOuter_stop lt a b (a + 1) d (by omega)]
    exact ⟨Frm.refl _ _ _, srt_one (by omega)⟩
end
end Go.Proofs.Ytlfncplldppncaa

/-
  A contract of the library, laid at this program's own numbers. No condition.
-/
namespace Go.Proofs.Ytlfncplldppncaa
open Go.Shelf

def insInt_ren : Go.Shelf.Ren := ⟨fun | 20 => 46 | n => n, fun | 24 => 3 | 22 => 28 | 3 => 3 | 25 => 66 | 4 => 4 | 0 => 0 | n => n, fun | n => n⟩
theorem insInt : SlLaysF.n20 Try.prog insInt_ren :=
  {
    mixed := by kernel_rfl,
    f20 := ⟨Try.f46.name, by decide, Try.func46.trans (congrArg some (by kernel_rfl))⟩,
    t0 := Try.underlying0,
    a0 := Try.isAgg0,
    z0 := Try.sizeOf0,
    v0 := Try.zeroValue0,
    t3 := Try.underlying3,
    a3 := Try.isAgg3,
    z3 := Try.sizeOf3,
    v3 := Try.zeroValue3,
    t4 := Try.underlying4,
    a4 := Try.isAgg4,
    z4 := Try.sizeOf4,
    v4 := Try.zeroValue4,
    t22 := Try.underlying28,
    a22 := Try.isAgg28,
    z22 := Try.sizeOf28,
    v22 := Try.zeroValue28,
    a24 := Try.isAgg3,
    z24 := Try.sizeOf3,
    t25 := Try.underlying66,
    a25 := Try.isAgg66,
    z25 := Try.sizeOf66,
    v25 := Try.zeroValue66 }
end Go.Proofs.Ytlfncplldppncaa

/-
  Contracts of slices.stableCmpFunc and slices.SortStableFunc at ints, for fewer than 20 elements: the row comes into the order T that the test tells of any two elements, the first one standing ahead. No element: nothing turns.
-/
namespace Go.Proofs.Ytlfncplldppncaa
open Go.Shelf Go.RowKit Go.Lib Go.Sort
variable {α : Type} [Inhabited α]

theorem ins_none (p : Option Addr) (cap : Nat) (fv : Value) (w : World) :
    Calls Try.prog 46 #[.slice p 0 cap, .int .i64 0, .int .i64 0, fv] w fun e w' => e = .returned (.tuple #[]) ∧ w' = w := by
  go_enter Try.func46, Try.ntmps46
  go_wp2
  refine wp_loop_rounds 1 ?_
  rw [rounds_succ]
  go_wp2
  go_end0
  exact ⟨rfl, rfl⟩
set_option maxRecDepth 100000 in
theorem stable_none (p : Option Addr) (cap : Nat) (fv : Value) (w : World) :
    Calls Try.prog 43 #[.slice p 0 cap, .int .i64 0, fv] w fun e w' => e = .returned (.tuple #[]) ∧ w' = w := by
  have H := hid (ins_none p cap fv w)
  go_enter Try.func43, Try.ntmps43
  go_wp2
  refine wp_loop_rounds 1 ?_
  rw [rounds_succ]
  go_wp2_with fail
  refine H.out.mono ?_
  rintro e w' ⟨rfl, hw'⟩
  subst w'
  go_wp2_with fail
  refine wp_loop_rounds 1 ?_
  rw [rounds_succ]
  go_wp2
  go_end0
  exact ⟨rfl, rfl⟩
theorem sortstable_none (p : Option Addr) (cap : Nat) (fv : Value) (w : World) :
    Calls Try.prog 38 #[.slice p 0 cap, fv] w fun e w' => e = .returned (.tuple #[]) ∧ w' = w := by
  have H := hid (stable_none p cap fv w)
  go_enter Try.func38, Try.ntmps38
  go_wp2_with fail
  refine H.out.mono ?_
  rintro e w' ⟨rfl, hw'⟩
  subst w'
  go_wp2_with fail
  go_end0
  exact ⟨rfl, rfl⟩

/-- What a stable sort of few elements gives. -/
def StbL (enc : α → Value) (T : α → α → Prop) (blk off : Nat) (d : Array α) (w : World) (e : Ending) (w' : World) : Prop :=
  e = .returned (.tuple #[]) ∧ ∃ d', (Frm d d' 0 d.size ∧ Srt T d' 0 d.size) ∧ SW enc w blk off d' w'

set_option maxHeartbeats 4000000 in
set_option maxRecDepth 1000000 in
theorem stable_few (enc : α → Value) (cf : α → α → Int) (T : α → α → Prop) (hT : Tot T) (g : Nat) (cb : Array Value) (blk off cap : Nat) (d : Array α) (w : World)
    (eg : ∀ args w, (callFunc g args).run Try.prog w = .ok (.enter g args) w) (hcmp : CmpLays1 Try.prog g cb enc cf blk off d.size w) (R : Row1 enc w blk off d) (hsz : d.size < 20)
    (hA : ∀ x y, x < y → y < d.size → (ltOf cf d[y]! d[x]! = true → T d[y]! d[x]!) ∧ (ltOf cf d[y]! d[x]! = false → T d[x]! d[y]!)) :
    Calls Try.prog 43 #[.slice (some ⟨blk, off, none⟩) d.size cap, .int .i64 d.size, .func (.func g) #[] cb] w (StbL enc T blk off d w) := by
  have S0 : SW enc w blk off d w := SW.start R.hH
  have h20z : ¬ (20 : Int) ≤ (d.size : Int) := by omega
  have h20y : ¬ (20 : Int) < (d.size : Int) := by omega
  have c1 := hid (Any.insertionSortCmpFunc_s insInt enc cf g cb blk off cap 0 d.size d d w w eg hcmp R rfl S0 (by omega) (Nat.le_refl _) (by omega))
  have HF := hid (ins_srt (lt := ltOf cf) hT 0 d.size d (Nat.zero_le _) (Nat.le_refl _) (fun x y _ h1 h2 => hA x y h1 h2))
  clear S0 hA hcmp R
  go_enter Try.func43, Try.ntmps43
  go_wp2
  refine wp_loop_rounds 1 ?_
  rw [rounds_succ]
  go_wp2_with fail
  refine c1.out.mono ?_
  rintro e w1 ⟨rfl, S1⟩
  have HS1 := hid S1
  clear S1
  go_wp2_with fail
  refine wp_loop_rounds 1 ?_
  rw [rounds_succ]
  go_wp2_with fail
  go_end0
  exact ⟨rfl, _, HF.out, HS1.out⟩

theorem sortstable_few (enc : α → Value) (cf : α → α → Int) (T : α → α → Prop) (hT : Tot T) (g : Nat) (cb : Array Value) (blk off cap : Nat) (d : Array α) (w : World)
    (eg : ∀ args w, (callFunc g args).run Try.prog w = .ok (.enter g args) w) (hcmp : CmpLays1 Try.prog g cb enc cf blk off d.size w) (R : Row1 enc w blk off d) (hsz : d.size < 20)
    (hA : ∀ x y, x < y → y < d.size → (ltOf cf d[y]! d[x]! = true → T d[y]! d[x]!) ∧ (ltOf cf d[y]! d[x]! = false → T d[x]! d[y]!)) :
    Calls Try.prog 38 #[.slice (some ⟨blk, off, none⟩) d.size cap, .func (.func g) #[] cb] w (StbL enc T blk off d w) := by
  have H := hid (stable_few enc cf T hT g cb blk off cap d w eg hcmp R hsz hA)
  clear hcmp R hA
  go_enter Try.func38, Try.ntmps38
  go_wp2_with fail
  refine H.out.mono ?_
  rintro e w' ⟨rfl, hr⟩
  go_wp2_with fail
  go_end0
  exact ⟨rfl, hr⟩
end Go.Proofs.Ytlfncplldppncaa

/-
  Plain mathematics, without a program: an order of places by lengths, what is taken ahead of each of them, and the bits of a number by their places. No condition.
-/
namespace Go.Proofs.Ytlfncplldppncaa

/-- An order of all places: the shorter ones first, of equal ones the earlier one. -/
def LOrd (E o : List Nat) : Prop := o.Perm (List.range E.length) ∧ o.Pairwise fun a b => E.getD a 0 < E.getD b 0 ∨ (E.getD a 0 = E.getD b 0 ∧ a < b)
/-- The room of those in a list. -/
def tkn (E l : List Nat) : Nat := (l.map fun j => 2 ^ (12 - E.getD j 0)).sum
theorem tkn_perm {E l m : List Nat} (h : l.Perm m) : tkn E l = tkn E m := (h.map _).sum_nat
theorem tkn_snoc (E l : List Nat) (j : Nat) : tkn E (l ++ [j]) = tkn E l + 2 ^ (12 - E.getD j 0) := by simp [tkn]
theorem usd_tkn (E : List Nat) (n i : Nat) : ∀ k, usdTo E n i k = tkn E ((List.range k).filter (bef E n i)) := by
  intro k
  induction k with
  | zero => rfl
  | succ k ih =>
    rw [usdTo, ih, List.range_succ, List.filter_append]
    by_cases e : bef E n i k = true
    · rw [if_pos e, List.filter_cons_of_pos (by simpa using e), List.filter_nil, tkn_snoc]
    · rw [if_neg e, List.filter_cons_of_neg (by simpa using e), List.filter_nil, List.append_nil]; rfl
theorem ord_len {E o : List Nat} (h : LOrd E o) : o.length = E.length := by rw [h.1.length_eq, List.length_range]
theorem ord_lt {E o : List Nat} (h : LOrd E o) {t : Nat} (ht : t < o.length) : o.getD t 0 < E.length := by
  rw [List.getD_eq_getElem?_getD, List.getElem?_eq_getElem ht]
  exact List.mem_range.1 (h.1.mem_iff.1 (List.getElem_mem ht))
theorem ord_nodup {E o : List Nat} (h : LOrd E o) : o.Nodup := h.1.nodup_iff.2 List.nodup_range
/-- Those ahead of a place in the order are those that come ahead of it. -/
theorem ord_ahead {E o : List Nat} (h : LOrd E o) {t : Nat} (ht : t < o.length) : o.filter (bef E (E.getD (o.getD t 0) 0) (o.getD t 0)) = o.take t := by
  have hp := List.pairwise_iff_getElem.1 h.2
  have e1 : o.getD t 0 = o[t] := by simp [ht]
  rw [e1]
  have hs : o = o.take t ++ o[t] :: o.drop (t + 1) := by rw [List.getElem_cons_drop, List.take_append_drop]
  have hf : o.filter (bef E (E.getD o[t] 0) o[t]) = (o.take t ++ o[t] :: o.drop (t + 1)).filter (bef E (E.getD o[t] 0) o[t]) := congrArg _ hs
  rw [hf, List.filter_append, List.filter_eq_self.2 ?_, List.filter_eq_nil_iff.2 ?_, List.append_nil]
  · intro x hx
    rw [bef_iff]
    rcases List.mem_cons.1 hx with rfl | hx
    · omega
    · obtain ⟨j, hj, rfl⟩ := List.getElem_of_mem hx
      rw [List.length_drop] at hj
      rw [List.getElem_drop]
      have := hp t (t + 1 + j) ht (by omega) (by omega)
      omega
  · intro x hx
    rw [bef_iff]
    obtain ⟨j, hj, rfl⟩ := List.getElem_of_mem hx
    rw [List.length_take] at hj
    rw [List.getElem_take]
    exact hp j t (by omega) ht (by omega)
/-- What is taken ahead of a place in the order is what those ahead of it use. -/
theorem ord_ahd {E o : List Nat} (h : LOrd E o) {t : Nat} (ht : t < o.length) : tkn E (o.take t) = ahd E (o.getD t 0) := by
  unfold ahd usd
  rw [usd_tkn, ← tkn_perm (h.1.filter _), ord_ahead h ht]
theorem ord_next {E o : List Nat} {t : Nat} (ht : t < o.length) : tkn E (o.take (t + 1)) = tkn E (o.take t) + 2 ^ (12 - E.getD (o.getD t 0) 0) := by
  rw [List.take_succ_eq_append_getElem ht, tkn_snoc]
  simp [ht]
/-- A bit of a number, by its place. -/
theorem bits_at (n : Nat) : ∀ (k i : Nat), i < n → (bitsL n k).getD i 0 = if (k / 2 ^ (n - 1 - i)) % 2 = 1 then 49 else 48 := by
  induction n with
  | zero => intro k i h; omega
  | succ n ih =>
    intro k i h
    rw [bitsL]
    by_cases e : i = n
    · subst e
      rw [List.getD_eq_getElem?_getD, List.getElem?_append_right (by rw [bits_len]; exact Nat.le_refl _), bits_len]
      simp
    · have hi : i < n := by omega
      rw [List.getD_eq_getElem?_getD, List.getElem?_append_left (by rw [bits_len]; exact hi), ← List.getD_eq_getElem?_getD, ih _ _ hi, Nat.div_div_eq_div_mul, show n + 1 - 1 - i = (n - 1 - i) + 1 by omega, Nat.pow_succ, Nat.mul_comm 2]
end Go.Proofs.Ytlfncplldppncaa

/-
  Plain mathematics of words and their beginnings, without a program: the words that begin with a sign or a text, how many beginnings words have, the words in their order, the longest word with which a text begins. No condition.
-/
namespace Go.Proofs.Ytlfncplldppncaa

/-- A word, and its place among the words. -/
abbrev Wd := List UInt8 × Nat

/-- Of the words that begin with the sign c: what is left of each. -/
def rest1 (c : UInt8) (p : Wd) : Option Wd := match p.1 with
  | d :: r => if d = c then some (r, p.2) else none
  | [] => none
def kid (c : UInt8) (L : List Wd) : List Wd := L.filterMap (rest1 c)
/-- Of the words that begin with p: what is left of each. -/
def subs : List UInt8 → List Wd → List Wd
  | [], L => L
  | c :: p, L => subs p (kid c L)

theorem rest1_some {c : UInt8} {p q : Wd} : rest1 c p = some q ↔ p = (c :: q.1, q.2) := by
  obtain ⟨x, i⟩ := p; obtain ⟨y, j⟩ := q
  cases x with
  | nil => simp [rest1]
  | cons d r =>
    by_cases h : d = c
    · simp [rest1, h]
    · simp [rest1, h]
theorem mem_kid {c : UInt8} {L : List Wd} {r : List UInt8} {i : Nat} : (r, i) ∈ kid c L ↔ (c :: r, i) ∈ L := by
  simp only [kid, List.mem_filterMap, rest1_some]
  constructor
  · rintro ⟨p, hp, rfl⟩; exact hp
  · intro h; exact ⟨_, h, rfl⟩
theorem mem_subs {p : List UInt8} : ∀ {L : List Wd} {r : List UInt8} {i : Nat}, (r, i) ∈ subs p L ↔ (p ++ r, i) ∈ L := by
  induction p with
  | nil => intro L r i; rfl
  | cons c p ih => intro L r i; rw [subs, ih, mem_kid]; rfl
theorem subs_snoc (p : List UInt8) (c : UInt8) : ∀ L : List Wd, subs (p ++ [c]) L = kid c (subs p L) := by
  induction p with
  | nil => intro L; rfl
  | cons d p ih => intro L; exact ih _
theorem kid_nil (c : UInt8) : kid c [] = [] := rfl
theorem subs_nil (p : List UInt8) : subs p [] = [] := by
  induction p with
  | nil => rfl
  | cons c p ih => exact ih
theorem kid_append (c : UInt8) (L M : List Wd) : kid c (L ++ M) = kid c L ++ kid c M := by simp [kid]
theorem subs_append (p : List UInt8) : ∀ L M : List Wd, subs p (L ++ M) = subs p L ++ subs p M := by
  induction p with
  | nil => intro L M; rfl
  | cons c p ih => intro L M; rw [subs, kid_append, ih]; rfl
theorem kid_perm {c : UInt8} {L M : List Wd} (h : L.Perm M) : (kid c L).Perm (kid c M) := h.filterMap _
theorem subs_empty {p : List UInt8} {L : List Wd} : subs p L = [] ↔ ∀ q ∈ L, ¬ p <+: q.1 := by
  constructor
  · rintro h ⟨x, i⟩ hq ⟨r, hr⟩
    have : (r, i) ∈ subs p L := mem_subs.2 (by rw [hr]; exact hq)
    rw [h] at this; cases this
  · intro h
    rw [List.eq_nil_iff_forall_not_mem]
    rintro ⟨r, i⟩ hm
    exact h _ (mem_subs.1 hm) ⟨r, rfl⟩
/-- One word more: at a prefix of it. -/
theorem subs_one_yes {p r : List UInt8} {i : Nat} : subs p [(p ++ r, i)] = [(r, i)] := by
  induction p with
  | nil => rfl
  | cons c p ih => rw [subs]; simpa [kid, rest1] using ih
theorem subs_one_no {p x : List UInt8} {i : Nat} (h : ¬ p <+: x) : subs p [(x, i)] = [] := subs_empty.2 (by simpa using h)

/-! ### The words' places -/
/-- The place of the word that is spelt whole here; none: -1. -/
def wd (L : List Wd) : Int := match L.find? (fun p => p.1.isEmpty) with
  | some p => (p.2 : Int)
  | none => -1
theorem wd_nil : wd [] = -1 := rfl
/-- No word stands twice. -/
def Once (L : List Wd) : Prop := L.Pairwise fun p q => p.1 ≠ q.1
theorem once_kid {c : UInt8} {L : List Wd} (h : Once L) : Once (kid c L) := by
  refine List.Pairwise.filterMap _ ?_ h
  intro a a' hne b hb b' hb'
  rw [rest1_some] at hb hb'
  subst hb hb'
  intro e
  exact hne (by simp [e])
theorem once_subs {p : List UInt8} : ∀ {L : List Wd}, Once L → Once (subs p L) := by
  induction p with
  | nil => intro L h; exact h
  | cons c p ih => intro L h; exact ih (once_kid h)
theorem once_same {L : List Wd} (h : Once L) {x : List UInt8} {i j : Nat} (hi : (x, i) ∈ L) (hj : (x, j) ∈ L) : i = j := by
  induction L with
  | nil => cases hi
  | cons p L ih =>
    have hp := List.pairwise_cons.1 h
    rcases List.mem_cons.1 hi with rfl | hi'
    · rcases List.mem_cons.1 hj with e | hj'
      · exact (Prod.mk.inj e).2.symm
      · exact absurd rfl (hp.1 (x, j) hj')
    · rcases List.mem_cons.1 hj with rfl | hj'
      · exact absurd rfl (hp.1 (x, i) hi')
      · exact ih hp.2 hi' hj'
theorem wd_mem {L : List Wd} (h : Once L) {i : Nat} (hi : ([], i) ∈ L) : wd L = i := by
  unfold wd
  cases hf : L.find? (fun p => p.1.isEmpty) with
  | none => have := List.find?_eq_none.1 hf _ hi; simp at this
  | some p =>
    have h1 := List.find?_some hf
    have h2 := List.mem_of_find?_eq_some hf
    obtain ⟨x, j⟩ := p
    have : x = [] := by simpa using h1
    subst this
    show (j : Int) = i
    rw [once_same h h2 hi]
theorem wd_none {L : List Wd} (h : ∀ i, ([], i) ∉ L) : wd L = -1 := by
  unfold wd
  cases hf : L.find? (fun p => p.1.isEmpty) with
  | none => rfl
  | some p =>
    have h1 := List.find?_some hf
    have h2 := List.mem_of_find?_eq_some hf
    obtain ⟨x, j⟩ := p
    have : x = [] := by simpa using h1
    subst this
    exact absurd h2 (h j)
theorem wd_or (L : List Wd) : wd L = -1 ∨ ∃ i, ([], i) ∈ L ∧ wd L = (i : Int) := by
  unfold wd
  cases hf : L.find? (fun p => p.1.isEmpty) with
  | none => exact .inl rfl
  | some p =>
    have h1 := List.find?_some hf
    have h2 := List.mem_of_find?_eq_some hf
    obtain ⟨x, j⟩ := p
    have : x = [] := by simpa using h1
    subst this
    exact .inr ⟨j, h2, rfl⟩
theorem wd_range (L : List Wd) (n : Nat) (h : ∀ p ∈ L, p.2 < n) : -1 ≤ wd L ∧ wd L < n := by
  rcases wd_or L with h1 | ⟨i, h1, h2⟩
  · rw [h1]; omega
  · have := h _ h1; simp at this; omega

/-! ### Sums over the signs -/
def sum256 (f : UInt8 → Nat) : Nat := ((List.range 256).map fun n => f (UInt8.ofNat n)).sum
theorem sum_upd (n d : Nat) (f g : Nat → Nat) (hd : d < n) (h : ∀ c, c < n → c ≠ d → f c = g c) : ((List.range n).map f).sum + g d = ((List.range n).map g).sum + f d := by
  induction n with
  | zero => omega
  | succ n ih =>
    rw [List.range_succ]
    simp only [List.map_append, List.map_cons, List.map_nil, List.sum_append, List.sum_cons, List.sum_nil]
    by_cases e : d = n
    · subst e
      have : (List.range d).map f = (List.range d).map g := List.map_congr_left fun c hc => h c (by have := List.mem_range.1 hc; omega) (by have := List.mem_range.1 hc; omega)
      rw [this]; omega
    · have := ih (by omega) fun c hc => h c (by omega)
      have := h n (by omega) (fun e' => e e'.symm)
      omega
theorem sum256_upd (d : UInt8) (f g : UInt8 → Nat) (h : ∀ c, c ≠ d → f c = g c) : sum256 f + g d = sum256 g + f d := by
  have hd : UInt8.ofNat d.toNat = d := by simp
  have := sum_upd 256 d.toNat (fun n => f (UInt8.ofNat n)) (fun n => g (UInt8.ofNat n)) (by have := d.toNat_lt; omega) (fun c hc hne => h _ fun e => hne (by rw [← e]; simp [UInt8.toNat_ofNat']; omega))
  simp only [hd] at this
  exact this
theorem sum_congr {f g : UInt8 → Nat} (h : ∀ c, f c = g c) : sum256 f = sum256 g := by
  have : f = g := funext h
  rw [this]
theorem sum256_zero {f : UInt8 → Nat} (h : ∀ c, f c = 0) : sum256 f = 0 := by
  have e : ∀ n, ((List.range n).map fun n => f (UInt8.ofNat n)).sum = 0 := by
    intro n
    induction n with
    | zero => rfl
    | succ n ih => rw [List.range_succ, List.map_append, List.sum_append, ih]; simp [h]
  exact e 256
theorem sum_le {f g : Nat → Nat} (h : ∀ c, f c ≤ g c) (n : Nat) : ((List.range n).map f).sum ≤ ((List.range n).map g).sum := by
  induction n with
  | zero => simp
  | succ n ih =>
    rw [List.range_succ]
    simp only [List.map_append, List.map_cons, List.map_nil, List.sum_append, List.sum_cons, List.sum_nil]
    have := h n; omega
theorem sum256_le {f g : UInt8 → Nat} (h : ∀ c, f c ≤ g c) : sum256 f ≤ sum256 g := sum_le (fun _ => h _) 256

/-! ### How many nodes -/
def sz : Nat → List Wd → Nat
  | 0, _ => 1
  | k + 1, L => 1 + sum256 fun c => if (kid c L).isEmpty then 0 else sz k (kid c L)
/-- How many beginnings a word has that the words L don't have. -/
def fr : List Wd → List UInt8 → Nat
  | _, [] => 0
  | L, c :: r => if (kid c L).isEmpty then r.length + 1 else fr (kid c L) r
theorem fr_le (x : List UInt8) : ∀ L, fr L x ≤ x.length := by
  induction x with
  | nil => intro L; exact Nat.le_refl _
  | cons c r ih => intro L; unfold fr; split; exact Nat.le_refl _; have := ih (kid c L); simp; omega
theorem fr_none (x : List UInt8) : fr [] x = x.length := by
  cases x with
  | nil => rfl
  | cons c r => simp [fr, kid_nil]
theorem sz_none (k : Nat) : sz k [] = 1 := by
  cases k with
  | zero => rfl
  | succ k => rw [sz, sum256_zero (fun c => by simp [kid_nil])]
theorem sz_snoc (k : Nat) : ∀ (L : List Wd) (x : List UInt8) (i : Nat), x.length ≤ k → sz k (L ++ [(x, i)]) = sz k L + fr L x := by
  induction k with
  | zero => intro L x i hx; have : x = [] := List.length_eq_zero_iff.1 (by omega); subst this; rfl
  | succ k ih =>
    intro L x i hx
    cases x with
    | nil =>
      have : ∀ c, kid c (L ++ [([], i)]) = kid c L := fun c => by rw [kid_append]; simp [kid, rest1]
      simp only [sz, this, fr]; omega
    | cons d r =>
      have hd : kid d (L ++ [(d :: r, i)]) = kid d L ++ [(r, i)] := by rw [kid_append]; simp [kid, rest1]
      have ho : ∀ c, c ≠ d → kid c (L ++ [(d :: r, i)]) = kid c L := fun c hc => by rw [kid_append]; simp [kid, rest1, Ne.symm hc]
      have hs := sum256_upd d (fun c => if (kid c (L ++ [(d :: r, i)])).isEmpty then 0 else sz k (kid c (L ++ [(d :: r, i)]))) (fun c => if (kid c L).isEmpty then 0 else sz k (kid c L)) (fun c hc => by rw [ho c hc])
      simp only [hd] at hs
      have hne : (kid d L ++ [(r, i)]).isEmpty = false := by simp
      simp only [hne, Bool.false_eq_true, if_false] at hs
      have hi := ih (kid d L) r i (by simp at hx; omega)
      simp only [sz, fr]
      by_cases he : (kid d L).isEmpty = true
      · have he' : kid d L = [] := by simpa using he
        simp only [he, if_true] at hs ⊢
        rw [he', fr_none, sz_none] at hi
        rw [he'] at hs
        omega
      · simp only [he] at hs ⊢
        simp only [Bool.false_eq_true, if_false] at hs ⊢
        omega
theorem sz_perm (k : Nat) : ∀ {L M : List Wd}, L.Perm M → sz k L = sz k M := by
  induction k with
  | zero => intro L M _; rfl
  | succ k ih =>
    intro L M h
    refine congrArg (1 + ·) (sum_congr fun c => ?_)
    have hk := kid_perm (c := c) h
    have : (kid c L).isEmpty = (kid c M).isEmpty := by
      rw [Bool.eq_iff_iff]; simp only [List.isEmpty_iff]
      constructor
      · intro e; rw [e] at hk; exact hk.nil_eq.symm
      · intro e; rw [e] at hk; exact hk.eq_nil
    rw [this, ih hk]
theorem list_snoc {α : Type} {C : List α → Prop} (h0 : C []) (h1 : ∀ L x, C L → C (L ++ [x])) (L : List α) : C L := by
  have : ∀ M : List α, C M.reverse := by
    intro M
    induction M with
    | nil => exact h0
    | cons x M ih => rw [List.reverse_cons]; exact h1 _ _ ih
  have := this L.reverse
  rwa [List.reverse_reverse] at this
theorem sz_le (k m : Nat) (L : List Wd) : (∀ p ∈ L, p.1.length ≤ k ∧ p.1.length ≤ m) → sz k L ≤ 1 + m * L.length := by
  refine list_snoc (C := fun L => (∀ p ∈ L, p.1.length ≤ k ∧ p.1.length ≤ m) → sz k L ≤ 1 + m * L.length) ?_ ?_ L
  · intro _; rw [sz_none]; omega
  · intro L p ih h
    obtain ⟨x, i⟩ := p
    have hp := h (x, i) (by simp)
    have := ih fun q hq => h q (by simp [hq])
    rw [sz_snoc k L x i hp.1]
    have := fr_le x L
    have hx : x.length ≤ m := hp.2
    simp only [List.length_append, List.length_singleton, Nat.mul_add, Nat.mul_one]
    omega
/-- As the reference counts: which beginnings are new. -/
theorem fr_count (x : List UInt8) : ∀ L, fr L x = ((List.range x.length).filter fun k => (subs (x.take (k + 1)) L).isEmpty).length := by
  induction x with
  | nil => intro L; rfl
  | cons c r ih =>
    intro L
    have e : ∀ k, subs ((c :: r).take (k + 1)) L = subs (r.take k) (kid c L) := fun k => rfl
    simp only [e, List.length_cons]
    rw [List.range_succ_eq_map, List.filter_cons, List.filter_map, fr]
    by_cases he : (kid c L).isEmpty = true
    · have he' : kid c L = [] := by simpa using he
      simp only [he', subs_nil, List.isEmpty_nil, if_true]
      simp only [List.length_cons, List.length_map, Function.comp_def]
      rw [List.filter_eq_self.2 (fun _ _ => rfl), List.length_range]
    · have h0 : (subs (r.take 0) (kid c L)).isEmpty = false := by simpa [subs] using he
      simp only [he, h0, Bool.false_eq_true, if_false]
      rw [ih, List.length_map]
      rfl
/-! ### The words in their order -/
/-- The words' places in the words' order. -/
def od : Nat → List Wd → List Nat
  | 0, L => (L.filter fun p => p.1.isEmpty).map (·.2)
  | k + 1, L => ((L.filter fun p => p.1.isEmpty).map (·.2)) ++ (List.range 256).flatMap fun n => if (kid (UInt8.ofNat n) L).isEmpty then [] else od k (kid (UInt8.ofNat n) L)
/-- M holds the words of L, in their order. -/
def Sorted (M L : List Wd) : Prop := M.Pairwise (fun p q => p.1 < q.1) ∧ ∀ p, p ∈ M ↔ p ∈ L
theorem empties_one {L : List Wd} (h : Once L) : (L.filter fun p => p.1.isEmpty).Pairwise fun p q => p.1 < q.1 := by
  refine List.Pairwise.imp_of_mem ?_ (h.filter _)
  intro a b ha hb hne
  have h1 : a.1 = [] := by simpa using (List.mem_filter.1 ha).2
  have h2 : b.1 = [] := by simpa using (List.mem_filter.1 hb).2
  exact absurd (h1.trans h2.symm) hne
theorem u8_lt {a b : Nat} (h : a < b) (hb : b < 256) : UInt8.ofNat a < UInt8.ofNat b := by
  rw [UInt8.lt_iff_toNat_lt, UInt8.toNat_ofNat', UInt8.toNat_ofNat']; omega
theorem u8_back (c : UInt8) : UInt8.ofNat c.toNat = c := by simp
theorem od_sorted (k : Nat) : ∀ L : List Wd, Once L → (∀ p ∈ L, p.1.length ≤ k) → ∃ M, Sorted M L ∧ od k L = M.map (·.2) := by
  induction k with
  | zero =>
    intro L hO hl
    refine ⟨L.filter fun p => p.1.isEmpty, ⟨empties_one hO, fun p => ?_⟩, rfl⟩
    rw [List.mem_filter]
    refine ⟨fun h => h.1, fun h => ⟨h, ?_⟩⟩
    have := hl p h
    simpa using this
  | succ k ih =>
    intro L hO hl
    have hk : ∀ c, ∃ M, Sorted M (kid c L) ∧ od k (kid c L) = M.map (·.2) := fun c => ih (kid c L) (once_kid hO) (by
      rintro ⟨r, i⟩ hp
      have := hl _ (mem_kid.1 hp)
      simp at this ⊢; omega)
    obtain ⟨M, hM⟩ := Classical.axiomOfChoice hk
    have hE : ∀ c, (kid c L).isEmpty = true → M c = [] := fun c he => by
      rw [List.eq_nil_iff_forall_not_mem]
      intro p hp
      have := ((hM c).1.2 p).1 hp
      have he' : kid c L = [] := by simpa using he
      rw [he'] at this; cases this
    refine ⟨(L.filter fun p => p.1.isEmpty) ++ (List.range 256).flatMap fun n => (M (UInt8.ofNat n)).map fun p => (UInt8.ofNat n :: p.1, p.2), ⟨?_, ?_⟩, ?_⟩
    · rw [List.pairwise_append]
      refine ⟨empties_one hO, ?_, ?_⟩
      · rw [List.pairwise_flatMap]
        refine ⟨fun n _ => ?_, ?_⟩
        · rw [List.pairwise_map]
          exact (hM _).1.1.imp fun h => List.cons_lt_cons_self.2 h
        · refine List.pairwise_lt_range.imp_of_mem ?_
          intro a b _ hb hab x hx y hy
          obtain ⟨p, _, rfl⟩ := List.mem_map.1 hx
          obtain ⟨q, _, rfl⟩ := List.mem_map.1 hy
          exact List.cons_lt_cons_iff.2 (.inl (u8_lt hab (List.mem_range.1 hb)))
      · intro a ha b hb
        have h1 : a.1 = [] := by simpa using (List.mem_filter.1 ha).2
        obtain ⟨n, _, hn⟩ := List.mem_flatMap.1 hb
        obtain ⟨q, _, rfl⟩ := List.mem_map.1 hn
        rw [h1]; exact List.nil_lt_cons _ _
    · rintro ⟨x, i⟩
      rw [List.mem_append, List.mem_filter, List.mem_flatMap]
      constructor
      · rintro (h | ⟨n, _, hn⟩)
        · exact h.1
        · obtain ⟨⟨r, j⟩, hq, e⟩ := List.mem_map.1 hn
          cases e
          exact mem_kid.1 (((hM _).1.2 _).1 hq)
      · intro h
        cases x with
        | nil => exact .inl ⟨h, rfl⟩
        | cons c r =>
          refine .inr ⟨c.toNat, List.mem_range.2 c.toNat_lt, List.mem_map.2 ⟨(r, i), ?_, ?_⟩⟩
          · rw [u8_back]; exact ((hM _).1.2 _).2 (mem_kid.2 h)
          · simp
    · rw [od, List.map_append, List.map_flatMap]
      congr 1
      refine congrArg (fun f => (List.range 256).flatMap f) (funext fun n => ?_)
      split
      · rename_i he; rw [hE _ he]; rfl
      · rw [(hM _).2, List.map_map]; rfl
/-! ### One order -/
theorem lt_irr (a : List UInt8) : ¬ a < a := List.lt_irrefl a
theorem lt_asym {a b : List UInt8} (h : a < b) : ¬ b < a := fun h' => lt_irr _ (List.lt_trans h h')
theorem sorted_nodup {M L : List Wd} (h : Sorted M L) : M.Nodup := List.Pairwise.imp (fun {a b} (h : a.1 < b.1) (e : a = b) => lt_irr b.1 (by rw [e] at h; exact h)) h.1
theorem sorted_perm {M L : List Wd} (h : Sorted M L) (hO : Once L) : M.Perm L :=
  (List.perm_ext_iff_of_nodup (sorted_nodup h) (hO.imp fun h e => h (by rw [e]))).2 h.2
theorem sorted_one {M N L : List Wd} (h1 : Sorted M L) (h2 : Sorted N L) : M = N := by
  have hp : M.Perm N := (List.perm_ext_iff_of_nodup (sorted_nodup h1) (sorted_nodup h2)).2 fun p => (h1.2 p).trans (h2.2 p).symm
  refine List.Perm.eq_of_pairwise (le := fun p q => p.1 < q.1) (fun a b _ _ h h' => absurd h' (lt_asym h)) h1.1 h2.1 hp

/-- The words with their places. -/
def wds (ws : List (List UInt8)) : List Wd := ws.zipIdx
theorem wds_mem {ws : List (List UInt8)} {x : List UInt8} {i : Nat} : (x, i) ∈ wds ws ↔ ws[i]? = some x := by
  simp [wds, List.mem_zipIdx_iff_getElem?]
theorem wds_snoc (ws : List (List UInt8)) (x : List UInt8) : wds (ws ++ [x]) = wds ws ++ [(x, ws.length)] := by
  simp [wds, List.zipIdx_append]
theorem wds_once {ws : List (List UInt8)} : Once (wds ws) ↔ ws.Nodup := by
  refine list_snoc (C := fun ws => Once (wds ws) ↔ ws.Nodup) (by simp [wds, Once]) ?_ ws
  intro L x ih
  rw [wds_snoc]
  unfold Once at ih ⊢
  rw [List.pairwise_append, List.nodup_append, ih]
  simp only [List.pairwise_cons, List.mem_singleton, List.not_mem_nil, false_implies, implies_true, List.Pairwise.nil, and_self, true_and, List.nodup_cons, not_false_eq_true, List.nodup_nil]
  constructor
  · rintro ⟨h1, h2⟩
    refine ⟨h1, ?_⟩
    rintro a ha b rfl e
    obtain ⟨i, hi⟩ := List.mem_iff_getElem?.1 ha
    exact h2 (a, i) (wds_mem.2 hi) (b, L.length) rfl e
  · rintro ⟨h1, h2⟩
    refine ⟨h1, ?_⟩
    rintro ⟨a, i⟩ ha q rfl e
    exact h2 a (List.mem_iff_getElem?.2 ⟨i, wds_mem.1 ha⟩) x rfl e

/-- o lists the places of the words ws in their order. -/
def InOrder (ws : List (List UInt8)) (o : List Nat) : Prop :=
  o.length = ws.length ∧ (∀ i ∈ o, i < ws.length) ∧ o.Pairwise fun i j => ws.getD i [] < ws.getD j []
theorem nodup_len (n : Nat) : ∀ o : List Nat, o.Nodup → (∀ i ∈ o, i < n) → o.length ≤ n := by
  induction n with
  | zero => intro o _ h; cases o with
    | nil => exact Nat.le_refl _
    | cons a o => exact absurd (h a (by simp)) (by omega)
  | succ n ih =>
    intro o hn h
    by_cases e : n ∈ o
    · have h1 := ih (o.erase n) (hn.erase n) fun i hi => by
        have h2 := (hn.mem_erase_iff.1 hi)
        have := h i h2.2
        have := h2.1
        omega
      have := List.length_erase_of_mem e
      omega
    · have := ih o hn fun i hi => by
        have := h i hi
        have : i ≠ n := fun e' => e (e' ▸ hi)
        omega
      omega
theorem nodup_full {n : Nat} {o : List Nat} (hl : o.length = n) (hb : ∀ i ∈ o, i < n) (hn : o.Nodup) (i : Nat) (hi : i < n) : i ∈ o := by
  by_cases e : i ∈ o
  · exact e
  · have := nodup_len n (i :: o) (List.nodup_cons.2 ⟨e, hn⟩) fun j hj => by
      rcases List.mem_cons.1 hj with rfl | hj'
      · exact hi
      · exact hb j hj'
    simp at this; omega
theorem inorder_sorted {ws : List (List UInt8)} {o : List Nat} (h : InOrder ws o) : Sorted (o.map fun i => (ws.getD i [], i)) (wds ws) := by
  refine ⟨List.pairwise_map.2 h.2.2, ?_⟩
  rintro ⟨x, i⟩
  rw [List.mem_map, wds_mem]
  have hn : o.Nodup := List.Pairwise.imp (fun {a b} (h : ws.getD a [] < ws.getD b []) (e : a = b) => lt_irr _ (by rw [e] at h; exact h)) h.2.2
  constructor
  · rintro ⟨j, hj, e⟩
    have := h.2.1 j hj
    simp [List.getD_eq_getElem?_getD] at e
    obtain ⟨rfl, rfl⟩ := e
    simp [this]
  · intro he
    have hi : i < ws.length := (List.getElem?_eq_some_iff.1 he).1
    exact ⟨i, nodup_full h.1 h.2.1 hn i hi, by simp [List.getD_eq_getElem?_getD, he]⟩
theorem inorder_one {ws : List (List UInt8)} {o o' : List Nat} (h : InOrder ws o) (h' : InOrder ws o') : o = o' := by
  have := congrArg (List.map (·.2)) (sorted_one (inorder_sorted h) (inorder_sorted h'))
  rw [List.map_map, List.map_map] at this
  have e : ((fun x : Wd => x.2) ∘ fun i => (ws.getD i [], i)) = id := rfl
  rw [e] at this
  simpa using this
theorem od_inorder {ws : List (List UInt8)} (k : Nat) (hN : ws.Nodup) (hk : ∀ x ∈ ws, x.length ≤ k) : InOrder ws (od k (wds ws)) := by
  obtain ⟨M, hM, e⟩ := od_sorted k (wds ws) (wds_once.2 hN) (by
    rintro ⟨x, i⟩ hp
    exact hk x (List.mem_iff_getElem?.2 ⟨i, wds_mem.1 hp⟩))
  have hp := sorted_perm hM (wds_once.2 hN)
  have hw : ∀ p ∈ M, ws.getD p.2 [] = p.1 := by
    rintro ⟨x, i⟩ hp'
    have := wds_mem.1 ((hM.2 _).1 hp')
    simp [List.getD_eq_getElem?_getD, this]
  rw [e]
  refine ⟨by rw [List.length_map, hp.length_eq]; simp [wds], ?_, ?_⟩
  · intro i hi
    obtain ⟨⟨x, j⟩, hp', rfl⟩ := List.mem_map.1 hi
    exact (List.getElem?_eq_some_iff.1 (wds_mem.1 ((hM.2 _).1 hp'))).1
  · rw [List.pairwise_map]
    refine hM.1.imp_of_mem ?_
    intro a b ha hb h
    rw [hw a ha, hw b hb]; exact h

/-! ### What two words begin with alike, in the order -/
/-- Where a beginning stands at both ends of a stretch of the order, it stands between, too. -/
theorem pre_between {p : List UInt8} : ∀ {y z x : List UInt8}, (y < z ∨ y = z) → z < x → p <+: y → p <+: x → p <+: z := by
  induction p with
  | nil => intro y z x _ _ _ _; exact List.nil_prefix
  | cons c p ih =>
    rintro y z x h1 h2 ⟨r, rfl⟩ ⟨s, rfl⟩
    rcases h1 with h1 | h1
    · cases z with
      | nil => exact absurd h1 (by simp)
      | cons d z =>
        simp only [List.cons_append] at h1 h2
        rw [List.cons_lt_cons_iff] at h1 h2
        rcases h1 with h1 | ⟨rfl, h1⟩
        · rcases h2 with h2 | ⟨e, _⟩
          · exact absurd (UInt8.lt_trans h1 h2) (UInt8.lt_irrefl _)
          · subst e; exact absurd h1 (UInt8.lt_irrefl _)
        · rcases h2 with h2 | ⟨_, h2⟩
          · exact absurd h2 (UInt8.lt_irrefl _)
          · exact List.cons_prefix_cons.2 ⟨rfl, ih (.inl h1) h2 ⟨r, rfl⟩ ⟨s, rfl⟩⟩
    · subst h1; exact ⟨r, rfl⟩
/-- How many signs two words begin with alike. -/
def lc : List UInt8 → List UInt8 → Nat
  | a :: x, b :: y => if a = b then lc x y + 1 else 0
  | _, _ => 0
theorem lc_le (x : List UInt8) : ∀ y, lc x y ≤ y.length := by
  induction x with
  | nil => intro y; simp [lc]
  | cons a x ih => intro y; cases y with
    | nil => simp [lc]
    | cons b y => unfold lc; split; have := ih y; simp; omega; omega
theorem lc_pre (z : List UInt8) : ∀ (x : List UInt8) (k : Nat), k ≤ x.length → (x.take k <+: z ↔ k ≤ lc z x) := by
  induction z with
  | nil =>
    intro x k hk
    simp only [List.prefix_nil, lc]
    cases k with
    | zero => simp
    | succ k =>
      cases x with
      | nil => simp at hk
      | cons b x => simp
  | cons a z ih =>
    intro x k hk
    cases k with
    | zero => simp
    | succ k =>
      cases x with
      | nil => simp at hk
      | cons b x =>
        rw [List.take_succ_cons, List.cons_prefix_cons, ih x k (by simp at hk; omega), lc]
        by_cases e : a = b
        · simp [e]
        · simp [e, Ne.symm e]
/-- In the order a word has as many new beginnings as it is longer than what it has with the one ahead. -/
theorem fr_sorted {L : List Wd} {z x : List UInt8} (hz : (z = [] ∧ L = []) ∨ ∃ i, (z, i) ∈ L) (hm : ∀ p ∈ L, p.1 < z ∨ p.1 = z) (hx : z < x) : fr L x = x.length - lc z x := by
  rw [fr_count]
  have e : ∀ k, k < x.length → (subs (x.take (k + 1)) L).isEmpty = !decide (k + 1 ≤ lc z x) := by
    intro k hk
    rw [Bool.eq_iff_iff, List.isEmpty_iff, subs_empty]
    simp only [Bool.not_eq_true', decide_eq_false_iff_not]
    rw [← lc_pre z x (k + 1) (by omega)]
    constructor
    · intro h hp
      rcases hz with ⟨rfl, rfl⟩ | ⟨i, hi⟩
      · have := List.prefix_nil.1 hp
        have := congrArg List.length this
        rw [List.length_take, List.length_nil] at this; omega
      · exact h _ hi hp
    · intro h q hq hp
      exact h (pre_between (hm q hq) hx hp (List.take_prefix _ _))
  rw [List.filter_congr fun k hk => e k (List.mem_range.1 hk)]
  have hle := lc_le z x
  generalize lc z x = m at hle
  have : ∀ n, m ≤ n → ((List.range n).filter fun k => !decide (k + 1 ≤ m)).length = n - m := by
    intro n
    induction n with
    | zero => intro h; simp
    | succ n ih =>
      intro h
      rw [List.range_succ, List.filter_append, List.length_append]
      by_cases e : m = n + 1
      · subst e
        rw [List.filter_eq_nil_iff.2 (fun k hk => by have := List.mem_range.1 hk; simp; omega)]
        simp
      · rw [ih (by omega)]
        simp only [List.filter_cons, List.filter_nil]
        rw [if_pos (by simp; omega)]
        simp; omega
  exact this _ hle

/-! ### The longest word with which a text begins -/
def Lg (L : List Wd) (t : List UInt8) (k : Int) : Prop :=
  (k = -1 ∧ ∀ p ∈ L, ¬ p.1 <+: t) ∨ ∃ x i, (x, i) ∈ L ∧ k = (i : Nat) ∧ x <+: t ∧ ∀ p ∈ L, p.1 <+: t → p.1.length ≤ x.length
theorem lg_one {L : List Wd} (hO : Once L) {t : List UInt8} {k k' : Int} (h : Lg L t k) (h' : Lg L t k') : k = k' := by
  rcases h with ⟨rfl, h⟩ | ⟨x, i, hi, rfl, hx, hm⟩
  · rcases h' with ⟨rfl, _⟩ | ⟨x, i, hi, rfl, hx, _⟩
    · rfl
    · exact absurd hx (h _ hi)
  · rcases h' with ⟨rfl, h'⟩ | ⟨y, j, hj, rfl, hy, hm'⟩
    · exact absurd hx (h' _ hi)
    · have h1 := hm _ hj hy
      have h2 := hm' _ hi hx
      have : x = y := (List.prefix_of_prefix_length_le hx hy h2).eq_of_length (by simp at h1 h2; omega)
      subst this
      rw [once_same hO hi hj]
end Go.Proofs.Ytlfncplldppncaa

/-
  Plain facts on texts: two texts are the same just if they are as long and have the same signs; a text's beginning is its end just if it is a border. No condition.
-/
namespace Go.Proofs.Ytlfncplldppncaa

theorem text_eq (a b : ByteArray) (hs : a.size = b.size) (h : ∀ i, i < a.size → sg a i = sg b i) : a = b := by
  apply ByteArray.ext
  apply Array.toList_inj.1
  apply List.ext_getElem?
  intro i
  have ha : a.size = a.data.toList.length := by rw [Array.length_toList]; rfl
  have hb : b.size = b.data.toList.length := by rw [Array.length_toList]; rfl
  by_cases hi : i < a.size
  · have := h i hi
    have h1 : i < a.data.toList.length := by omega
    have h2 : i < b.data.toList.length := by omega
    simp only [sg, List.getD_eq_getElem?_getD, List.getElem?_eq_getElem h1, List.getElem?_eq_getElem h2, Option.getD_some] at this
    rw [List.getElem?_eq_getElem h1, List.getElem?_eq_getElem h2, this]
  · rw [List.getElem?_eq_none (by omega), List.getElem?_eq_none (by omega)]
/-- The walk's own spelling of '==' on texts. -/
theorem same_yes {a b : ByteArray} (h : a = b) : (a.toList == b.toList) = true := by simp [h]
theorem same_no {a b : ByteArray} (h : a ≠ b) : (a.toList == b.toList) = false := by
  rw [beq_eq_false_iff_ne]
  intro e
  apply h
  rw [ByteArray.toList_eq, ByteArray.toList_eq] at e
  exact ByteArray.ext (Array.toList_inj.1 e)

theorem bd_text (s : ByteArray) (k : Nat) (h : k < s.size) : Bd (sg s) s.size k ↔ s.extract 0 k = s.extract (s.size - k) s.size := by
  have h1 : (s.extract 0 k).size = k := by rw [ByteArray.size_extract]; omega
  have h2 : (s.extract (s.size - k) s.size).size = k := by rw [ByteArray.size_extract]; omega
  constructor
  · intro hb
    refine text_eq _ _ (by omega) fun i hi => ?_
    rw [sg_cut s 0 k i (by omega) (by omega), sg_cut s _ _ i (by omega) (by omega), Nat.zero_add]
    exact hb.2 i (by omega)
  · intro e
    refine ⟨h, fun j hj => ?_⟩
    have : sg (s.extract 0 k) j = sg (s.extract (s.size - k) s.size) j := by rw [e]
    rwa [sg_cut s 0 k j (by omega) (by omega), sg_cut s _ _ j (by omega) (by omega), Nat.zero_add] at this
end Go.Proofs.Ytlfncplldppncaa

/-
  Texts as lists of signs. No condition.
-/
namespace Go.Proofs.Ytlfncplldppncaa

/-- A text's signs as a list. -/
def bs (s : ByteArray) : List UInt8 := s.data.toList
theorem bs_len (s : ByteArray) : (bs s).length = s.size := by unfold bs; rw [Array.length_toList]; rfl
theorem bs_inj {s t : ByteArray} (h : bs s = bs t) : s = t := ByteArray.ext (Array.toList_inj.1 h)
theorem bs_get (s : ByteArray) (i : Nat) (h : i < s.size) : (bs s)[i]? = some s[i] := by
  have h' : i < s.data.size := h
  unfold bs
  rw [Array.getElem?_toList, Array.getElem?_eq_getElem h']; rfl
theorem bs_take_succ (s : ByteArray) (i : Nat) (h : i < s.size) : (bs s).take (i + 1) = (bs s).take i ++ [s[i]] := by
  rw [List.take_add_one, bs_get s i h]; rfl
def txt (l : List UInt8) : ByteArray := ⟨l.toArray⟩
theorem bs_txt (l : List UInt8) : bs (txt l) = l := by simp [bs, txt]
theorem txt_bs (s : ByteArray) : txt (bs s) = s := bs_inj (bs_txt _)
theorem txt_size (l : List UInt8) : (txt l).size = l.length := by rw [← bs_len, bs_txt]
theorem wb_app (a b : ByteArray) : bs (a ++ b) = bs a ++ bs b := by simp [bs]
theorem wb_ext (s : ByteArray) (a b : Nat) : bs (s.extract a b) = ((bs s).take b).drop a := by
  unfold bs
  rw [ByteArray.data_extract, Array.toList_extract, List.extract_eq_take_drop, List.drop_take]
theorem bs_zero {s : ByteArray} (h : s.size = 0) : bs s = [] := List.length_eq_zero_iff.1 (by rw [bs_len]; exact h)
theorem bs_sg (s : ByteArray) (i : Nat) : (bs s).getD i 0 = sg s i := rfl
end Go.Proofs.Ytlfncplldppncaa

/-
  Plain facts on slices of texts, and on what is wrong with a list of words: the first fault, or none. No condition.
-/
namespace Go.Proofs.Ytlfncplldppncaa
open Go.RowKit

/-- The slice value '.slice A n _' holds the texts ws in world w, below block B. -/
def IsStrs (w : World) (B : Nat) (A : Option Addr) (n : Nat) (ws : List ByteArray) : Prop :=
  ws.length = n ∧ (0 < n → ∃ g off, A = some ⟨g, off, none⟩ ∧ g < B ∧ ∀ j, j < n → w.cell? ⟨g, off + j, none⟩ = some (.string (ws.getD j ByteArray.empty)))
theorem IsStrs.keep {w w' : World} {B B' n : Nat} {A : Option Addr} {ws : List ByteArray} (h : IsStrs w B A n ws) (hB : B ≤ B')
    (hk : ∀ b o, b < B → w'.cell? ⟨b, o, none⟩ = w.cell? ⟨b, o, none⟩) : IsStrs w' B' A n ws :=
  ⟨h.1, fun hn => by
    obtain ⟨g, off, e, hg, hc⟩ := h.2 hn
    exact ⟨g, off, e, by omega, fun j hj => (hk _ _ hg).trans (hc j hj)⟩⟩
theorem IsStrs.below {w w' : World} {B n : Nat} {A : Option Addr} {ws : List ByteArray} (h : IsStrs w B A n ws) (hb : Below B w w') : IsStrs w' B A n ws :=
  h.keep (Nat.le_refl _) fun _ _ hp => hb.cell hp
theorem IsStrs.mono {w : World} {B B' n : Nat} {A : Option Addr} {ws : List ByteArray} (h : IsStrs w B A n ws) (hB : B ≤ B') : IsStrs w B' A n ws :=
  h.keep hB fun _ _ _ => rfl
theorem IsStrs.lit (w : World) (ws : List ByteArray) (cs : Array Value) (e : TypeId) (h : cs = (ws.map Value.string).toArray) :
    IsStrs (w.alloc (.cells cs e)) (w.heap.size + 1) (some ⟨w.heap.size, 0, none⟩) ws.length ws := by
  subst h
  refine ⟨rfl, fun _ => ⟨w.heap.size, 0, rfl, by omega, fun j hj => ?_⟩⟩
  rw [Nat.zero_add, cell_of_row _ _ j _ e (0, 0) (heap_alloc_new w _)]
  simp [hj]

/-- The word at place i. -/
def wat (ws : List ByteArray) (i : Nat) : ByteArray := ws.getD i ByteArray.empty
theorem wat_get {ws : List ByteArray} {i : Nat} (h : i < ws.length) : ws[i]? = some (wat ws i) := by simp [wat, List.getD_eq_getElem?_getD, h]
/-- The first k words are as they should be. -/
def FineTo (ws : List ByteArray) (k : Nat) : Prop := ∀ j, j < k → (wat ws j).size ≤ 8 ∧ 0 < (wat ws j).size ∧ ∀ m, m < j → wat ws m ≠ wat ws j
def Fine (ws : List ByteArray) : Prop := ws.length ≤ 6 ∧ FineTo ws ws.length
/-- What is wrong with the word at place i, the words ahead being as they should be. -/
def BadAt (ws : List ByteArray) (i : Nat) (k : Int) : Prop :=
  (k = 4 ∧ 8 < (wat ws i).size) ∨ (k = 5 ∧ (wat ws i).size = 0) ∨ (k = 6 ∧ (wat ws i).size ≤ 8 ∧ 0 < (wat ws i).size ∧ ∃ m, m < i ∧ wat ws m = wat ws i)
def Bad (ws : List ByteArray) (k : Int) : Prop := (k = 4 ∧ 6 < ws.length) ∨ (ws.length ≤ 6 ∧ ∃ i, i < ws.length ∧ FineTo ws i ∧ BadAt ws i k)
theorem badAt_no {ws : List ByteArray} {i n : Nat} {k : Int} (h : BadAt ws i k) (hf : FineTo ws n) (hi : i < n) : False := by
  obtain ⟨h1, h2, h3⟩ := hf i hi
  rcases h with ⟨_, h⟩ | ⟨_, h⟩ | ⟨_, _, _, m, hm, e⟩
  · omega
  · omega
  · exact h3 m hm e
theorem badAt_one {ws : List ByteArray} {i : Nat} {k k' : Int} (h : BadAt ws i k) (h' : BadAt ws i k') : k = k' := by
  rcases h with ⟨rfl, h⟩ | ⟨rfl, h⟩ | ⟨rfl, h1, h2, _⟩ <;> rcases h' with ⟨rfl, h'⟩ | ⟨rfl, h'⟩ | ⟨rfl, h1', h2', _⟩ <;> first | rfl | omega
theorem bad_fine {ws : List ByteArray} {k : Int} (h : Bad ws k) (hf : Fine ws) : False := by
  rcases h with ⟨_, h⟩ | ⟨_, i, hi, _, hb⟩
  · have := hf.1; omega
  · exact badAt_no hb hf.2 hi
theorem bad_one {ws : List ByteArray} {k k' : Int} (h : Bad ws k) (h' : Bad ws k') : k = k' := by
  rcases h with ⟨rfl, h⟩ | ⟨hl, i, hi, hf, hb⟩
  · rcases h' with ⟨rfl, _⟩ | ⟨hl, _⟩
    · rfl
    · omega
  · rcases h' with ⟨rfl, h'⟩ | ⟨_, j, hj, hf', hb'⟩
    · omega
    · rcases Nat.lt_trichotomy i j with h1 | h1 | h1
      · exact (badAt_no hb hf' h1).elim
      · subst h1; exact badAt_one hb hb'
      · exact (badAt_no hb' hf h1).elim
theorem bad_code {ws : List ByteArray} {k : Int} (h : Bad ws k) : k = 4 ∨ k = 5 ∨ k = 6 := by
  rcases h with ⟨rfl, _⟩ | ⟨_, i, _, _, ⟨rfl, _⟩ | ⟨rfl, _⟩ | ⟨rfl, _⟩⟩ <;> simp
theorem fineTo_succ {ws : List ByteArray} {k : Nat} (h : FineTo ws k) (h1 : (wat ws k).size ≤ 8) (h2 : 0 < (wat ws k).size) (h3 : ∀ m, m < k → wat ws m ≠ wat ws k) : FineTo ws (k + 1) := by
  intro j hj
  by_cases e : j = k
  · subst e; exact ⟨h1, h2, h3⟩
  · exact h j (by omega)
theorem fineTo_or (ws : List ByteArray) (n : Nat) : FineTo ws n ∨ ∃ i k, i < n ∧ FineTo ws i ∧ BadAt ws i k := by
  induction n with
  | zero => exact .inl fun j hj => by omega
  | succ n ih =>
    rcases ih with ih | ⟨i, k, hi, h⟩
    · by_cases h1 : 8 < (wat ws n).size
      · exact .inr ⟨n, 4, by omega, ih, .inl ⟨rfl, h1⟩⟩
      · by_cases h2 : (wat ws n).size = 0
        · exact .inr ⟨n, 5, by omega, ih, .inr (.inl ⟨rfl, h2⟩)⟩
        · by_cases h3 : ∃ m, m < n ∧ wat ws m = wat ws n
          · exact .inr ⟨n, 6, by omega, ih, .inr (.inr ⟨rfl, by omega, by omega, h3⟩)⟩
          · exact .inl (fineTo_succ ih (by omega) (by omega) fun m hm e => h3 ⟨m, hm, e⟩)
    · exact .inr ⟨i, k, by omega, h⟩
theorem words_or (ws : List ByteArray) : Fine ws ∨ ∃ k, Bad ws k := by
  by_cases h : ws.length ≤ 6
  · rcases fineTo_or ws ws.length with h' | ⟨i, k, hi, h'⟩
    · exact .inl ⟨h, h'⟩
    · exact .inr ⟨k, .inr ⟨h, i, hi, h'⟩⟩
  · exact .inr ⟨4, .inl ⟨rfl, by omega⟩⟩
/-- The words as lists of signs. -/
def wl (ws : List ByteArray) : List (List UInt8) := ws.map bs
theorem wl_get {ws : List ByteArray} {i : Nat} (h : i < ws.length) : (wl ws)[i]? = some (bs (wat ws i)) := by
  unfold wl; rw [List.getElem?_map, wat_get h]; rfl
theorem wl_getD {ws : List ByteArray} {i : Nat} (h : i < ws.length) : (wl ws).getD i [] = bs (wat ws i) := by
  rw [List.getD_eq_getElem?_getD, wl_get h]; rfl
theorem wl_len (ws : List ByteArray) : (wl ws).length = ws.length := by simp [wl]
theorem wl_take (ws : List ByteArray) (k : Nat) : (wl ws).take k = wl (ws.take k) := by simp [wl, List.map_take]
theorem wl_take_succ {ws : List ByteArray} {k : Nat} (h : k < ws.length) : (wl ws).take (k + 1) = (wl ws).take k ++ [bs (wat ws k)] := by
  rw [List.take_add_one, wl_get h]; rfl
theorem fine_new {ws : List ByteArray} {k : Nat} (hf : FineTo ws (k + 1)) (hk : k < ws.length) : bs (wat ws k) ∉ (wl ws).take k := by
  intro h
  obtain ⟨m, hm⟩ := List.mem_iff_getElem?.1 h
  rw [List.getElem?_take] at hm
  split at hm
  · rename_i hlt
    rw [wl_get (by omega)] at hm
    exact (hf k (by omega)).2.2 m hlt (bs_inj (by simpa using hm))
  · cases hm
theorem fine_nodup {ws : List ByteArray} (hf : FineTo ws ws.length) : ∀ k, k ≤ ws.length → ((wl ws).take k).Nodup := by
  intro k
  induction k with
  | zero => intro _; simp
  | succ k ih =>
    intro hk
    rw [wl_take_succ (by omega), List.nodup_append]
    refine ⟨ih (by omega), by simp, ?_⟩
    rintro a ha b hb rfl
    obtain rfl : a = bs (wat ws k) := by simpa using hb
    exact fine_new (fun j hj => hf j (by omega)) (by omega) ha
theorem fine_wl {ws : List ByteArray} (hf : Fine ws) : (wl ws).Nodup ∧ ∀ x ∈ wl ws, x.length ≤ 8 ∧ 0 < x.length := by
  refine ⟨?_, ?_⟩
  · have := fine_nodup hf.2 ws.length (Nat.le_refl _)
    rwa [List.take_of_length_le (by rw [wl_len]; exact Nat.le_refl _)] at this
  · intro x hx
    obtain ⟨i, hi⟩ := List.mem_iff_getElem?.1 hx
    have hlt : i < ws.length := by have := (List.getElem?_eq_some_iff.1 hi).1; rw [wl_len] at this; exact this
    rw [wl_get hlt] at hi
    obtain rfl : bs (wat ws i) = x := by simpa using hi
    rw [bs_len]
    have := hf.2 i hlt
    exact ⟨this.1, this.2.1⟩
end Go.Proofs.Ytlfncplldppncaa

/-
  Contract of kraft.byLength: the places of lengths, the shorter ones first, of equal ones the earlier one first, in new memory. Conditions: at most ten lengths, from 1 to 12.
-/
namespace Go.Proofs.Ytlfncplldppncaa
open Go.RowKit Go.Shelf Go.Sort

theorem blen_fn (E : List Nat) (n c g off B a b : Nat) (w : World) (hB : w.cell? ⟨B, 0, none⟩ = some (.slice (some ⟨g, off, none⟩) n c)) (hc : ∀ j, j < n → w.cell? ⟨g, off + j, none⟩ = some (.int .i64 ((E.getD j 0 : Nat) : Int)))
    (hE : ∀ j, j < n → E.getD j 0 ≤ 12) (ha : a < n) (hb : b < n) :
    Calls Try.prog 39 #[.int .i64 a, .int .i64 b, .pointer (some ⟨B, 0, none⟩)] w fun e w' => e = .returned (.int .i64 (((E.getD a 0 : Nat) : Int) - (E.getD b 0 : Nat))) ∧ ∃ q, w' = w.drewN q := by
  have ca := hc a ha
  have cb := hc b hb
  have ea := hE a ha
  have eb := hE b hb
  clear hc hE
  generalize E.getD a 0 = X at ca ea ⊢
  generalize E.getD b 0 = Y at cb eb ⊢
  have a1 : (a : Int) < (n : Int) := by omega
  have b1 : (b : Int) < (n : Int) := by omega
  have s1 : IntKind.i64.wrap ((X : Int) - (Y : Int)) = (X : Int) - (Y : Int) := IntWalk.i64_in _ (by omega)
  go_enter Try.func39, Try.ntmps39
  go_wp2_with fail
  go_quiet (fail)
  go_wp2_with fail
  go_ret
  exact ⟨rfl, _, rfl⟩

/-! ### The places of lengths, and their order -/
abbrev Pln (n : Nat) := { i : Nat // i < n }
def encN (n : Nat) (x : Pln n) : Value := .int .i64 (x.1 : Int)
def cmpN (E : List Nat) (n : Nat) (x y : Pln n) : Int := ((E.getD x.1 0 : Nat) : Int) - (E.getD y.1 0 : Nat)
/-- By the length, then by the place. -/
def LnT (E : List Nat) (n : Nat) (x y : Pln n) : Prop := E.getD x.1 0 < E.getD y.1 0 ∨ (E.getD x.1 0 = E.getD y.1 0 ∧ x.1 < y.1)
theorem lnT_tot (E : List Nat) (n : Nat) : Tot (LnT E n) where
  trans := by
    rintro x y z (h | ⟨h, h'⟩) (k | ⟨k, k'⟩)
    · exact .inl (by omega)
    · exact .inl (by omega)
    · exact .inl (by omega)
    · exact .inr ⟨by omega, by omega⟩
  irr := by
    rintro x (h | ⟨_, h⟩) <;> omega
theorem cmpN_lt (E : List Nat) (n : Nat) (x y : Pln n) : ltOf (cmpN E n) x y = true ↔ E.getD x.1 0 < E.getD y.1 0 := by
  unfold ltOf cmpN
  rw [decide_eq_true_eq]
  omega
theorem lnT_test (E : List Nat) (n : Nat) {x y : Pln n} (h : x.1 < y.1) : (ltOf (cmpN E n) y x = true → LnT E n y x) ∧ (ltOf (cmpN E n) y x = false → LnT E n x y) := by
  refine ⟨fun k => .inl ((cmpN_lt E n y x).1 k), fun k => ?_⟩
  have hn : ¬ E.getD y.1 0 < E.getD x.1 0 := fun c => by rw [(cmpN_lt E n y x).2 c] at k; cases k
  by_cases e : E.getD x.1 0 < E.getD y.1 0
  · exact .inl e
  · exact .inr ⟨by omega, h⟩
/-- All places, rising. -/
def allN (n : Nat) : Array (Pln n) := Array.ofFn fun i : Fin n => ⟨i.1, i.2⟩
theorem allN_size (n : Nat) : (allN n).size = n := by simp [allN]
theorem allN_at (n : Nat) [Inhabited (Pln n)] (j : Nat) (h : j < n) : ((allN n)[j]!).1 = j := by
  rw [getElem!_pos (allN n) j (by rw [allN_size]; exact h)]
  simp [allN]
/-- What the stable sort of the places gives. -/
theorem ord_sorted {E : List Nat} {n : Nat} (hE : E.length = n) [Inhabited (Pln n)] (d : Array (Pln n)) (hz : d.size = n) (hs : Srt (LnT E n) d 0 d.size) : LOrd E (d.toList.map (·.1)) := by
  have hpw : (d.toList.map (·.1)).Pairwise fun a b => E.getD a 0 < E.getD b 0 ∨ (E.getD a 0 = E.getD b 0 ∧ a < b) := by
    rw [List.pairwise_iff_getElem]
    intro i j hi hj hij
    simp only [List.length_map, Array.length_toList] at hi hj
    have h2 := hs i j (Nat.zero_le _) hij hj
    rw [getElem!_pos d i hi, getElem!_pos d j hj] at h2
    simp only [List.getElem_map, Array.getElem_toList]
    exact h2
  have hnd : (d.toList.map (·.1)).Nodup := hpw.imp fun {a b} h e => by
    subst e
    omega
  have hmem : ∀ i ∈ d.toList.map (·.1), i < n := fun i hi => by
    obtain ⟨x, _, rfl⟩ := List.mem_map.1 hi
    exact x.2
  refine ⟨?_, hpw⟩
  rw [hE]
  refine (List.perm_ext_iff_of_nodup hnd List.nodup_range).2 fun i => ⟨fun h => List.mem_range.2 (hmem i h), fun h => ?_⟩
  exact nodup_full (by simp [hz]) hmem hnd i (List.mem_range.1 h)

/-- A world that the sort passes through leaves what lies elsewhere alone. -/
theorem below_srt {α : Type} [Inhabited α] {enc : α → Value} {blk off n : Nat} {w : World} {d : Array α} {os : Array Obj} (hblk : blk < w.heap.size) : RowKit.Below blk w (sortWorld enc w blk off n d os) := by
  unfold sortWorld
  refine ⟨rfl, rfl, rfl, ?_, fun k hk => ?_⟩
  · rw [size_grow]; unfold putRow mapBlock; simp
  · rw [heap_grow_old _ _ (by unfold putRow mapBlock; simp; omega)]
    unfold putRow mapBlock
    rw [Array.getElem?_modify]
    simp [show blk ≠ k by omega]
/-- slices.SortStableFunc over all places, by the lengths there. -/
theorem sort_lens (E : List Nat) (n c g off : Nat) (h0 : 0 < n) (hE : E.length = n) (B blk : Nat) (w : World) (hn : n ≤ 10) (hB : w.cell? ⟨B, 0, none⟩ = some (.slice (some ⟨g, off, none⟩) n c)) (hBb : B < blk) (hgb : g < blk)
    (hc : ∀ j, j < n → w.cell? ⟨g, off + j, none⟩ = some (.int .i64 ((E.getD j 0 : Nat) : Int))) (h12 : ∀ j, j < n → E.getD j 0 ≤ 12)
    (hown : w.ownsRow blk 3 1 (.slice (some ⟨blk, 0, none⟩) n n) n (rowF n fun j => (j : Int))) (hlt : blk < w.heap.size) :
    Calls Try.prog 38 #[.slice (some ⟨blk, 0, none⟩) n n, .func (.func 39) #[] #[.pointer (some ⟨B, 0, none⟩)]] w fun e w' =>
      e = .returned (.tuple #[]) ∧ ∃ o, LOrd E o ∧ (blk < w'.heap.size ∧ ∀ j, j < n → w'.cell? ⟨blk, j, none⟩ = some (.int .i64 (o.getD j 0 : Nat))) ∧ RowKit.Below blk w w' := by
  haveI : Inhabited (Pln n) := ⟨⟨0, h0⟩⟩
  have eg : ∀ args w, (callFunc 39 args).run Try.prog w = .ok (.enter 39 args) w := enters_of Try.func39 (by kernel_rfl) rfl
  have hH : Holds (encN n) w blk 0 (allN n) := fun j hj => by
    rw [allN_size] at hj
    rw [Nat.zero_add, hown.cellAt j (by omega), rowF_get _ _ _ hj, hown.frozenAt j, encN, allN_at n j hj]
    exact ⟨rfl, rfl⟩
  have hcmp : CmpReads Try.prog 39 #[.pointer (some ⟨B, 0, none⟩)] (encN n) (cmpN E n) blk 0 (allN n).size w := fun m os dk _ x y =>
    blen_fn E n c g off B x.1 y.1 _ (((below_srt hlt).cell (p := ⟨B, 0, none⟩) hBb).trans hB) (fun j hj => ((below_srt hlt).cell (p := ⟨g, off + j, none⟩) hgb).trans (hc j hj)) h12 x.2 y.2
  have h := sortstable_few (encN n) (cmpN E n) (LnT E n) (lnT_tot E n) 39 #[.pointer (some ⟨B, 0, none⟩)] blk 0 n (allN n) w eg hcmp.lays ⟨fun _ => rfl, hH, hlt⟩ (by rw [allN_size]; omega)
    (fun x y hxy hy => by rw [allN_size] at hy; exact lnT_test E n (by rw [allN_at n x (by omega), allN_at n y hy]; exact hxy))
  rw [allN_size] at h
  refine h.mono ?_
  rintro e w' ⟨he, d', ⟨hF, hS⟩, hW⟩
  have hz : d'.size = n := by rw [hF.1, allN_size]
  rw [← hF.1] at hS
  have hHold := hW.holds hlt hH (by rw [hz, allN_size])
  obtain ⟨m, os, hw⟩ := hW
  refine ⟨he, _, ord_sorted hE d' hz hS, ⟨by rw [hw]; exact (SW.lt ⟨m, os, rfl⟩ hlt), fun j hj => ?_⟩, by rw [hw]; exact below_srt hlt⟩
  have hj' : j < d'.size := by omega
  have := (hHold j hj').1
  rw [Nat.zero_add] at this
  rw [this, getElem!_pos d' j hj']
  simp [encN, List.getD_eq_getElem?_getD, hj']
theorem fill_num (k j : Nat) : (if j < k + 1 then (j : Int) else 0) = if j = k then (k : Int) else if j < k then (j : Int) else 0 := by
  by_cases e : j = k
  · subst e; simp
  · by_cases h : j < k
    · rw [if_pos (by omega), if_neg e, if_pos h]
    · rw [if_neg (by omega), if_neg e, if_neg h]
theorem ord_nil {E : List Nat} (h : E.length = 0) : LOrd E [] := by
  rw [List.eq_nil_of_length_eq_zero h]
  exact ⟨List.Perm.refl _, List.Pairwise.nil⟩

set_option maxRecDepth 100000 in
set_option maxHeartbeats 800000 in
theorem blen_any (A : Option Addr) (n c : Nat) (E : List Nat) (w : World) (hl : IsInts w w.heap.size A n (nums E)) (hn : n ≤ 10) (hE : LenOk E) :
    Calls Try.prog 32 #[.slice A n c] w fun e w' => ∃ o, e = .returned (.slice (some ⟨w.heap.size + 1, 0, none⟩) n n) ∧ LOrd E o ∧ (w.heap.size + 1 < w'.heap.size ∧ ∀ j, j < n → w'.cell? ⟨w.heap.size + 1, j, none⟩ = some (.int .i64 (o.getD j 0 : Nat))) ∧ RowKit.Below w.heap.size w w' := by
  obtain ⟨i0, hi, hz0, hz1, hz2⟩ := info_parts int_info
  have hmf : ∀ (fn : Fn) (first cap : Array Value) (w : World), (Instr.makeFunc fn first cap).run Try.prog w = .ok (.func fn first cap) w := fun _ _ _ _ => rfl
  have HE := hid hE
  have HLn : Hid (E.length = n) := hid (by rw [← nums_len]; exact hl.1)
  have HI := hid hl
  clear hl hE
  go_enter Try.func32, Try.ntmps32
  go_wp2_with (at_make; refine wpList_make_full _ rfl _ _ 28 rfl (w.heap.size + 1) 3 i0 (.int .i64 0) 1 Try.underlying28 hi hz0 hz1 _ _ _ _ n rfl rfl rfl rfl (by rw [hz2]; omega) (by unfold maxLen; omega) (by simp) ?_)
  intro w1 hown hgrow
  rw [rowF_made] at hown
  have hb0 : RowKit.Below w.heap.size w (w.alloc (.cells #[.slice A n c] 28)) := (Below.refl _ _).alloc (Nat.le_refl _) _
  have hb1 : RowKit.Below (w.heap.size + 1) (w.alloc (.cells #[.slice A n c] 28)) w1 := (Below.refl _ _).grown hgrow (by simp) (by simp)
  have hc1 : w1.cell? ⟨w.heap.size, 0, none⟩ = some (.slice A n c) := (hb1.cell (p := ⟨w.heap.size, 0, none⟩) (by simp)).trans (by simp)
  have hbw : RowKit.Below w.heap.size w w1 := hb0.trans (hb1.mono (by omega))
  clear hgrow hi hz0 hz1 hz2 hb0 hb1
  go_wp2
  go_loopw [10] (fun i wr => ∃ k : Nat, k ≤ n ∧ i = .int .i64 k ∧ wr.ownsRow (w.heap.size + 1) 3 1 (.slice (some ⟨w.heap.size + 1, 0, none⟩) n n) n (rowF n fun j => if j < k then (j : Int) else 0) ∧ RowKit.Below (w.heap.size + 1) w1 wr) (fun i _ => n - (intOf i).toNat)
  case atStart => exact ⟨0, by omega, rfl, by rw [rowF_congr (g := fun _ => 0) (fun j _ => by simp)]; exact hown, Below.refl _ _⟩
  case round =>
    obtain ⟨k, hk, rfl, ho, hb⟩ := hrel
    by_cases hlt : k < n
    · have hcell : wr.cell? ⟨w.heap.size + 1, k, none⟩ = some (.int .i64 (if k < k then (k : Int) else 0)) := by rw [ho.cellAt k (by omega), rowF_get _ _ _ hlt]
      have hfr := ho.frozenAt k
      rw [if_neg (Nat.lt_irrefl _)] at hcell
      have HO := hid ho
      clear ho hown
      go_wp2
      have hst := HO.out.stored k (.int .i64 (k : Int))
      rw [rowF_set] at hst
      go_roundw
      case rel => exact ⟨k + 1, by omega, by go_num, by rw [rowF_congr (g := fun j => if j = k then (k : Int) else if j < k then (j : Int) else 0) (fun j _ => fill_num k j)]; exact hst.1, hb.setCell (by simp) _⟩
      case measure => simp [intOf]; omega
    · obtain rfl : k = n := by omega
      rw [rowF_congr (g := fun j => (j : Int)) (fun j hj => by simp [hj])] at ho
      have hsz := ho.lt _ rfl
      have hc2 : wr.cell? ⟨w.heap.size, 0, none⟩ = some (.slice A k c) := (hb.cell (p := ⟨w.heap.size, 0, none⟩) (by simp)).trans hc1
      have hbr : RowKit.Below w.heap.size w wr := hbw.trans (hb.mono (by omega))
      by_cases h0 : 0 < k
      · obtain ⟨g, off, rfl, hg, hcl⟩ := HI.out.2 h0
        have hcr : ∀ j, j < k → wr.cell? ⟨g, off + j, none⟩ = some (.int .i64 ((E.getD j 0 : Nat) : Int)) := fun j hj => by
          rw [← nums_at]
          exact (hbr.cell (p := ⟨g, off + j, none⟩) hg).trans (hcl j hj)
        have HS := hid (sort_lens E k c g off h0 HLn.out w.heap.size (w.heap.size + 1) wr hn hc2 (by omega) (by omega) hcr (fun j hj => (HE.out j (by rw [HLn.out]; exact hj)).2) ho hsz.2)
        clear ho hsz hown hb hbw hc1 hcr hcl
        go_wp2_with fail
        refine HS.out.mono ?_
        rintro e w2 ⟨rfl, o, hO, hI, hb2⟩
        have HO := hid hO
        have HI2 := hid hI
        clear hO hI
        go_wp2_with fail
        go_ret
        exact ⟨o, rfl, HO.out, HI2.out, hbr.trans (hb2.mono (by omega))⟩
      · have hz : k = 0 := by omega
        have HS := hid (sortstable_none (some ⟨w.heap.size + 1, 0, none⟩) 0 (.func (.func 39) #[] #[.pointer (some ⟨w.heap.size, 0, none⟩)]) wr)
        have HZ := hid hz
        subst hz
        rw [show (((0 : Nat) : Int)) = 0 from rfl]
        clear ho hown hb hbw hc1 h0 hlt hk
        go_wp2_with fail
        refine HS.out.mono ?_
        rintro e w2 ⟨rfl, hw2⟩
        subst w2
        go_wp2_with fail
        go_ret
        exact ⟨[], rfl, ord_nil HLn.out, ⟨hsz.2, fun j hj => by omega⟩, hbr⟩
end Go.Proofs.Ytlfncplldppncaa

/-
  The row of the type uint8: its zero, its cells, its bytes. No condition.
-/
namespace Go.Proofs.Ytlfncplldppncaa
theorem byteI : (Try.prog.info? 5).map (fun i => (i.zero, i.size, i.bytes)) = some (some (.int .u8 0), 1, 1) := by kernel_rfl
end Go.Proofs.Ytlfncplldppncaa

/-
  Contract of kraft.binary: so many bits of a number, as a text. Conditions: at most twelve bits, a number up to 4096.
-/
namespace Go.Proofs.Ytlfncplldppncaa
open Go.RowKit

/-- 'string(b)' of a row that fills its block. -/
theorem conv_all {w : World} {g n c : Nat} {r : List UInt8} (h : RowAt w g 5 r) (hn : r.length = n) : (convert 67 9 (.slice (some ⟨g, 0, none⟩) n c)).run Try.prog w = .ok (.string (txt r)) w := by
  subst hn
  exact run_convert_bytes_back (P := Try.prog) w 67 9 5 ⟨g, 0, none⟩ c r Try.underlying67 Try.underlying5 Try.underlying9 (fun j hj => by
    rw [show Addr.add ⟨g, 0, none⟩ j = ⟨g, j, none⟩ by by_cases h : j = 0 <;> simp [Addr.add, h], h.cell (by omega)]
    simp [hj])

theorem bit_of (k p : Nat) (h : k ≤ 4096) : bits BinOp.and IntKind.i64 ((k : Int) / 2 ^ p) 1 = ((k / 2 ^ p % 2 : Nat) : Int) := by
  have e : (k : Int) / 2 ^ p = ((k / 2 ^ p : Nat) : Int) := by rw [Int.natCast_ediv]; simp
  have h2 : k / 2 ^ p ≤ k := Nat.div_le_self _ _
  rw [e]
  exact and_one _ (by omega)

set_option maxHeartbeats 1000000 in
theorem binary_any (k d : Nat) (w : World) (hk : k ≤ 4096) (hd : d ≤ 12) :
    Calls Try.prog 33 #[.int .i64 (k : Int), .int .i64 (d : Int)] w fun e w' => e = .returned (.string (txt (bitsL d k))) ∧ Below w.heap.size w w' := by
  obtain ⟨i0, hi, hz0, hz1, hz2⟩ := info_parts byteI
  go_enter Try.func33, Try.ntmps33
  go_wp2_with (at_make; refine wpList_make_full _ rfl _ _ 67 rfl w.heap.size 5 i0 (.int .u8 0) 1 Try.underlying67 hi hz0 hz1 _ _ _ _ d rfl rfl rfl rfl (by rw [hz2]; omega) (by unfold maxLen; omega) (by simp) ?_)
  intro w2 hown hgrow
  have HM := hid (RowAt.made hown)
  have hb2 : Below w.heap.size w w2 := (Below.refl _ _).grown hgrow (by simp) (by simp)
  have hCl := BlkAt.lt HM.out
  clear hown hgrow hi hz0 hz1 hz2
  obtain ⟨C, hC⟩ : ∃ C, C = w.heap.size := ⟨_, rfl⟩
  have HC := hid (show w.heap.size ≤ C by omega)
  rw [← hC] at HM hCl
  rw [show (.slice (some ⟨w.heap.size, 0, none⟩) d d : Value) = .slice (some ⟨C, 0, none⟩) d d by rw [hC]]
  clear hC
  go_wp2_with fail
  go_loopw [12] (fun x wr => ∃ i : Nat, i ≤ d ∧ x = .int .i64 i ∧ Hid (RowAt wr C 5 (partL 0 (bitsL d k) d i)) ∧ Below w.heap.size w wr) (fun x _ => d - (intOf x).toNat)
  case atStart => exact ⟨0, by omega, rfl, hid (by rw [partL_zero]; exact HM.out), hb2⟩
  case round =>
    clear HM hb2 hCl
    obtain ⟨i, hin, rfl, HM, hb⟩ := hrel
    by_cases hlt : i < d
    · have cK := HM.out.cell (k := i) (by rw [partL_len]; exact hlt)
      have fK := BlkAt.frozen HM.out i
      generalize (partL 0 (bitsL d k) d i).getD i 0 = C0 at cK
      obtain ⟨p, hp⟩ : ∃ p, p = d - 1 - i := ⟨_, rfl⟩
      have hat := bits_at d k i hlt
      have hbit := bit_of k p hk
      rw [← hp] at hat
      have hset := partL_set 0 (bitsL d k) d i
      have i1 : (i : Int) < (d : Int) := by omega
      have p1 : IntKind.i64.wrap ((d : Int) - 1) = (d : Int) - 1 := IntWalk.i64_in _ (by omega)
      have p2 : IntKind.i64.wrap ((d : Int) - 1 - (i : Int)) = (p : Int) := by rw [IntWalk.i64_in _ (by omega)]; omega
      have p3 : (p : Int) ≤ 64 := by omega
      have hrow : ∀ c : UInt8, (bitsL d k).getD i 0 = c → RowAt (wr.setCell ⟨C, i, none⟩ (.int .u8 (c.toNat : Int))) C 5 (partL 0 (bitsL d k) d (i + 1)) ∧ Only C wr (wr.setCell ⟨C, i, none⟩ (.int .u8 (c.toNat : Int))) := fun c hc => by
        have h1 := RowAt.stored HM.out i c
        rw [← hc, hset] at h1
        rw [← hc]
        exact h1
      have HR := hid hrow
      have HP := hid hp
      clear hp hset hrow
      by_cases hb1 : k / 2 ^ p % 2 = 1
      · rw [if_pos hb1] at hat
        rw [hb1] at hbit
        have HS := hid (HR.out _ hat)
        clear hat HR hb1 HM
        go_wp2_with fail
        go_roundw
        case rel => exact ⟨i + 1, by omega, by go_num, hid HS.out.1, hb.trans (HS.out.2.below HC.out)⟩
        case measure => simp [intOf]; omega
      · rw [if_neg hb1] at hat
        have hb0 : k / 2 ^ p % 2 = 0 := by omega
        rw [hb0] at hbit
        have HS := hid (HR.out _ hat)
        clear hat HR hb1 hb0 HM
        go_wp2_with fail
        go_roundw
        case rel => exact ⟨i + 1, by omega, by go_num, hid HS.out.1, hb.trans (HS.out.2.below HC.out)⟩
        case measure => simp [intOf]; omega
    · obtain rfl : i = d := by omega
      have hm := HM.out
      rw [partL_all 0 (bitsL i k) i (bits_len i k)] at hm
      have hcv := fun c => conv_all (n := i) (c := c) hm (bits_len i k)
      clear HM hm
      go_wp2_with fail
      go_ret
      exact ⟨rfl, hb⟩
end Go.Proofs.Ytlfncplldppncaa

/-
  Plain facts: the codes of lengths as texts. No condition.
-/
namespace Go.Proofs.Ytlfncplldppncaa

/-- The codes as texts. -/
def codeT (l : List Nat) : List ByteArray := (codesL l).map txt
theorem codeT_len (E : List Nat) : (codeT E).length = E.length := by simp [codeT, codesL]
theorem codeT_at {E : List Nat} {i : Nat} (hi : i < E.length) : wat (codeT E) i = txt (codeL E i) := by
  have h1 : i < (codesL E).length := by rw [codesL_len]; exact hi
  have h2 := codesL_at hi
  rw [List.getD_eq_getElem?_getD, List.getElem?_eq_getElem h1, Option.getD_some] at h2
  unfold wat codeT
  rw [List.getD_eq_getElem?_getD, List.getElem?_map, List.getElem?_eq_getElem h1, Option.map_some, Option.getD_some, h2]
/-- The codes of the places in a list, the others empty still. -/
def crow (E l : List Nat) : List ByteArray := (List.range E.length).map fun j => if l.contains j then txt (codeL E j) else ByteArray.empty
theorem crow_len (E l : List Nat) : (crow E l).length = E.length := by simp [crow]
theorem crow_nil (E : List Nat) : crow E [] = List.replicate E.length ByteArray.empty := by
  apply List.ext_getElem?
  intro j
  by_cases hj : j < E.length <;> simp [crow, hj]
theorem crow_set (E l : List Nat) (i : Nat) : (crow E l).set i (txt (codeL E i)) = crow E (l ++ [i]) := by
  apply List.ext_getElem?
  intro j
  by_cases hj : j < E.length
  · by_cases e : i = j
    · subst e; simp [crow, hj]
    · have e2 : ¬ j = i := fun h => e h.symm
      simp [crow, hj, e, e2]
  · rw [List.getElem?_eq_none (by rw [List.length_set, crow_len]; omega), List.getElem?_eq_none (by rw [crow_len]; omega)]
theorem crow_all {E o : List Nat} (h : ∀ j, j < E.length → j ∈ o) : crow E o = codeT E := by
  unfold crow codeT codesL
  rw [List.map_map]
  refine List.map_congr_left fun j hj => ?_
  simp [h j (List.mem_range.1 hj)]
end Go.Proofs.Ytlfncplldppncaa
