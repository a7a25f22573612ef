/-
  Plain mathematics of palindromes, without a program: the longest one around each middle, what a known one tells of later ones, the longest of all, palindromes from the end, borders of palindromes, and that a text has no more different ones than signs. No condition.
-/
import Derived.Test.YtaodocdddfkglaaBorder
namespace Go.Proofs.Ytaodocdddfkglaa

/-- The signs from b up to e read the same from both ends. -/
def Pal (f : Nat → UInt8) (b e : Nat) : Prop := ∀ x y, b ≤ x → x < e → b ≤ y → y < e → x + y + 1 = b + e → f x = f y

theorem pal_short {f : Nat → UInt8} {b e : Nat} (h : e ≤ b + 1) : Pal f b e := fun x y h1 h2 h3 h4 _ => by
  obtain rfl : x = y := by omega
  rfl
theorem pal_in {f : Nat → UInt8} {b e b' e' : Nat} (h : Pal f b e) (hb : b ≤ b') (hc : b' + e' = b + e) : Pal f b' e' := fun x y h1 h2 h3 h4 h5 =>
  h x y (by omega) (by omega) (by omega) (by omega) (by omega)
theorem pal_out {f : Nat → UInt8} {b e : Nat} (h : Pal f (b + 1) e) (he : f b = f e) : Pal f b (e + 1) := by
  intro x y h1 h2 h3 h4 h5
  by_cases hx : x = b
  · obtain rfl : y = e := by omega
    rw [hx, he]
  · by_cases hy : y = b
    · obtain rfl : x = e := by omega
      rw [hy, he]
    · exact h x y (by omega) (by omega) (by omega) (by omega) (by omega)
theorem pal_ends {f : Nat → UInt8} {b e : Nat} (h : Pal f b (e + 1)) (hb : b ≤ e) : f b = f e := h b e (by omega) (by omega) (by omega) (by omega) (by omega)
/-- By one half of the comparisons that the definition asks. -/
theorem pal_of {f : Nat → UInt8} {n : Nat} (h : ∀ x, x < n → f x = f (n - 1 - x)) : Pal f 0 n := fun x y _ h2 _ h4 h5 => by
  rw [h x h2]; congr 1; omega
theorem pal_congr {f g : Nat → UInt8} {b e n : Nat} (h : ∀ i, i < n → g i = f (b + i)) (hn : n = e - b) (hb : b ≤ e) : Pal g 0 n ↔ Pal f b e := by
  subst hn
  constructor
  · intro hp x y h1 h2 h3 h4 h5
    have := hp (x - b) (y - b) (by omega) (by omega) (by omega) (by omega) (by omega)
    rw [h _ (by omega), h _ (by omega)] at this
    rwa [show b + (x - b) = x by omega, show b + (y - b) = y by omega] at this
  · intro hp x y h1 h2 h3 h4 h5
    rw [h _ (by omega), h _ (by omega)]
    exact hp _ _ (by omega) (by omega) (by omega) (by omega) (by omega)

/-- From b and e on outwards, as far as the signs are the same. -/
def grow (f : Nat → UInt8) (n : Nat) : Nat → Nat → Nat
  | 0, e => e
  | b + 1, e => if e < n ∧ f b = f e then grow f n b (e + 1) else e - (b + 1)
/-- The length of the longest palindrome at middle c: 2i+1 is sign i, 2i is ahead of it. -/
def wid (f : Nat → UInt8) (n c : Nat) : Nat := grow f n (c / 2) ((c + 1) / 2)

/-- A palindrome that cannot be made longer. -/
def Top (f : Nat → UInt8) (n b e : Nat) : Prop := b ≤ e ∧ e ≤ n ∧ Pal f b e ∧ (b = 0 ∨ e = n ∨ f (b - 1) ≠ f e)
theorem grow_top {f : Nat → UInt8} {n : Nat} (b : Nat) : ∀ e, b ≤ e → e ≤ n → Pal f b e → ∃ b' e', b' + e' = b + e ∧ grow f n b e = e' - b' ∧ Top f n b' e' := by
  induction b with
  | zero => intro e _ he hp; exact ⟨0, e, rfl, rfl, by omega, he, hp, .inl rfl⟩
  | succ b ih =>
    intro e hb he hp
    unfold grow
    split
    · rename_i h
      obtain ⟨b', e', h1, h2, h3⟩ := ih (e + 1) (by omega) (by omega) (pal_out hp h.2)
      exact ⟨b', e', by omega, h2, h3⟩
    · rename_i h
      refine ⟨b + 1, e, rfl, rfl, hb, he, hp, ?_⟩
      by_cases hn : e = n
      · exact .inr (.inl hn)
      · exact .inr (.inr fun h' => h ⟨by omega, h'⟩)
theorem wid_top (f : Nat → UInt8) {n c : Nat} (h : c ≤ 2 * n) : ∃ b e, b + e = c ∧ wid f n c = e - b ∧ Top f n b e := by
  obtain ⟨b, e, h1, h2, h3⟩ := grow_top (f := f) (n := n) (c / 2) ((c + 1) / 2) (by omega) (by omega) (pal_short (by omega))
  exact ⟨b, e, by omega, h2, h3⟩
theorem top_most {f : Nat → UInt8} {n b e b' e' : Nat} (h : Top f n b e) (hc : b' + e' = b + e) (hn : e' ≤ n) (hp : Pal f b' e') (hb : b' ≤ e') : e' - b' ≤ e - b := by
  obtain ⟨h1, h2, h3, h4⟩ := h
  rcases Nat.lt_or_ge e e' with hlt | hge
  · rcases h4 with h4 | h4 | h4
    · omega
    · omega
    · exact absurd (hp (b - 1) e (by omega) (by omega) (by omega) (by omega) (by omega)) h4
  · omega
theorem wid_most {f : Nat → UInt8} {n b e : Nat} (hb : b ≤ e) (hn : e ≤ n) (hp : Pal f b e) : e - b ≤ wid f n (b + e) := by
  obtain ⟨b', e', h1, h2, h3⟩ := wid_top f (n := n) (c := b + e) (by omega)
  rw [h2]
  exact top_most h3 (by omega) hn hp hb
theorem wid_stop {f : Nat → UInt8} {n b e : Nat} (h : Top f n b e) : wid f n (b + e) = e - b := by
  have hb := h.1
  have hn := h.2.1
  obtain ⟨b', e', h1, h2, h3⟩ := wid_top f (n := n) (c := b + e) (by omega)
  have := top_most h (b' := b') (e' := e') (by omega) h3.2.1 h3.2.2.1 h3.1
  have := wid_most (f := f) hb hn h.2.2.1
  omega
theorem wid_zero (f : Nat → UInt8) (n : Nat) : wid f n 0 = 0 := rfl
/-- In numbers: the longest one at c begins at (c - wid)/2 and ends ahead of (c + wid)/2. -/
theorem wid_pal (f : Nat → UInt8) {n c : Nat} (h : c ≤ 2 * n) : wid f n c ≤ c ∧ c + wid f n c ≤ 2 * n ∧ wid f n c % 2 = c % 2 ∧ Pal f ((c - wid f n c) / 2) ((c + wid f n c) / 2) := by
  obtain ⟨b, e, h1, h2, h3, h4, h5, _⟩ := wid_top f h
  rw [h2]
  refine ⟨by omega, by omega, by omega, ?_⟩
  rw [show (c - (e - b)) / 2 = b by omega, show (c + (e - b)) / 2 = e by omega]
  exact h5

/-- A palindrome at c, its parts written out: what the search knows ahead of its comparisons. -/
def Kp (f : Nat → UInt8) (n c m : Nat) : Prop := ∃ b e, b + e = c ∧ b ≤ e ∧ e ≤ n ∧ m = e - b ∧ Pal f b e
theorem kp_alone (f : Nat → UInt8) {n c : Nat} (h : c ≤ 2 * n) : Kp f n c (c % 2) :=
  ⟨c / 2, (c + 1) / 2, by omega, by omega, by omega, by omega, pal_short (by omega)⟩
/-- What the image tells. -/
theorem kp_image {f : Nat → UInt8} {n c m : Nat} (hm : m < c) (hn : m ≤ 2 * n) (hc : c < m + wid f n m) : Kp f n c (min (wid f n (2 * m - c)) (m + wid f n m - c)) := by
  obtain ⟨b, e, h1, h2, h3, h4, h5, _⟩ := wid_top f hn
  obtain ⟨b1, e1, g1, g2, g3, g4, g5, _⟩ := wid_top f (n := n) (c := 2 * m - c) (by omega)
  rw [h2] at hc
  rw [h2, g2]
  by_cases hlt : e1 - b1 ≤ m + (e - b) - c
  · refine ⟨m - e1, m - b1, by omega, by omega, by omega, by omega, ?_⟩
    intro x y k1 k2 k3 k4 k5
    rw [h5 x (m - 1 - x) (by omega) (by omega) (by omega) (by omega) (by omega), h5 y (m - 1 - y) (by omega) (by omega) (by omega) (by omega) (by omega)]
    exact g5 _ _ (by omega) (by omega) (by omega) (by omega) (by omega)
  · refine ⟨c - e, e, by omega, by omega, by omega, by omega, ?_⟩
    intro x y k1 k2 k3 k4 k5
    rw [h5 x (m - 1 - x) (by omega) (by omega) (by omega) (by omega) (by omega), h5 y (m - 1 - y) (by omega) (by omega) (by omega) (by omega) (by omega)]
    exact g5 _ _ (by omega) (by omega) (by omega) (by omega) (by omega)

/-- How many palindromes of odd length have sign i in their middle; of even length, the place ahead of it. -/
def oddN (f : Nat → UInt8) (n i : Nat) : Nat := (wid f n (2 * i + 1) + 1) / 2
def evenN (f : Nat → UInt8) (n i : Nat) : Nat := wid f n (2 * i) / 2
theorem odd_iff (f : Nat → UInt8) {n i k : Nat} (h : i < n) : k < oddN f n i ↔ k ≤ i ∧ i + k + 1 ≤ n ∧ Pal f (i - k) (i + k + 1) := by
  obtain ⟨b, e, h1, h2, h3⟩ := wid_top f (n := n) (c := 2 * i + 1) (by omega)
  have g1 := h3.1
  have g2 := h3.2.1
  have g3 := h3.2.2.1
  unfold oddN
  rw [h2]
  constructor
  · intro hk
    exact ⟨by omega, by omega, pal_in g3 (by omega) (by omega)⟩
  · rintro ⟨k1, k2, k3⟩
    have := top_most h3 (b' := i - k) (e' := i + k + 1) (by omega) k2 k3 (by omega)
    omega
theorem even_iff (f : Nat → UInt8) {n i k : Nat} (h : i < n) : k < evenN f n i ↔ k + 1 ≤ i ∧ i + k + 1 ≤ n ∧ Pal f (i - k - 1) (i + k + 1) := by
  obtain ⟨b, e, h1, h2, h3⟩ := wid_top f (n := n) (c := 2 * i) (by omega)
  have g1 := h3.1
  have g2 := h3.2.1
  have g3 := h3.2.2.1
  unfold evenN
  rw [h2]
  constructor
  · intro hk
    exact ⟨by omega, by omega, pal_in g3 (by omega) (by omega)⟩
  · rintro ⟨k1, k2, k3⟩
    have := top_most h3 (b' := i - k - 1) (e' := i + k + 1) (by omega) k2 k3 (by omega)
    omega
theorem odd_bound (f : Nat → UInt8) {n i : Nat} (h : i < n) : 1 ≤ oddN f n i ∧ oddN f n i ≤ i + 1 ∧ i + oddN f n i ≤ n := by
  obtain ⟨b, e, h1, h2, g1, g2, g3, _⟩ := wid_top f (n := n) (c := 2 * i + 1) (by omega)
  unfold oddN
  rw [h2]
  omega
theorem even_bound (f : Nat → UInt8) {n i : Nat} (h : i < n) : evenN f n i ≤ i ∧ i + evenN f n i ≤ n := by
  obtain ⟨b, e, h1, h2, g1, g2, g3, _⟩ := wid_top f (n := n) (c := 2 * i) (by omega)
  unfold evenN
  rw [h2]
  omega
def oddL (f : Nat → UInt8) (n k : Nat) : List Int := (List.range k).map fun i => ((oddN f n i : Nat) : Int)
def evenL (f : Nat → UInt8) (n k : Nat) : List Int := (List.range k).map fun i => ((evenN f n i : Nat) : Int)
theorem oddL_len (f : Nat → UInt8) (n k : Nat) : (oddL f n k).length = k := by simp [oddL]
theorem evenL_len (f : Nat → UInt8) (n k : Nat) : (evenL f n k).length = k := by simp [evenL]
theorem oddL_get (f : Nat → UInt8) (n k i : Nat) (h : i < k) : (oddL f n k).getD i 0 = (oddN f n i : Nat) := by simp [oddL, List.getD_eq_getElem?_getD, h]
theorem evenL_get (f : Nat → UInt8) (n k i : Nat) (h : i < k) : (evenL f n k).getD i 0 = (evenN f n i : Nat) := by simp [evenL, List.getD_eq_getElem?_getD, h]
theorem oddL_succ (f : Nat → UInt8) (n k : Nat) : oddL f n (k + 1) = oddL f n k ++ [((oddN f n k : Nat) : Int)] := by simp [oddL, List.range_succ]
theorem evenL_succ (f : Nat → UInt8) (n k : Nat) : evenL f n (k + 1) = evenL f n k ++ [((evenN f n k : Nat) : Int)] := by simp [evenL, List.range_succ]

/-- From the end: the same palindromes, the other way round. -/
theorem wid_back {f g : Nat → UInt8} {n c : Nat} (h : ∀ i, i < n → g i = f (n - 1 - i)) (hc : c ≤ 2 * n) : wid g n (2 * n - c) = wid f n c := by
  obtain ⟨b, e, h1, h2, h3, h4, h5, h6⟩ := wid_top f hc
  have ht : Top g n (n - e) (n - b) := by
    refine ⟨by omega, by omega, ?_, ?_⟩
    · intro x y k1 k2 k3 k4 k5
      rw [h x (by omega), h y (by omega)]
      exact h5 _ _ (by omega) (by omega) (by omega) (by omega) (by omega)
    · by_cases hb : b = 0
      · exact .inr (.inl (by omega))
      · by_cases he : e = n
        · exact .inl (by omega)
        · refine .inr (.inr ?_)
          rw [h (n - e - 1) (by omega), h (n - b) (by omega), show n - 1 - (n - e - 1) = e by omega, show n - 1 - (n - b) = b - 1 by omega]
          rcases h6 with h6 | h6 | h6
          · exact absurd h6 hb
          · exact absurd h6 he
          · exact fun e' => h6 e'.symm
  have := wid_stop ht
  rw [show n - e + (n - b) = 2 * n - c by omega] at this
  rw [this, h2]; omega
theorem odd_back {f g : Nat → UInt8} {n : Nat} (h : ∀ i, i < n → g i = f (n - 1 - i)) : (oddL f n n).reverse = oddL g n n := by
  apply List.ext_getElem?
  intro i
  by_cases hi : i < n
  · rw [List.getElem?_reverse (by rw [oddL_len]; exact hi), oddL_len]
    have h1 : n - 1 - i < n := by omega
    simp only [oddL, List.getElem?_map, List.getElem?_range hi, List.getElem?_range h1, Option.map_some, Option.some.injEq]
    unfold oddN
    rw [← wid_back h (c := 2 * (n - 1 - i) + 1) (by omega), show 2 * n - (2 * (n - 1 - i) + 1) = 2 * i + 1 by omega]
  · rw [List.getElem?_eq_none (by rw [List.length_reverse, oddL_len]; omega), List.getElem?_eq_none (by rw [oddL_len]; omega)]
theorem even_back {f g : Nat → UInt8} {n i : Nat} (h : ∀ i, i < n → g i = f (n - 1 - i)) (hi : i ≤ n) : evenN g n (n - i) = evenN f n i := by
  unfold evenN
  rw [← wid_back h (c := 2 * i) (by omega), show 2 * n - 2 * i = 2 * (n - i) by omega]

/-- The longest palindrome of all, the first of several. -/
def Lgst (f : Nat → UInt8) (n at_ m : Nat) : Prop := at_ + m ≤ n ∧ Pal f at_ (at_ + m) ∧ (m = 0 → at_ = 0) ∧ ∀ b e, b < e → e ≤ n → Pal f b e → e - b ≤ m ∧ (e - b = m → at_ ≤ b)
theorem lgst_one {f : Nat → UInt8} {n a m a' m' : Nat} (h : Lgst f n a m) (h' : Lgst f n a' m') : a = a' ∧ m = m' := by
  obtain ⟨h1, h2, h3, h4⟩ := h
  obtain ⟨g1, g2, g3, g4⟩ := h'
  by_cases hm : m = 0
  · by_cases hm' : m' = 0
    · exact ⟨by rw [h3 hm, g3 hm'], by omega⟩
    · have := (h4 a' (a' + m') (by omega) g1 g2).1
      omega
  · have k1 := g4 a (a + m) (by omega) h1 h2
    by_cases hm' : m' = 0
    · omega
    · have k2 := h4 a' (a' + m') (by omega) g1 g2
      have e : m = m' := by omega
      have := k1.2 (by omega)
      have := k2.2 (by omega)
      omega
theorem lgst_pos {f : Nat → UInt8} {n a m : Nat} (h : Lgst f n a m) (hn : 0 < n) : 0 < m := by
  have := (h.2.2.2 0 1 (by omega) (by omega) (pal_short (by omega))).1
  omega
theorem lgst_whole {f : Nat → UInt8} {n : Nat} (h : Pal f 0 n) : Lgst f n 0 n :=
  ⟨by omega, by rwa [Nat.zero_add], fun _ => rfl, fun b e h1 h2 _ => ⟨by omega, fun _ => by omega⟩⟩
/-- By all parts in their order: those that begin ahead of i, and those from i that end ahead of k. -/
def Upto (f : Nat → UInt8) (n i k at_ m : Nat) : Prop := at_ + m ≤ n ∧ Pal f at_ (at_ + m) ∧ (m = 0 → at_ = 0) ∧ at_ ≤ i ∧
  ∀ b e, b < e → e ≤ n → (b < i ∨ (b = i ∧ e < k)) → Pal f b e → e - b ≤ m ∧ (e - b = m → at_ ≤ b)
theorem upto_start (f : Nat → UInt8) (n : Nat) : Upto f n 0 1 0 0 := ⟨by omega, pal_short (by omega), fun _ => rfl, by omega, fun b e h1 _ h3 _ => by omega⟩
theorem upto_yes {f : Nat → UInt8} {n i k a m : Nat} (h : Upto f n i k a m) (hk : i < k) (hn : k ≤ n) (hm : m < k - i) (hp : Pal f i k) : Upto f n i (k + 1) i (k - i) := by
  obtain ⟨h1, h2, h3, h4, h5⟩ := h
  refine ⟨by omega, by rwa [show i + (k - i) = k by omega], by omega, by omega, fun b e g1 g2 g3 g4 => ?_⟩
  by_cases hbe : b = i ∧ e = k
  · omega
  · have := h5 b e g1 g2 (by omega) g4
    omega
theorem upto_no {f : Nat → UInt8} {n i k a m : Nat} (h : Upto f n i k a m) (hm : Pal f i k → k - i ≤ m) : Upto f n i (k + 1) a m := by
  obtain ⟨h1, h2, h3, h4, h5⟩ := h
  refine ⟨h1, h2, h3, h4, fun b e g1 g2 g3 g4 => ?_⟩
  by_cases hbe : b = i ∧ e = k
  · obtain ⟨rfl, rfl⟩ := hbe
    exact ⟨hm g4, fun _ => h4⟩
  · exact h5 b e g1 g2 (by omega) g4
theorem upto_next {f : Nat → UInt8} {n i k a m : Nat} (h : Upto f n i k a m) (hk : n < k) : Upto f n (i + 1) (i + 1 + 1) a m := by
  obtain ⟨h1, h2, h3, h4, h5⟩ := h
  exact ⟨h1, h2, h3, by omega, fun b e g1 g2 g3 g4 => h5 b e g1 g2 (by omega) g4⟩
theorem upto_end {f : Nat → UInt8} {n i k a m : Nat} (h : Upto f n i k a m) (hi : n ≤ i) : Lgst f n a m :=
  ⟨h.1, h.2.1, h.2.2.1, fun b e g1 g2 g4 => h.2.2.2.2 b e g1 g2 (by omega) g4⟩

/-- What lies at middle c of the table. -/
def widT (f : Nat → UInt8) (n c : Nat) : Nat := if c ≤ 2 * n then wid f n c else 0
/-- By the middles ahead of c. -/
def Mid (f : Nat → UInt8) (n c at_ m : Nat) : Prop := at_ + m ≤ n ∧ Pal f at_ (at_ + m) ∧ (m = 0 → at_ = 0) ∧ 2 * at_ + m ≤ c ∧ ∀ d, d < c → widT f n d ≤ m ∧ (0 < m → widT f n d = m → 2 * at_ + m ≤ d)
theorem mid_start (f : Nat → UInt8) (n : Nat) : Mid f n 0 0 0 := ⟨by omega, pal_short (by omega), fun _ => rfl, by omega, fun d hd => absurd hd (by omega)⟩
theorem mid_yes {f : Nat → UInt8} {n c a m : Nat} (h : Mid f n c a m) (hm : m < widT f n c) : Mid f n (c + 1) ((c - widT f n c) / 2) (widT f n c) := by
  obtain ⟨_, _, _, _, h4⟩ := h
  have hc : c ≤ 2 * n := by
    rcases Nat.lt_or_ge (2 * n) c with h' | h'
    · rw [widT, if_neg (by omega)] at hm; omega
    · exact h'
  have he : widT f n c = wid f n c := by rw [widT, if_pos hc]
  obtain ⟨g1, g2, g3, g4⟩ := wid_pal f hc
  rw [← he] at g1 g2 g3 g4
  generalize hz : widT f n c = z at hm g1 g2 g3 g4 he
  refine ⟨by omega, by rwa [show (c - z) / 2 + z = (c + z) / 2 by omega], by omega, by omega, fun d hd => ?_⟩
  by_cases hdc : d = c
  · subst hdc
    rw [hz]
    omega
  · have := (h4 d (by omega)).1
    omega
theorem mid_no {f : Nat → UInt8} {n c a m : Nat} (h : Mid f n c a m) (hm : ¬ m < widT f n c) : Mid f n (c + 1) a m := by
  obtain ⟨h1, h2, h3, h5, h4⟩ := h
  refine ⟨h1, h2, h3, by omega, fun d hd => ?_⟩
  by_cases hdc : d = c
  · subst hdc
    exact ⟨by omega, fun _ _ => h5⟩
  · exact h4 d (by omega)
theorem mid_le {f : Nat → UInt8} {n c a m : Nat} (h : Mid f n c a m) : m ≤ n := by have := h.1; omega
theorem widT_le (f : Nat → UInt8) (n c : Nat) : widT f n c ≤ n ∧ widT f n c ≤ c := by
  unfold widT
  split
  · rename_i h
    obtain ⟨g1, g2, _⟩ := wid_pal f h
    omega
  · omega
theorem mid_end {f : Nat → UInt8} {n c a m : Nat} (h : Mid f n c a m) (hc : 2 * n < c) : Lgst f n a m := by
  obtain ⟨h1, h2, h3, _, h4⟩ := h
  refine ⟨h1, h2, h3, fun b e g1 g2 g3 => ?_⟩
  have k1 := wid_most (f := f) (by omega) g2 g3
  have k2 := h4 (b + e) (by omega)
  rw [show widT f n (b + e) = wid f n (b + e) by rw [widT, if_pos (by omega)]] at k2
  refine ⟨by omega, fun e' => ?_⟩
  have := k2.2 (by omega) (by omega)
  omega

/-- A border of a palindrome is one. -/
theorem pal_border {f : Nat → UInt8} {m k : Nat} (h : Pal f 0 m) (hb : Bd f m k) : Pal f 0 k := fun x y h1 h2 h3 h4 h5 => by
  have hk := hb.1
  rw [h x (m - 1 - x) (by omega) (by omega) (by omega) (by omega) (by omega), hb.2 y (by omega)]
  congr 1; omega

/-- The signs from b up to e, as a word. -/
def wrd (f : Nat → UInt8) (b e : Nat) : List UInt8 := (List.range (e - b)).map fun i => f (b + i)
theorem wrd_eq {f : Nat → UInt8} {b e b' e' : Nat} (hn : e - b = e' - b') (h : ∀ i, i < e - b → f (b + i) = f (b' + i)) : wrd f b e = wrd f b' e' := by
  unfold wrd
  rw [← hn]
  exact List.map_congr_left fun i hi => h i (by simpa using hi)
/-- A word that is a palindrome within the first n signs. -/
def Pw (f : Nat → UInt8) (n : Nat) (t : List UInt8) : Prop := ∃ b e, b < e ∧ e ≤ n ∧ Pal f b e ∧ t = wrd f b e
/-- Only one of them is new with a further sign: a shorter one stands ahead, in the longer one. -/
theorem pw_new {f : Nat → UInt8} {n b b' : Nat} (hb : b < b') (hn : b' < n + 1) (h : Pal f b (n + 1)) (h' : Pal f b' (n + 1)) : Pw f n (wrd f b' (n + 1)) := by
  refine ⟨b, b + (n + 1 - b'), by omega, by omega, ?_, ?_⟩
  · intro x y k1 k2 k3 k4 k5
    rw [h x (b + n - x) (by omega) (by omega) (by omega) (by omega) (by omega), h y (b + n - y) (by omega) (by omega) (by omega) (by omega) (by omega)]
    exact h' _ _ (by omega) (by omega) (by omega) (by omega) (by omega)
  · refine wrd_eq (by omega) fun i hi => ?_
    rw [h (b + i) (n - i) (by omega) (by omega) (by omega) (by omega) (by omega)]
    exact h' _ _ (by omega) (by omega) (by omega) (by omega) (by omega)
theorem pw_one {f : Nat → UInt8} {n : Nat} {t t' : List UInt8} (h : Pw f (n + 1) t) (h' : Pw f (n + 1) t') (hn : ¬ Pw f n t) (hn' : ¬ Pw f n t') : t = t' := by
  obtain ⟨b, e, h1, h2, h3, rfl⟩ := h
  obtain ⟨b', e', g1, g2, g3, rfl⟩ := h'
  have he : e = n + 1 := by
    rcases Nat.lt_or_ge e (n + 1) with hlt | hge
    · exact absurd ⟨b, e, h1, by omega, h3, rfl⟩ hn
    · omega
  have he' : e' = n + 1 := by
    rcases Nat.lt_or_ge e' (n + 1) with hlt | hge
    · exact absurd ⟨b', e', g1, by omega, g3, rfl⟩ hn'
    · omega
  subst he he'
  rcases Nat.lt_trichotomy b b' with hlt | heq | hgt
  · exact absurd (pw_new hlt g1 h3 g3) hn'
  · rw [heq]
  · exact absurd (pw_new hgt h1 g3 h3) hn
/-- No more different palindromes than signs. -/
theorem pw_few {f : Nat → UInt8} {n : Nat} : ∀ l : List (List UInt8), l.Nodup → (∀ t ∈ l, Pw f n t) → l.length ≤ n := by
  induction n with
  | zero =>
    intro l _ h
    cases l with
    | nil => exact Nat.le_refl _
    | cons t l =>
      obtain ⟨b, e, h1, h2, _⟩ := h t (by simp)
      omega
  | succ n ih =>
    intro l hn h
    by_cases hx : ∃ t, t ∈ l ∧ ¬ Pw f n t
    · obtain ⟨t, ht, hnt⟩ := hx
      have := ih (l.erase t) (hn.erase t) fun u hu => by
        obtain ⟨hne, hul⟩ := (hn.mem_erase_iff).1 hu
        exact Classical.byContradiction fun hnu => hne (pw_one (h u hul) (h t ht) hnu hnt)
      rw [List.length_erase_of_mem ht] at this
      omega
    · have := ih l hn fun u hu => Classical.byContradiction fun hnu => hx ⟨u, hu, hnu⟩
      omega
end Go.Proofs.Ytaodocdddfkglaa
