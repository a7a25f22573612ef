/-
  Plain mathematics of rotations, without a program: a text gone round and round (cy), its periods (Pr) and the least of them (Rt: the primitive root), the first least rotation (Lst) and the search for it (Sr), the root from the longest border, texts that commute, how many rotations differ. No condition.
-/
import Derived.Test.YtkpjflfhegejpaaStr
import Derived.Test.YtkpjflfhegejpaaJoin
namespace Go.Proofs.Ytkpjflfhegejpaa

theorem least_ex (p : Nat → Prop) : ∀ n, p n → ∃ m, p m ∧ ∀ j, p j → m ≤ j := by
  intro n
  induction n using Nat.strongRecOn with
  | _ n ih =>
    intro h
    by_cases hx : ∃ j, j < n ∧ p j
    · obtain ⟨j, h1, h2⟩ := hx
      exact ih j h1 h2
    · exact ⟨n, h, fun j hj => Nat.le_of_not_lt fun hl => hx ⟨j, hl, hj⟩⟩

/-- k is a period of the whole endless row. -/
def Pr (g : Nat → UInt8) (k : Nat) : Prop := ∀ x, g (x + k) = g x
theorem pr_add {g : Nat → UInt8} {a b : Nat} (h : Pr g a) (h' : Pr g b) : Pr g (a + b) := fun x => by rw [← Nat.add_assoc, h', h]
theorem pr_mul {g : Nat → UInt8} {a : Nat} (h : Pr g a) (m : Nat) : Pr g (a * m) := by
  induction m with
  | zero => exact fun x => rfl
  | succ m ih => rw [Nat.mul_succ]; exact pr_add ih h
theorem pr_dvd {g : Nat → UInt8} {a b : Nat} (h : Pr g a) (hd : a ∣ b) : Pr g b := by
  obtain ⟨m, rfl⟩ := hd; exact pr_mul h m
theorem pr_at {g : Nat → UInt8} {a : Nat} (h : Pr g a) (x : Nat) : g (x % a) = g x := by
  have := pr_mul h (x / a) (x % a)
  rw [Nat.mod_add_div] at this
  exact this.symm
theorem pr_sub {g : Nat → UInt8} {a b : Nat} (h : Pr g a) (h' : Pr g b) (hab : a ≤ b) : Pr g (b - a) := fun x => by
  rw [← h (x + (b - a)), show x + (b - a) + a = x + b by omega, h']
theorem pr_mod {g : Nat → UInt8} {a b : Nat} (h : Pr g a) (h' : Pr g b) : Pr g (b % a) := by
  have e := Nat.mod_add_div b a
  have := pr_sub (pr_mul h (b / a)) h' (by omega)
  rwa [show b - a * (b / a) = b % a by omega] at this
theorem pr_shift {g : Nat → UInt8} {k : Nat} (i : Nat) (h : Pr g k) : Pr (fun x => g (i + x)) k := fun x => by
  show g (i + (x + k)) = g (i + x)
  rw [← Nat.add_assoc, h]
/-- Where a row has a period at all, it may be shifted back. -/
theorem pr_unshift {g : Nat → UInt8} {n k i : Nat} (hn : Pr g n) (hi : i ≤ n) (h : Pr (fun x => g (i + x)) k) : Pr g k := fun x => by
  have := h (x + (n - i))
  simp only at this
  rw [show i + (x + (n - i) + k) = x + k + n by omega, show i + (x + (n - i)) = x + n by omega, hn, hn] at this
  exact this

/-- The least period: the length of the primitive root of n signs. -/
def Rt (g : Nat → UInt8) (n r : Nat) : Prop := (n = 0 ∧ r = 0) ∨ (0 < n ∧ 0 < r ∧ Pr g r ∧ ∀ j, 0 < j → Pr g j → r ≤ j)
theorem rt_ex {g : Nat → UInt8} {n : Nat} (hn : 0 < n) (h : Pr g n) : ∃ r, Rt g n r := by
  obtain ⟨m, ⟨h1, h2⟩, h3⟩ := least_ex (fun k => 0 < k ∧ Pr g k) n ⟨hn, h⟩
  exact ⟨m, .inr ⟨hn, h1, h2, fun j a b => h3 j ⟨a, b⟩⟩⟩
theorem rt_pos {g : Nat → UInt8} {n r : Nat} (hn : 0 < n) (h : Rt g n r) : 0 < r := by
  rcases h with h | h
  · omega
  · exact h.2.1
theorem rt_pr {g : Nat → UInt8} {n r : Nat} (hn : 0 < n) (h : Rt g n r) : Pr g r := by
  rcases h with h | h
  · omega
  · exact h.2.2.1
theorem rt_min {g : Nat → UInt8} {n r j : Nat} (hn : 0 < n) (h : Rt g n r) (hj : 0 < j) (hp : Pr g j) : r ≤ j := by
  rcases h with h | h
  · omega
  · exact h.2.2.2 j hj hp
theorem rt_iff {g : Nat → UInt8} {n r : Nat} (hn : 0 < n) (h : Rt g n r) (k : Nat) : Pr g k ↔ r ∣ k := by
  have h1 := rt_pos hn h
  constructor
  · intro hk
    have hm := pr_mod (rt_pr hn h) hk
    have hl := Nat.mod_lt k h1
    rcases Nat.eq_zero_or_pos (k % r) with e | e
    · exact Nat.dvd_of_mod_eq_zero e
    · have := rt_min hn h e hm; omega
  · exact pr_dvd (rt_pr hn h)
theorem rt_one {g : Nat → UInt8} {n r r' : Nat} (h : Rt g n r) (h' : Rt g n r') : r = r' := by
  rcases Nat.eq_zero_or_pos n with e | e
  · rcases h with h | h
    · rcases h' with h' | h'
      · omega
      · omega
    · omega
  · exact Nat.le_antisymm (rt_min e h (rt_pos e h') (rt_pr e h')) (rt_min e h' (rt_pos e h) (rt_pr e h))
theorem rt_le {g : Nat → UInt8} {n r : Nat} (hp : Pr g n) (h : Rt g n r) : r ≤ n := by
  rcases Nat.eq_zero_or_pos n with e | e
  · rcases h with h | h <;> omega
  · exact rt_min e h e hp
theorem rt_shift {g : Nat → UInt8} {n r i : Nat} (hp : Pr g n) (hi : i ≤ n) (h : Rt g n r) : Rt (fun x => g (i + x)) n r := by
  rcases h with h | ⟨h1, h2, h3, h4⟩
  · exact .inl h
  · exact .inr ⟨h1, h2, pr_shift i h3, fun j a b => h4 j a (pr_unshift hp hi b)⟩

/-- A text gone round and round. -/
def cy (s : ByteArray) (x : Nat) : UInt8 := sg s (x % s.size)
theorem cy_pr (s : ByteArray) : Pr (cy s) s.size := fun x => by unfold cy; rw [Nat.add_mod_right]
theorem cy_at (s : ByteArray) (x : Nat) (h : x < s.size) : cy s x = sg s x := by unfold cy; rw [Nat.mod_eq_of_lt h]
theorem text_cy {a b : ByteArray} (hs : a.size = b.size) (h : ∀ x, cy a x = cy b x) : a = b :=
  text_eq a b hs fun i hi => by rw [← cy_at a i hi, h i, cy_at b i (by omega)]

/-- The rotation at a place. -/
def turnS (s : ByteArray) (i : Nat) : ByteArray := s.extract i s.size ++ s.extract 0 i
theorem turn_size (s : ByteArray) (i : Nat) (h : i ≤ s.size) : (turnS s i).size = s.size := by
  unfold turnS; rw [size_join, ByteArray.size_extract, ByteArray.size_extract]; omega
theorem turn_sg (s : ByteArray) (i j : Nat) (h : i ≤ s.size) (hj : j < s.size) : sg (turnS s i) j = cy s (i + j) := by
  have e1 : (s.extract i s.size).size = s.size - i := by rw [ByteArray.size_extract]; omega
  have e2 : (s.extract 0 i).size = i := by rw [ByteArray.size_extract]; omega
  unfold turnS cy
  by_cases hl : i + j < s.size
  · rw [Nat.mod_eq_of_lt hl, sg_left _ _ _ (by omega), sg_cut _ _ _ _ (by omega) (by omega)]
  · have e3 : (i + j) % s.size = i + j - s.size := by rw [Nat.mod_eq_sub_mod (by omega), Nat.mod_eq_of_lt (by omega)]
    have := sg_right (s.extract i s.size) (s.extract 0 i) (i + j - s.size) (by omega)
    rw [e1, show s.size - i + (i + j - s.size) = j by omega] at this
    rw [e3, this, sg_cut _ _ _ _ (by omega) (by omega), Nat.zero_add]
theorem turn_cy (s : ByteArray) (i : Nat) (h : i ≤ s.size) (hn : 0 < s.size) (x : Nat) : cy (turnS s i) x = cy s (i + x) := by
  have := turn_sg s i (x % s.size) h (Nat.mod_lt _ hn)
  unfold cy at *
  rw [turn_size s i h, this, Nat.add_mod_mod]
theorem turn_zero (s : ByteArray) : turnS s 0 = s := by
  refine text_eq _ _ (turn_size s 0 (by omega)) fun i hi => ?_
  rw [turn_size s 0 (by omega)] at hi
  rw [turn_sg s 0 i (by omega) hi, Nat.zero_add, cy_at s i hi]
theorem turn_eq {s t : ByteArray} {i j : Nat} (hs : s.size = t.size) (hn : 0 < s.size) (hi : i ≤ s.size) (hj : j ≤ t.size) : turnS s i = turnS t j ↔ ∀ x, cy s (i + x) = cy t (j + x) := by
  constructor
  · intro e x
    rw [← turn_cy s i hi hn, ← turn_cy t j hj (by omega), e]
  · intro h
    refine text_cy (by rw [turn_size s i hi, turn_size t j hj, hs]) fun x => ?_
    rw [turn_cy s i hi hn, turn_cy t j hj (by omega), h]

/-- Of n signs, the one row is less than the other. -/
def Less (f g : Nat → UInt8) (n : Nat) : Prop := ∃ k, k < n ∧ (∀ l, l < k → f l = g l) ∧ f k < g k
theorem less_irr {f g : Nat → UInt8} {n : Nat} (h : Less f g n) (he : ∀ x, x < n → f x = g x) : False := by
  obtain ⟨k, h1, _, h3⟩ := h
  rw [he k h1] at h3
  exact absurd h3 (UInt8.lt_irrefl _)
theorem less_trans {f g h : Nat → UInt8} {n : Nat} (a : Less f g n) (b : Less g h n) : Less f h n := by
  obtain ⟨k, k1, k2, k3⟩ := a
  obtain ⟨m, m1, m2, m3⟩ := b
  rcases Nat.lt_trichotomy k m with e | e | e
  · exact ⟨k, k1, fun l hl => by rw [k2 l hl, m2 l (by omega)], by rw [← m2 k e]; exact k3⟩
  · subst e
    exact ⟨k, k1, fun l hl => by rw [k2 l hl, m2 l hl], UInt8.lt_trans k3 m3⟩
  · exact ⟨m, m1, fun l hl => by rw [k2 l (by omega), m2 l hl], by rw [k2 m e]; exact m3⟩
theorem less_tri (f g : Nat → UInt8) (n : Nat) : Less f g n ∨ Less g f n ∨ ∀ x, x < n → f x = g x := by
  induction n with
  | zero => exact .inr (.inr fun x hx => absurd hx (by omega))
  | succ n ih =>
    rcases ih with ⟨k, h1, h2⟩ | ⟨k, h1, h2⟩ | h
    · exact .inl ⟨k, by omega, h2⟩
    · exact .inr (.inl ⟨k, by omega, h2⟩)
    · by_cases e : f n = g n
      · exact .inr (.inr fun x hx => by
          by_cases hxn : x = n
          · subst hxn; exact e
          · exact h x (by omega))
      · rcases UInt8.lt_or_lt_of_ne e with hl | hl
        · exact .inl ⟨n, by omega, h, hl⟩
        · exact .inr (.inl ⟨n, by omega, fun l hl' => (h l hl').symm, hl⟩)
theorem less_left {f f' g : Nat → UInt8} {n : Nat} (he : ∀ x, x < n → f x = f' x) (h : Less f g n) : Less f' g n := by
  obtain ⟨k, h1, h2, h3⟩ := h
  exact ⟨k, h1, fun l hl => by rw [← he l (by omega), h2 l hl], by rw [← he k h1]; exact h3⟩
theorem less_right {f g g' : Nat → UInt8} {n : Nat} (he : ∀ x, x < n → g x = g' x) (h : Less f g n) : Less f g' n := by
  obtain ⟨k, h1, h2, h3⟩ := h
  exact ⟨k, h1, fun l hl => by rw [← he l (by omega), h2 l hl], by rw [← he k h1]; exact h3⟩

/-- The rotation at i is less than the one at j. -/
def Ls (g : Nat → UInt8) (n i j : Nat) : Prop := Less (fun x => g (i + x)) (fun x => g (j + x)) n
theorem ls_irr {g : Nat → UInt8} {n i : Nat} : ¬ Ls g n i i := fun h => less_irr h fun _ _ => rfl
theorem ls_mod {g : Nat → UInt8} {n i j : Nat} (hp : Pr g n) (h : Ls g n i j) : Ls g n (i % n) j :=
  less_left (fun x _ => by
    show g (i + x) = g (i % n + x)
    rw [← pr_at hp (i + x), ← pr_at hp (i % n + x), Nat.mod_add_mod]) h

/-- b is the first least rotation among the first m. -/
def LstTo (g : Nat → UInt8) (n m b : Nat) : Prop := b < m ∧ (∀ j, j < m → ¬ Ls g n j b) ∧ ∀ j, j < b → Ls g n b j
/-- b is the first least rotation (0 of no sign). -/
def Lst (g : Nat → UInt8) (n b : Nat) : Prop := b ≤ n - 1 ∧ (∀ j, j < n → ¬ Ls g n j b) ∧ ∀ j, j < b → Ls g n b j
theorem lstTo_one (g : Nat → UInt8) (n : Nat) : LstTo g n 1 0 := ⟨by omega, fun j hj => by
  rw [show j = 0 by omega]; exact ls_irr, fun j hj => absurd hj (by omega)⟩
theorem lstTo_yes {g : Nat → UInt8} {n m b : Nat} (h : LstTo g n m b) (hl : Ls g n m b) : LstTo g n (m + 1) m := by
  obtain ⟨h1, h2, h3⟩ := h
  refine ⟨by omega, fun j hj => ?_, fun j hj => ?_⟩
  · by_cases e : j = m
    · subst e; exact ls_irr
    · exact fun hjm => h2 j (by omega) (less_trans hjm hl)
  · rcases less_tri (fun x => g (b + x)) (fun x => g (j + x)) n with h | h | h
    · exact less_trans hl h
    · exact absurd h (h2 j hj)
    · exact less_right h hl
theorem lstTo_no {g : Nat → UInt8} {n m b : Nat} (h : LstTo g n m b) (hl : ¬ Ls g n m b) : LstTo g n (m + 1) b :=
  ⟨by have := h.1; omega, fun j hj => by
    by_cases e : j = m
    · subst e; exact hl
    · exact h.2.1 j (by omega), h.2.2⟩
theorem lstTo_end {g : Nat → UInt8} {n b : Nat} (h : LstTo g n n b) : Lst g n b := ⟨by have := h.1; omega, h.2⟩
theorem lst_none (g : Nat → UInt8) : Lst g 0 0 := ⟨by omega, fun j hj => absurd hj (by omega), fun j hj => absurd hj (by omega)⟩
theorem lstTo_ex (g : Nat → UInt8) (n m : Nat) : ∃ b, LstTo g n (m + 1) b := by
  induction m with
  | zero => exact ⟨0, lstTo_one g n⟩
  | succ m ih =>
    obtain ⟨b, h⟩ := ih
    by_cases hl : Ls g n (m + 1) b
    · exact ⟨_, lstTo_yes h hl⟩
    · exact ⟨_, lstTo_no h hl⟩
theorem lst_ex (g : Nat → UInt8) (n : Nat) : ∃ b, Lst g n b := by
  rcases n with _ | n
  · exact ⟨0, lst_none g⟩
  · obtain ⟨b, h⟩ := lstTo_ex g (n + 1) n
    exact ⟨b, lstTo_end h⟩
theorem lst_lt {g : Nat → UInt8} {n b : Nat} (hn : 0 < n) (h : Lst g n b) : b < n := by have := h.1; omega
theorem lst_le {g : Nat → UInt8} {n b : Nat} (h : Lst g n b) : b ≤ n := by have := h.1; omega
theorem lst_one {g : Nat → UInt8} {n b b' : Nat} (h : Lst g n b) (h' : Lst g n b') : b = b' := by
  have h1 := h.1
  have h2 := h'.1
  rcases Nat.lt_trichotomy b b' with e | e | e
  · exact absurd (h'.2.2 b e) (h.2.1 b' (by omega))
  · exact e
  · exact absurd (h.2.2 b' e) (h'.2.1 b (by omega))
/-- No rotation at all is less. -/
theorem lst_all {g : Nat → UInt8} {n b : Nat} (hn : 0 < n) (hp : Pr g n) (h : Lst g n b) (j : Nat) : ¬ Ls g n j b := fun hl => h.2.1 (j % n) (Nat.mod_lt _ hn) (ls_mod hp hl)

/-- The search's state: no place ahead of r is the answer, but b. -/
def Sr (g : Nat → UInt8) (n b r : Nat) : Prop := b < r ∧ b < n ∧ ∀ j, Lst g n j → j = b ∨ r ≤ j
theorem sr_start (g : Nat → UInt8) (n : Nat) (hn : 0 < n) : Sr g n 0 1 := ⟨by omega, hn, fun j _ => by omega⟩
theorem sr_end {g : Nat → UInt8} {n b r : Nat} (h : Sr g n b r) (hr : ¬ r < n) : Lst g n b := by
  obtain ⟨j, hj⟩ := lst_ex g n
  have := lst_lt (by have := h.2.1; omega) hj
  rcases h.2.2 j hj with e | e
  · exact e ▸ hj
  · omega
theorem sr_all {g : Nat → UInt8} {n b r : Nat} (hp : Pr g n) (h : Sr g n b r) (he : ∀ l, l < n → g (b + l) = g (r + l)) : Lst g n b := by
  obtain ⟨j, hj⟩ := lst_ex g n
  have hn : 0 < n := by have := h.2.1; omega
  rcases h.2.2 j hj with e | e
  · exact e ▸ hj
  · have h1 := h.1
    have hl := hj.2.2 (j - (r - b)) (by omega)
    refine absurd hl fun hl => less_irr hl fun x _ => ?_
    have e1 := he ((j - r + x) % n) (Nat.mod_lt _ hn)
    show g (j + x) = g (j - (r - b) + x)
    rw [← pr_at hp (b + _), ← pr_at hp (r + _), Nat.add_mod_mod, Nat.add_mod_mod, pr_at hp, pr_at hp] at e1
    rw [show j + x = r + (j - r + x) by omega, show j - (r - b) + x = b + (j - r + x) by omega, e1]
theorem sr_left {g : Nat → UInt8} {n b r k : Nat} (hp : Pr g n) (h : Sr g n b r) (hk : k < n) (he : ∀ l, l < k → g (b + l) = g (r + l)) (hl : g (b + k) < g (r + k)) : Sr g n b (r + k + 1) := by
  have h1 := h.1
  have h2 := h.2.1
  refine ⟨by omega, h2, fun j hj => ?_⟩
  rcases h.2.2 j hj with e | e
  · exact .inl e
  · refine .inr (Nat.le_of_not_lt fun hlt => ?_)
    refine lst_all (by omega) hp hj (b + (j - r)) ⟨k - (j - r), by omega, fun l hl' => ?_, ?_⟩
    · show g (b + (j - r) + l) = g (j + l)
      rw [show b + (j - r) + l = b + (j - r + l) by omega, he _ (by omega)]; congr 1; omega
    · show g (b + (j - r) + (k - (j - r))) < g (j + (k - (j - r)))
      rwa [show b + (j - r) + (k - (j - r)) = b + k by omega, show j + (k - (j - r)) = r + k by omega]
theorem sr_right {g : Nat → UInt8} {n b r k c : Nat} (hp : Pr g n) (h : Sr g n b r) (hk : k < n) (he : ∀ l, l < k → g (b + l) = g (r + l)) (hl : g (r + k) < g (b + k)) (hc : c = max r (b + k + 1)) : Sr g n c (c + 1) := by
  have h1 := h.1
  have h2 := h.2.1
  have key : ∀ j, Lst g n j → c ≤ j := fun j hj => by
    have hb : ¬ (b ≤ j ∧ j ≤ b + k) := fun ⟨ha, hbk⟩ => by
      refine lst_all (by omega) hp hj (r + (j - b)) ⟨k - (j - b), by omega, fun l hl' => ?_, ?_⟩
      · show g (r + (j - b) + l) = g (j + l)
        rw [show r + (j - b) + l = r + (j - b + l) by omega, ← he _ (by omega)]; congr 1; omega
      · show g (r + (j - b) + (k - (j - b))) < g (j + (k - (j - b)))
        rwa [show r + (j - b) + (k - (j - b)) = r + k by omega, show j + (k - (j - b)) = b + k by omega]
    rcases h.2.2 j hj with e | e
    · exact absurd ⟨by omega, by omega⟩ hb
    · omega
  obtain ⟨j, hj⟩ := lst_ex g n
  have h3 := key j hj
  have h4 := lst_lt (by omega) hj
  exact ⟨by omega, by omega, fun i hi => by have := key i hi; omega⟩

/-- The root from the longest border. -/
theorem bd_pr {s : ByteArray} {d : Nat} (hd : 0 < d) (hn : d < s.size) (h : Pr (cy s) d) : Bd (sg s) s.size (s.size - d) := by
  refine ⟨by omega, fun j hj => ?_⟩
  have := h j
  rw [cy_at s _ (by omega), cy_at s _ (by omega)] at this
  rw [show s.size - (s.size - d) + j = j + d by omega, this]
theorem root_least {s : ByteArray} {j : Nat} (hj : 0 < j) (h : Pr (cy s) j) : s.size - lon (sg s) s.size ≤ j := by
  by_cases hl : j < s.size
  · have := lon_max (bd_pr hj hl h); omega
  · omega
theorem lon_step {s : ByteArray} (hn : 0 < s.size) (x : Nat) (hx : x + (s.size - lon (sg s) s.size) < s.size) : sg s (x + (s.size - lon (sg s) s.size)) = sg s x := by
  have hb := lon_bd (f := sg s) hn
  have h1 := hb.1
  rw [hb.2 x (by omega)]
  congr 1; omega
theorem root_yes {s : ByteArray} (hn : 0 < s.size) (hd : (s.size - lon (sg s) s.size) ∣ s.size) : Rt (cy s) s.size (s.size - lon (sg s) s.size) := by
  have h1 := lon_lt (f := sg s) hn
  have hs := lon_step hn
  have hm := fun j => root_least (s := s) (j := j)
  generalize hdd : s.size - lon (sg s) s.size = d at *
  have hd0 : 0 < d := by omega
  have hz : ∀ m z, z + d * m < s.size → sg s (z + d * m) = sg s z := by
    intro m
    induction m with
    | zero => intro z _; rfl
    | succ m ih =>
      intro z hz
      rw [Nat.mul_succ] at hz ⊢
      rw [← Nat.add_assoc, hs _ (by omega), ih z (by omega)]
  have hmod : ∀ z, z < s.size → sg s z = sg s (z % d) := fun z hzl => by
    have := hz (z / d) (z % d) (by rw [Nat.mod_add_div]; exact hzl)
    rwa [Nat.mod_add_div] at this
  refine .inr ⟨hn, hd0, fun x => ?_, fun j hj hp => hm j hj hp⟩
  unfold cy
  rw [hmod _ (Nat.mod_lt _ hn), hmod _ (Nat.mod_lt x hn), Nat.mod_mod_of_dvd _ hd, Nat.mod_mod_of_dvd _ hd, Nat.add_mod_right]
theorem root_no {s : ByteArray} (hn : 0 < s.size) (hd : ¬ (s.size - lon (sg s) s.size) ∣ s.size) : Rt (cy s) s.size s.size := by
  have h1 := lon_lt (f := sg s) hn
  have hs := lon_step hn
  obtain ⟨r, hr⟩ := rt_ex hn (cy_pr s)
  have hr0 := rt_pos hn hr
  have hrp := rt_pr hn hr
  have hle := root_least hr0 hrp
  have hdv := (rt_iff hn hr s.size).1 (cy_pr s)
  generalize hdd : s.size - lon (sg s) s.size = d at *
  by_cases hrs : r = s.size
  · exact hrs ▸ hr
  · exfalso
    obtain ⟨m, hm⟩ := hdv
    have h2 : r * 2 ≤ s.size := by
      rw [hm]
      refine Nat.mul_le_mul_left r ?_
      rcases m with _ | _ | m
      · omega
      · rw [hm] at hrs; omega
      · omega
    have hpd : Pr (cy s) d := fun x => by
      have hx := Nat.mod_lt x hr0
      have e := hs (x % r) (by omega)
      rw [← cy_at s _ (by omega), ← cy_at s _ (by omega)] at e
      rw [← pr_at hrp (x + d), ← pr_at hrp x, ← e, ← pr_at hrp (x % r + d), Nat.mod_add_mod]
    have := Nat.le_of_dvd (by omega) ((rt_iff hn hr d).1 hpd)
    exact hd (by rw [show d = r by omega]; exact ⟨m, hm⟩)

/-- What the reference asks of a length: the text is its beginning so many times. -/
def Rep (s : ByteArray) (k : Nat) : Prop := k ∣ s.size ∧ Pr (cy s) k
/-- The beginning of k signs, m times. -/
def IsTimes (s t : ByteArray) (k m : Nat) : Prop := t.size = k * m ∧ ∀ j, j < t.size → sg t j = sg s (j % k)
theorem times_zero (s : ByteArray) (k : Nat) : IsTimes s ByteArray.empty k 0 := ⟨by simp, fun j hj => absurd hj (by simp)⟩
theorem times_step {s t : ByteArray} {k m : Nat} (hk : k ≤ s.size) (h : IsTimes s t k m) : IsTimes s (t ++ s.extract 0 k) k (m + 1) := by
  have e : (s.extract 0 k).size = k := by rw [ByteArray.size_extract]; omega
  obtain ⟨h1, h2⟩ := h
  refine ⟨by rw [size_join, h1, e, Nat.mul_succ], fun j hj => ?_⟩
  rw [size_join, e] at hj
  by_cases hl : j < t.size
  · rw [sg_left _ _ _ hl, h2 j hl]
  · have := sg_right t (s.extract 0 k) (j - t.size) (by omega)
    rw [show t.size + (j - t.size) = j by omega] at this
    rw [this, sg_cut _ _ _ _ hk (by omega), Nat.zero_add]
    congr 1
    rw [h1] at hl hj ⊢
    have : j = j - k * m + k * m := by omega
    conv => rhs; rw [this, Nat.add_mul_mod_self_left]
    rw [Nat.mod_eq_of_lt (by omega)]
theorem times_iff {s t : ByteArray} {k m : Nat} (hn : 0 < s.size) (hk : 0 < k) (hks : k ≤ s.size) (h : IsTimes s t k m) (hle : s.size ≤ t.size) (hlt : t.size < s.size + k) : t = s ↔ Rep s k := by
  obtain ⟨h1, h2⟩ := h
  constructor
  · rintro rfl
    have hd : k ∣ t.size := ⟨m, h1⟩
    refine ⟨hd, fun x => ?_⟩
    unfold cy
    rw [h2 _ (Nat.mod_lt _ hn), h2 _ (Nat.mod_lt x hn), Nat.mod_mod_of_dvd _ hd, Nat.mod_mod_of_dvd _ hd, Nat.add_mod_right]
  · rintro ⟨⟨q, hq⟩, hp⟩
    have hmq : m = q := by
      rw [hq] at hle hlt
      rw [h1] at hle hlt
      have a := Nat.le_of_mul_le_mul_left hle hk
      have b : k * m < k * (q + 1) := by rw [Nat.mul_succ]; exact hlt
      have := Nat.lt_of_mul_lt_mul_left b
      omega
    have hz : t.size = s.size := by rw [h1, hq, hmq]
    refine text_eq _ _ hz fun i hi => ?_
    rw [h2 i hi, ← cy_at s i (by omega), ← pr_at hp i]
    exact (cy_at s _ (by have := Nat.mod_lt i hk; omega)).symm
theorem rep_found {s : ByteArray} {k : Nat} (hn : 0 < s.size) (hk : 0 < k) (h : Rep s k) (hno : ∀ j, 0 < j → j < k → ¬ Rep s j) : Rt (cy s) s.size k := by
  obtain ⟨r, hr⟩ := rt_ex hn (cy_pr s)
  have h0 := rt_pos hn hr
  have hd := (rt_iff hn hr s.size).1 (cy_pr s)
  have hle := rt_min hn hr hk h.2
  by_cases e : r = k
  · exact e ▸ hr
  · exact absurd ⟨hd, rt_pr hn hr⟩ (hno r h0 (by omega))
theorem rep_self (s : ByteArray) : Rep s s.size := ⟨⟨1, by omega⟩, cy_pr s⟩

/-- Two texts whose least rotations are one are rotations of each other. -/
theorem same_iff {a b : ByteArray} {x y : Nat} (ha : Lst (cy a) a.size x) (hb : Lst (cy b) b.size y) : turnS a x = turnS b y ↔ a = b ∨ ∃ i, i < a.size ∧ turnS a i = b := by
  constructor
  · intro e
    have hz : a.size = b.size := by
      rw [← turn_size a x (lst_le ha), ← turn_size b y (lst_le hb), e]
    rcases Nat.eq_zero_or_pos a.size with h0 | h0
    · exact .inl (text_eq a b hz fun i hi => absurd hi (by omega))
    · refine .inr ⟨(x + (a.size - y)) % a.size, Nat.mod_lt _ h0, ?_⟩
      have hy := lst_le hb
      have he := (turn_eq hz h0 (lst_le ha) hy).1 e
      rw [← turn_zero b]
      refine (turn_eq hz h0 (Nat.le_of_lt (Nat.mod_lt _ h0)) (by omega)).2 fun z => ?_
      have := he (a.size - y + z)
      rw [show y + (a.size - y + z) = z + b.size by omega, cy_pr b] at this
      rw [Nat.zero_add, ← this, ← pr_at (cy_pr a), ← pr_at (cy_pr a) (x + _), Nat.mod_add_mod]
      congr 2; omega
  · intro h
    have h' : ∃ i, i ≤ a.size ∧ turnS a i = b := by
      rcases h with rfl | ⟨i, hi, e⟩
      · exact ⟨0, by omega, turn_zero a⟩
      · exact ⟨i, by omega, e⟩
    obtain ⟨i, hi, rfl⟩ := h'
    have hz := turn_size a i hi
    rw [hz] at hb
    rcases Nat.eq_zero_or_pos a.size with h0 | h0
    · have := lst_le hb
      have := lst_le ha
      exact text_eq _ _ (by rw [turn_size _ _ (by omega), turn_size _ _ (by omega), hz]) fun j hj => by
        rw [turn_size _ _ (by omega)] at hj; omega
    · have hc : cy (turnS a i) = fun z => cy a (i + z) := funext (turn_cy a i hi h0)
      refine (turn_eq hz.symm h0 (lst_le ha) (by rw [hz]; exact lst_le hb)).2 fun z => ?_
      rw [turn_cy a i hi h0, ← Nat.add_assoc]
      have n1 : ¬ Ls (cy a) a.size (i + y) x := lst_all h0 (cy_pr a) ha _
      have n2 : ¬ Ls (cy a) a.size x (i + y) := fun hl => by
        refine lst_all h0 (by rw [hc]; exact pr_shift i (cy_pr a)) hb (x + (a.size - i)) ?_
        rw [hc]
        refine less_left (fun z _ => ?_) (less_right (fun z _ => ?_) hl)
        · show cy a (x + z) = cy a (i + (x + (a.size - i) + z))
          rw [show i + (x + (a.size - i) + z) = x + z + a.size by omega, cy_pr a]
        · show cy a (i + y + z) = cy a (i + (y + z))
          rw [Nat.add_assoc]
      rcases less_tri (fun z => cy a (x + z)) (fun z => cy a (i + y + z)) a.size with h | h | h
      · exact absurd h n2
      · exact absurd h n1
      · have := h (z % a.size) (Nat.mod_lt _ h0)
        rw [← pr_at (cy_pr a) (x + _), ← pr_at (cy_pr a) (i + y + _), Nat.add_mod_mod, Nat.add_mod_mod, pr_at (cy_pr a), pr_at (cy_pr a)] at this
        exact this

/-- Rotations that differ. -/
theorem rot_same {s : ByteArray} {r i j : Nat} (hn : 0 < s.size) (h : Rt (cy s) s.size r) (hij : i ≤ j) (hj : j ≤ s.size) : turnS s i = turnS s j ↔ r ∣ j - i := by
  rw [← rt_iff hn h, turn_eq rfl hn (by omega) hj]
  constructor
  · intro he
    refine pr_unshift (cy_pr s) (i := i) (by omega) fun x => ?_
    show cy s (i + (x + (j - i))) = cy s (i + x)
    rw [he x]; congr 1; omega
  · intro hp x
    rw [show j + x = i + x + (j - i) by omega, hp]
theorem rot_self {s : ByteArray} {r i : Nat} (hn : 0 < s.size) (h : Rt (cy s) s.size r) (hi : i ≤ s.size) : turnS s i = s ↔ r ∣ i := by
  have := rot_same hn h (Nat.zero_le i) hi
  rw [turn_zero, Nat.sub_zero] at this
  rw [← this]
  exact ⟨Eq.symm, Eq.symm⟩
theorem root_turn {s : ByteArray} {r i : Nat} (h : Rt (cy s) s.size r) (hi : i ≤ s.size) (hn : 0 < s.size) : Rt (cy (turnS s i)) (turnS s i).size r := by
  rw [turn_size s i hi, funext (turn_cy s i hi hn)]
  exact rt_shift (cy_pr s) hi h

/-- Two texts that commute have one root. -/
theorem cy_join {a b : ByteArray} {h : Nat → UInt8} (ha : ∀ x, cy a x = h x) (hb : ∀ x, cy b x = h x) (j : Nat) (hj : j < a.size + b.size) : sg (a ++ b) j = h j := by
  by_cases hl : j < a.size
  · rw [sg_left _ _ _ hl, ← cy_at a j hl, ha]
  · have := sg_right a b (j - a.size) (by omega)
    rw [show a.size + (j - a.size) = j by omega] at this
    rw [this, ← cy_at b _ (by omega), hb, ← ha, ← ha]
    have e := cy_pr a (j - a.size)
    rw [show j - a.size + a.size = j by omega] at e
    exact e.symm
theorem commute_of {a b : ByteArray} (h : ∀ x, cy a x = cy b x) : a ++ b = b ++ a := by
  refine text_eq _ _ (by rw [size_join, size_join, Nat.add_comm]) fun j hj => ?_
  rw [size_join] at hj
  rw [cy_join (h := cy a) (fun _ => rfl) (fun x => (h x).symm) j hj, cy_join (h := cy a) (fun x => (h x).symm) (fun _ => rfl) j (by omega)]
theorem commute_cy {a b : ByteArray} (ha : 0 < a.size) (hb : 0 < b.size) (h : a ++ b = b ++ a) (x : Nat) : cy a x = cy b x := by
  have hz := size_join a b
  have ht : turnS (a ++ b) a.size = b ++ a := by
    unfold turnS
    congr 1
    · refine text_eq _ _ (by rw [ByteArray.size_extract]; omega) fun j hj => ?_
      rw [ByteArray.size_extract] at hj
      rw [sg_cut _ _ _ _ (Nat.le_refl _) (by omega), sg_right _ _ _ (by omega)]
    · refine text_eq _ _ (by rw [ByteArray.size_extract]; omega) fun j hj => ?_
      rw [ByteArray.size_extract] at hj
      rw [sg_cut _ _ _ _ (by omega) (by omega), Nat.zero_add, sg_left _ _ _ (by omega)]
  obtain ⟨r, hr⟩ := rt_ex (n := (a ++ b).size) (by omega) (cy_pr (a ++ b))
  have p1 : Pr (cy (a ++ b)) a.size := (rt_iff (by omega) hr _).2 ((rot_self (by omega) hr (by omega)).1 (by rw [ht, h]))
  have p2 : Pr (cy (a ++ b)) b.size := by
    have := pr_sub p1 (cy_pr (a ++ b)) (by omega)
    rwa [show (a ++ b).size - a.size = b.size by omega] at this
  have e1 : cy a x = cy (a ++ b) x := by
    rw [← pr_at p1 x, cy_at (a ++ b) _ (by have := Nat.mod_lt x ha; omega), sg_left _ _ _ (Nat.mod_lt x ha)]; rfl
  have e2 : cy b x = cy (a ++ b) x := by
    rw [← pr_at p2 x, cy_at (a ++ b) _ (by have := Nat.mod_lt x hb; omega), h, sg_left _ _ _ (Nat.mod_lt x hb)]; rfl
  rw [e1, e2]
theorem commute_iff {a b : ByteArray} {r q : Nat} (ha : 0 < a.size) (hb : 0 < b.size) (hr : Rt (cy a) a.size r) (hq : Rt (cy b) b.size q) : a ++ b = b ++ a ↔ a.extract 0 r = b.extract 0 q := by
  have l1 := rt_le (cy_pr a) hr
  have l2 := rt_le (cy_pr b) hq
  have e1 : (a.extract 0 r).size = r := by rw [ByteArray.size_extract]; omega
  have e2 : (b.extract 0 q).size = q := by rw [ByteArray.size_extract]; omega
  have r0 := rt_pos ha hr
  constructor
  · intro h
    have hc := commute_cy ha hb h
    have hrq : r = q := Nat.le_antisymm
      (rt_min ha hr (rt_pos hb hq) fun x => by rw [hc, hc]; exact rt_pr hb hq x)
      (rt_min hb hq r0 fun x => by rw [← hc, ← hc]; exact rt_pr ha hr x)
    refine text_eq _ _ (by omega) fun i hi => ?_
    rw [sg_cut _ _ _ _ l1 (by omega), sg_cut _ _ _ _ l2 (by omega), Nat.zero_add, ← cy_at a i (by omega), ← cy_at b i (by omega), hc]
  · intro h
    have hrq : r = q := by rw [← e1, ← e2, h]
    refine commute_of fun x => ?_
    have hx := Nat.mod_lt x r0
    have hs : sg (a.extract 0 r) (x % r) = sg (b.extract 0 q) (x % r) := by rw [h]
    rw [sg_cut _ _ _ _ l1 (by omega), sg_cut _ _ _ _ l2 (by omega), Nat.zero_add, ← cy_at a _ (by omega), ← cy_at b _ (by omega), pr_at (rt_pr ha hr)] at hs
    rw [hs]
    have := pr_at (rt_pr hb hq) x
    rwa [← hrq] at this
end Go.Proofs.Ytkpjflfhegejpaa
