/-
  Plain mathematics of Lyndon words, without a program: Lyn f n (the first n signs of f are a Lyndon word), Duval's state (Dv) and its steps, the longest Lyndon word ahead (Lgw), the factors from a place on (Rest: one list), that the factors do not rise, two Lyndon words joined, Lyndon words and rotations. No condition.
-/
import Derived.Test.YtldhcmoecmfigaaRot
namespace Go.Proofs.Ytldhcmoecmfigaa

/-- The first n signs are less than the ones from i on. -/
def Upl (f : Nat → UInt8) (n i : Nat) : Prop := ∃ k, i + k < n ∧ (∀ l, l < k → f l = f (i + l)) ∧ f k < f (i + k)
/-- The first n signs are a Lyndon word. -/
def Lyn (f : Nat → UInt8) (n : Nat) : Prop := 0 < n ∧ ∀ i, 0 < i → i < n → Upl f n i
theorem lyn_congr {f g : Nat → UInt8} {n : Nat} (h : ∀ x, x < n → f x = g x) (hl : Lyn f n) : Lyn g n :=
  ⟨hl.1, fun i h1 h2 => by
    obtain ⟨k, k1, k2, k3⟩ := hl.2 i h1 h2
    exact ⟨k, k1, fun l hl => by rw [← h l (by omega), ← h (i + l) (by omega), k2 l hl], by rw [← h k (by omega), ← h (i + k) (by omega)]; exact k3⟩⟩
theorem lyn_same {f g : Nat → UInt8} {n : Nat} (h : ∀ x, x < n → f x = g x) : Lyn f n ↔ Lyn g n :=
  ⟨lyn_congr h, lyn_congr fun x hx => (h x hx).symm⟩
theorem lyn_one (f : Nat → UInt8) : Lyn f 1 := ⟨by omega, fun i h1 h2 => absurd h2 (by omega)⟩
/-- Agreement, and no more: no 'less' is possible. -/
theorem upl_not {f : Nat → UInt8} {n i d : Nat} (h : ∀ l, l < d → f (i + l) = f l) (he : n ≤ i + d ∨ f (i + d) < f d) : ¬ Upl f n i := by
  rintro ⟨k, k1, k2, k3⟩
  have hk : d ≤ k := Nat.le_of_not_lt fun hlt => by rw [h k hlt] at k3; exact absurd k3 (UInt8.lt_irrefl _)
  rcases he with he | he
  · omega
  · by_cases e : k = d
    · subst e; exact absurd (UInt8.lt_trans k3 he) (UInt8.lt_irrefl _)
    · rw [k2 d (by omega)] at he; exact absurd he (UInt8.lt_irrefl _)

/-- Duval's state: the first e signs are a Lyndon word of w signs, again and again. -/
def Dv (f : Nat → UInt8) (w e : Nat) : Prop := w ≤ e ∧ Lyn f w ∧ ∀ x, x + w < e → f (x + w) = f x
theorem dv_start (f : Nat → UInt8) : Dv f 1 1 := ⟨by omega, lyn_one f, fun x hx => absurd hx (by omega)⟩
theorem dv_same {f : Nat → UInt8} {w e : Nat} (h : Dv f w e) (he : f (e - w) = f e) : Dv f w (e + 1) := by
  obtain ⟨h1, h2, h3⟩ := h
  have := h2.1
  refine ⟨by omega, h2, fun x hx => ?_⟩
  by_cases hxe : x + w = e
  · rw [hxe, ← he]; congr 1; omega
  · exact h3 x (by omega)
theorem dv_mul {f : Nat → UInt8} {w e : Nat} (h : Dv f w e) : ∀ m x, x + w * m < e → f (x + w * m) = f x := by
  intro m
  induction m with
  | zero => intro x _; rfl
  | succ m ih =>
    intro x hx
    rw [Nat.mul_succ] at hx ⊢
    rw [← Nat.add_assoc, h.2.2 _ (by omega), ih x (by omega)]
theorem dv_mod {f : Nat → UInt8} {w e : Nat} (h : Dv f w e) (x : Nat) (hx : x < e) : f x = f (x % w) := by
  have := dv_mul h (x / w) (x % w) (by rw [Nat.mod_add_div]; exact hx)
  rwa [Nat.mod_add_div] at this
theorem dv_grow {f : Nat → UInt8} {w e : Nat} (h : Dv f w e) (hl : f (e - w) < f e) : Dv f (e + 1) (e + 1) := by
  have hw := h.2.1.1
  have hwe := h.1
  refine ⟨by omega, ⟨by omega, fun i i0 i1 => ?_⟩, fun x hx => absurd hx (by omega)⟩
  have ei := Nat.mod_add_div i w
  rcases Nat.eq_zero_or_pos (i % w) with e0 | e0
  · rw [e0, Nat.zero_add] at ei
    refine ⟨e - i, by omega, fun l hl' => ?_, ?_⟩
    · have := dv_mul h (i / w) l (by rw [ei]; omega)
      rw [ei] at this
      rw [Nat.add_comm i l, this]
    · have hiw : 0 < i / w := Nat.pos_of_ne_zero fun h0 => by rw [h0] at ei; omega
      have e2 : w * (i / w - 1) = i - w := by rw [Nat.mul_sub, ei, Nat.mul_one]
      have hle : w ≤ i := by rw [← ei]; exact Nat.le_mul_of_pos_right w hiw
      have := dv_mul h (i / w - 1) (e - i) (by rw [e2]; omega)
      rw [e2, show e - i + (i - w) = e - w by omega] at this
      rw [← this, show i + (e - i) = e by omega]
      exact hl
  · obtain ⟨k, k1, k2, k3⟩ := h.2.1.2 (i % w) e0 (Nat.mod_lt i hw)
    have key : ∀ l, i % w + l < w → i + l < e → f (i + l) = f (i % w + l) := fun l a b => by
      rw [dv_mod h (i + l) b, ← Nat.mod_add_mod, Nat.mod_eq_of_lt a]
    by_cases hik : i + k < e
    · exact ⟨k, by omega, fun l hl' => by rw [key l (by omega) (by omega)]; exact k2 l hl', by rw [key k k1 hik]; exact k3⟩
    · refine ⟨e - i, by omega, fun l hl' => by rw [key l (by omega) (by omega)]; exact k2 l (by omega), ?_⟩
      rw [show i + (e - i) = e by omega]
      have e3 : f (e - w) = f (i % w + (e - i)) := by
        rw [dv_mod h (e - w) (by omega)]
        congr 1
        have : e - w + w = i + (e - i) := by omega
        rw [← Nat.add_mod_right, this, ← Nat.mod_add_mod, Nat.mod_eq_of_lt (by omega)]
      rw [e3] at hl
      by_cases hk : e - i < k
      · rw [k2 _ hk]; exact hl
      · rw [show k = e - i by omega] at k3
        exact UInt8.lt_trans k3 hl

/-- w is the length of the longest Lyndon word with which n signs begin. -/
def Lgw (f : Nat → UInt8) (n w : Nat) : Prop := w ≤ n ∧ Lyn f w ∧ ∀ m, w < m → m ≤ n → ¬ Lyn f m
theorem lgw_one {f : Nat → UInt8} {n w w' : Nat} (h : Lgw f n w) (h' : Lgw f n w') : w = w' := by
  rcases Nat.lt_trichotomy w w' with e | e | e
  · exact absurd h'.2.1 (h.2.2 w' e h'.1)
  · exact e
  · exact absurd h.2.1 (h'.2.2 w e h.1)
/-- Where the search stops. -/
def Halt (f : Nat → UInt8) (n w e : Nat) : Prop := e ≤ n ∧ (e = n ∨ f e < f (e - w))
theorem dv_lgw {f : Nat → UInt8} {n w e : Nat} (h : Dv f w e) (hh : Halt f n w e) : Lgw f n w := by
  have hw := h.2.1.1
  have hwe := h.1
  refine ⟨by have := hh.1; omega, h.2.1, fun m h1 h2 hm => ?_⟩
  refine upl_not (d := e - w) (fun l hl => ?_) ?_ (hm.2 w hw h1)
  · rw [Nat.add_comm, h.2.2 l (by omega)]
  · by_cases hme : m ≤ e
    · exact .inl (by omega)
    · rcases hh.2 with e1 | e1
      · omega
      · exact .inr (by rw [show w + (e - w) = e by omega]; exact e1)
/-- One word less. -/
theorem dv_cut {f : Nat → UInt8} {n w e j : Nat} (h : Dv f w e) (hh : Halt f n w e) (hj : w * j + w ≤ e) : Lgw (fun x => f (w * j + x)) (n - w * j) w := by
  have h1 := hh.1
  have key : ∀ x, x + w * j < e → f (w * j + x) = f x := fun x hx => by rw [Nat.add_comm]; exact dv_mul h j x hx
  refine dv_lgw (e := e - w * j) ⟨by omega, lyn_congr (fun x hx => (key x (by omega)).symm) h.2.1, fun x hx => ?_⟩ ⟨by omega, ?_⟩
  · show f (w * j + (x + w)) = f (w * j + x)
    rw [← Nat.add_assoc, h.2.2 _ (by omega)]
  · rcases hh.2 with e1 | e1
    · exact .inl (by omega)
    · refine .inr ?_
      show f (w * j + (e - w * j)) < f (w * j + (e - w * j - w))
      rw [show w * j + (e - w * j) = e by omega, show w * j + (e - w * j - w) = e - w by omega]
      exact e1

/-- The factors from a place on. -/
inductive Rest (f : Nat → UInt8) (n : Nat) : Nat → List Int → Prop
  | done : Rest f n n []
  | step {b w : Nat} {l : List Int} : b < n → Lgw (fun x => f (b + x)) (n - b) w → Rest f n (b + w) l → Rest f n b ((w : Int) :: l)
theorem rest_le {f : Nat → UInt8} {n b : Nat} {l : List Int} (h : Rest f n b l) : b ≤ n := by
  cases h with
  | done => omega
  | step h1 _ _ => omega
theorem rest_one {f : Nat → UInt8} {n b : Nat} {l l' : List Int} (h : Rest f n b l) (h' : Rest f n b l') : l = l' := by
  induction h generalizing l' with
  | done =>
    generalize hb : n = b at h'
    cases h' with
    | done => rfl
    | step h1 _ _ => omega
  | @step b w l h1 h2 h3 ih =>
    cases h' with
    | done => omega
    | @step _ w' l' g1 g2 g3 =>
      obtain rfl := lgw_one h2 g2
      rw [ih g3]
theorem rest_len {f : Nat → UInt8} {n b : Nat} {l : List Int} (h : Rest f n b l) : b + l.length ≤ n := by
  induction h with
  | done => simp
  | @step b w l h1 h2 h3 ih =>
    have := h2.2.1.1
    rw [List.length_cons]; omega
/-- A text of one factor is a Lyndon word. -/
theorem rest_is {f : Nat → UInt8} {n : Nat} {l : List Int} (h : Rest f n 0 l) : l.length = 1 ↔ Lyn f n := by
  constructor
  · intro hl
    generalize hb : 0 = b at h
    cases h with
    | done => simp at hl
    | @step _ w l h1 h2 h3 =>
      subst hb
      have : l = [] := by
        cases l with
        | nil => rfl
        | cons a l => simp at hl
      subst this
      generalize hx : 0 + w = x at h3
      cases h3
      have e : (fun x => f (0 + x)) = f := funext fun x => by rw [Nat.zero_add]
      rw [e] at h2
      rw [show n = w by omega]
      exact h2.2.1
  · intro hl
    have e : (fun x => f (0 + x)) = f := funext fun x => by rw [Nat.zero_add]
    have hg : Lgw (fun x => f (0 + x)) (n - 0) n := by rw [e]; exact ⟨by omega, hl, fun m a b => by omega⟩
    have := rest_one h (.step hl.1 hg (by rw [Nat.zero_add]; exact .done))
    rw [this]; rfl

/-- Two Lyndon words, the first less than the second one, make one. -/
def Lx0 (f : Nat → UInt8) (p q : Nat) : Prop := ∃ k, k ≤ p ∧ k ≤ q ∧ (∀ l, l < k → f l = f (p + l)) ∧ ((k < p ∧ k < q ∧ f k < f (p + k)) ∨ (k = p ∧ k < q))
theorem lyn_join {f : Nat → UInt8} {p q : Nat} (hu : Lyn f p) (hv : Lyn (fun x => f (p + x)) q) (hl : Lx0 f p q) : Lyn f (p + q) := by
  have hp := hu.1
  have hq := hv.1
  have hmid : Upl f (p + q) p := by
    obtain ⟨k0, a1, a2, a3, a4⟩ := hl
    rcases a4 with ⟨b1, b2, b3⟩ | ⟨b1, b2⟩
    · exact ⟨k0, by omega, a3, b3⟩
    · subst b1
      obtain ⟨k, k1, k2, k3⟩ := hv.2 k0 hp b2
      refine ⟨k0 + k, by omega, fun l hl => ?_, k3⟩
      by_cases hlk : l < k0
      · exact a3 l hlk
      · have := k2 (l - k0) (by omega)
        simp only at this
        rw [show k0 + (l - k0) = l by omega] at this
        rw [this]
  refine ⟨by omega, fun i i0 i1 => ?_⟩
  rcases Nat.lt_trichotomy i p with e | e | e
  · obtain ⟨k, k1, k2, k3⟩ := hu.2 i i0 e
    exact ⟨k, by omega, k2, k3⟩
  · subst e; exact hmid
  · obtain ⟨k, k1, k2, k3⟩ := hv.2 (i - p) (by omega) (by omega)
    obtain ⟨m, m1, m2, m3⟩ := hmid
    have k2' : ∀ l, l < k → f (p + l) = f (i + l) := fun l hl => by
      have := k2 l hl
      simp only at this
      rwa [show p + (i - p + l) = i + l by omega] at this
    have k3' : f (p + k) < f (i + k) := by
      simp only at k3
      rwa [show p + (i - p + k) = i + k by omega] at k3
    rcases Nat.lt_trichotomy m k with e | e | e
    · exact ⟨m, by omega, fun l hl => by rw [m2 l hl, k2' l (by omega)], by rw [← k2' m e]; exact m3⟩
    · subst e
      exact ⟨m, by omega, fun l hl => by rw [m2 l hl, k2' l hl], UInt8.lt_trans m3 k3'⟩
    · exact ⟨k, by omega, fun l hl => by rw [m2 l (by omega), k2' l hl], by rw [m2 k e]; exact k3'⟩
theorem lyn_part {f : Nat → UInt8} {p q : Nat} (hp : 0 < p) (hq : 0 < q) (h : Lyn f (p + q)) : Lx0 f p q := by
  obtain ⟨k, k1, k2, k3⟩ := h.2 p hp (by omega)
  by_cases e : k < p
  · exact ⟨k, by omega, by omega, k2, .inl ⟨e, by omega, k3⟩⟩
  · exact ⟨p, by omega, by omega, fun l hl => k2 l (by omega), .inr ⟨rfl, by omega⟩⟩
/-- One factor is not less than the next one. -/
theorem lgw_fall {f : Nat → UInt8} {n b p q : Nat} (h : Lgw (fun x => f (b + x)) (n - b) p) (h' : Lgw (fun x => f (b + p + x)) (n - (b + p)) q) : ¬ Lx0 (fun x => f (b + x)) p q := fun hl => by
  have h0 := h'.2.1.1
  have h1 := h'.1
  refine h.2.2 (p + q) (by omega) (by omega) (lyn_join h.2.1 ?_ hl)
  exact lyn_congr (fun x _ => by rw [Nat.add_assoc]) h'.2.1

/-- A Lyndon word is the one least of its rotations. -/
theorem lyn_turn {g : Nat → UInt8} {n : Nat} (hn : 0 < n) (hp : Pr g n) : Lyn g n ↔ Lst g n 0 ∧ Rt g n n := by
  constructor
  · intro h
    have key : ∀ i, 0 < i → i < n → Ls g n 0 i := fun i a b => by
      obtain ⟨k, k1, k2, k3⟩ := h.2 i a b
      refine ⟨k, by omega, fun l hl => ?_, ?_⟩
      · show g (0 + l) = g (i + l)
        rw [Nat.zero_add]; exact k2 l hl
      · show g (0 + k) < g (i + k)
        rw [Nat.zero_add]; exact k3
    refine ⟨⟨by omega, fun j hj => ?_, fun j hj => absurd hj (by omega)⟩, .inr ⟨hn, hn, hp, fun j a b => ?_⟩⟩
    · rcases Nat.eq_zero_or_pos j with e | e
      · subst e; exact ls_irr
      · exact fun hl => ls_irr (less_trans hl (key j e hj))
    · refine Nat.le_of_not_lt fun hlt => less_irr (key j a hlt) fun x _ => ?_
      show g (0 + x) = g (j + x)
      rw [Nat.zero_add, Nat.add_comm, b]
  · rintro ⟨h1, h2⟩
    refine ⟨hn, fun i i0 i1 => ?_⟩
    rcases less_tri (fun x => g (0 + x)) (fun x => g (i + x)) n with h | h | h
    · obtain ⟨k, k1, k2, k3⟩ := h
      simp only [Nat.zero_add] at k2 k3
      by_cases hik : i + k < n
      · exact ⟨k, hik, k2, k3⟩
      · exfalso
        refine h1.2.1 (n - i) (by omega) ⟨k - (n - i), by omega, fun l hl => ?_, ?_⟩
        · show g (n - i + l) = g (0 + l)
          rw [k2 _ (by omega), show i + (n - i + l) = l + n by omega, hp, Nat.zero_add]
        · show g (n - i + (k - (n - i))) < g (0 + (k - (n - i)))
          rw [show i + k = k - (n - i) + n by omega, hp] at k3
          rwa [show n - i + (k - (n - i)) = k by omega, Nat.zero_add]
    · exact absurd h (h1.2.1 i i1)
    · exfalso
      have : Pr g i := fun x => by
        have e := h (x % n) (Nat.mod_lt _ hn)
        simp only [Nat.zero_add] at e
        rw [← pr_at hp x, e, ← pr_at hp (x + i), ← pr_at hp (i + x % n), Nat.add_mod_mod, Nat.add_comm]
      have := rt_min hn h2 i0 this
      omega
/-- Is a text a Lyndon word? -/
noncomputable def lynB (s : ByteArray) : Bool := @decide (Lyn (sg s) s.size) (Classical.propDecidable _)
theorem lynB_yes {s : ByteArray} (h : Lyn (sg s) s.size) : lynB s = true := @decide_eq_true _ (Classical.propDecidable _) h
theorem lynB_no {s : ByteArray} (h : ¬ Lyn (sg s) s.size) : lynB s = false := @decide_eq_false _ (Classical.propDecidable _) h
theorem lynB_iff {s : ByteArray} {p : Prop} [Decidable p] (h : p ↔ Lyn (sg s) s.size) : decide p = lynB s := by
  by_cases hp : p
  · rw [lynB_yes (h.1 hp), decide_eq_true hp]
  · rw [lynB_no (fun hx => hp (h.2 hx)), decide_eq_false hp]
theorem lyn_cy (s : ByteArray) : Lyn (cy s) s.size ↔ Lyn (sg s) s.size := lyn_same fun x hx => cy_at s x hx
theorem lyn_self {s : ByteArray} {b r : Nat} (hn : 0 < s.size) (hb : Lst (cy s) s.size b) (hr : Rt (cy s) s.size r) : Lyn (sg s) s.size ↔ b = 0 ∧ r = s.size := by
  rw [← lyn_cy, lyn_turn hn (cy_pr s)]
  constructor
  · exact fun ⟨a, c⟩ => ⟨lst_one hb a, rt_one hr c⟩
  · rintro ⟨rfl, e⟩
    exact ⟨hb, e ▸ hr⟩
theorem lyn_least {s : ByteArray} {b r : Nat} (hn : 0 < s.size) (hb : Lst (cy s) s.size b) (hr : Rt (cy s) s.size r) : Lyn (sg (turnS s b)) s.size ↔ r = s.size := by
  have hbn := lst_le hb
  have hz := turn_size s b hbn
  have hc : cy (turnS s b) = fun z => cy s (b + z) := funext (turn_cy s b hbn hn)
  have e : Lyn (sg (turnS s b)) s.size ↔ Lyn (fun z => cy s (b + z)) s.size := lyn_same fun x hx => turn_sg s b x hbn hx
  rw [e, lyn_turn hn (pr_shift b (cy_pr s))]
  have hR := rt_shift (cy_pr s) hbn hr
  constructor
  · exact fun ⟨_, c⟩ => rt_one hR c
  · intro he
    refine ⟨⟨by omega, fun j hj hl => ?_, fun j hj => absurd hj (by omega)⟩, he ▸ hR⟩
    refine lst_all hn (cy_pr s) hb (b + j) ?_
    refine less_left (fun x _ => ?_) (less_right (fun x _ => ?_) hl)
    · show cy s (b + (j + x)) = cy s (b + j + x)
      rw [Nat.add_assoc]
    · show cy s (b + (0 + x)) = cy s (b + x)
      rw [Nat.zero_add]
end Go.Proofs.Ytldhcmoecmfigaa
