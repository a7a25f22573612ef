/-
  Plain mathematics, without a program: the table of the lengths of what the ends of two texts have in common, as it fills from its end; the first place of the least sign with which a longest common text begins; a text within another one, by the first place of each sign. No condition.
-/
import Derived.Test.YtaodocdddfkglaaDoorLcs
import Derived.Test.YtaodocdddfkglaaDoorEdm
namespace Go.Proofs.YtaodocdddfkglaaDoor

/-- How much the ends of two texts have in common. -/
def lcT (a b : ByteArray) (i j : Nat) : Nat := (cmn ((bs a).drop i) ((bs b).drop j)).length
theorem lcT_left {a b : ByteArray} {i : Nat} (h : a.size ≤ i) (j : Nat) : lcT a b i j = 0 := by
  unfold lcT; rw [bs_drop_nil h, cmn_left]; rfl
theorem lcT_right {a b : ByteArray} {j : Nat} (h : b.size ≤ j) (i : Nat) : lcT a b i j = 0 := by
  unfold lcT; rw [bs_drop_nil h, cmn_right]; rfl
theorem lcT_same {a b : ByteArray} {i j : Nat} (hi : i < a.size) (hj : j < b.size) (e : sg a i = sg b j) : lcT a b i j = lcT a b (i + 1) (j + 1) + 1 := by
  unfold lcT; rw [bs_drop_cons hi, bs_drop_cons hj, len_step, if_pos e]
theorem lcT_other {a b : ByteArray} {i j : Nat} (hi : i < a.size) (hj : j < b.size) (e : sg a i ≠ sg b j) : lcT a b i j = max (lcT a b (i + 1) j) (lcT a b i (j + 1)) := by
  unfold lcT; rw [bs_drop_cons hi, bs_drop_cons hj, len_step, if_neg e, Nat.max_comm]
theorem lcT_le (a b : ByteArray) (i j : Nat) : lcT a b i j ≤ a.size - i ∧ lcT a b i j ≤ b.size - j := by
  have h := cmn_le ((bs a).drop i) ((bs b).drop j)
  rw [List.length_drop, List.length_drop, bs_len, bs_len] at h
  exact h
theorem lcT_zero (a b : ByteArray) : lcT a b 0 0 = (cmn (bs a) (bs b)).length := rfl
theorem lcT_mono (a b : ByteArray) {i j p q : Nat} (hp : i ≤ p) (hq : j ≤ q) : lcT a b p q ≤ lcT a b i j := by
  have hc := cmn_cm ((bs a).drop p) ((bs b).drop q)
  have h1 : ((bs a).drop p).Sublist ((bs a).drop i) := by
    rw [show p = i + (p - i) by omega, ← List.drop_drop]; exact List.drop_sublist _ _
  have h2 : ((bs b).drop q).Sublist ((bs b).drop j) := by
    rw [show q = j + (q - j) by omega, ← List.drop_drop]; exact List.drop_sublist _ _
  exact cmn_len (hc.left.trans h1) (hc.right.trans h2)

/-- The table in one row, filled from place t on. -/
def lcF (a b : ByteArray) (t k : Nat) : Int := if t ≤ k then ((lcT a b (k / 25) (k % 25) : Nat) : Int) else 0
theorem lcF_start (a b : ByteArray) (k : Nat) : (0 : Int) = lcF a b (25 * a.size) k := by
  unfold lcF
  split
  · rw [lcT_left (by omega)]; rfl
  · rfl
theorem lcF_row {a b : ByteArray} (hb : b.size ≤ 24) (i k : Nat) : lcF a b (25 * (i + 1)) k = lcF a b (25 * i + b.size) k := by
  unfold lcF
  by_cases h : 25 * (i + 1) ≤ k
  · rw [if_pos h, if_pos (by omega)]
  · rw [if_neg h]
    split
    · rw [lcT_right (by omega)]; rfl
    · rfl
theorem lcF_at {a b : ByteArray} {t i j : Nat} (h : t ≤ 25 * i + j) (hj : j < 25) : lcF a b t (25 * i + j) = (lcT a b i j : Nat) := by
  unfold lcF
  rw [if_pos h, show (25 * i + j) / 25 = i by omega, show (25 * i + j) % 25 = j by omega]
theorem lcF_set (a b : ByteArray) {i j : Nat} (hj : j < 25) (k : Nat) : (if k = 25 * i + j then ((lcT a b i j : Nat) : Int) else lcF a b (25 * i + j + 1) k) = lcF a b (25 * i + j) k := by
  by_cases h : k = 25 * i + j
  · subst h; rw [if_pos rfl, lcF_at (Nat.le_refl _) hj]
  · unfold lcF
    by_cases h' : 25 * i + j ≤ k
    · rw [if_neg h, if_pos h', if_pos (by omega)]
    · rw [if_neg h, if_neg h', if_neg (by omega)]

/-- A common text of the ends from i and j, as long as can be, may begin at p and q. -/
def Fe (a b : ByteArray) (i j p q : Nat) : Prop := i ≤ p ∧ j ≤ q ∧ p < a.size ∧ q < b.size ∧ sg a p = sg b q ∧ lcT a b i j ≤ lcT a b p q
/-- The first such places of the least sign. -/
def Bg (a b : ByteArray) (i j x y : Nat) : Prop := Fe a b i j x y ∧ ∀ p q, Fe a b i j p q → sg a x < sg a p ∨ (sg a x = sg a p ∧ (x < p ∨ (x = p ∧ y ≤ q)))
/-- What has been found ahead of places p and q. -/
structure BgTo (a b : ByteArray) (i j p q : Nat) (found : Bool) (x y : Nat) : Prop where
  no : found = false → ∀ p' q', (p' < p ∨ (p' = p ∧ q' < q)) → ¬ Fe a b i j p' q'
  yes : found = true → Fe a b i j x y ∧ ∀ p' q', (p' < p ∨ (p' = p ∧ q' < q)) → Fe a b i j p' q' → sg a x < sg a p' ∨ (sg a x = sg a p' ∧ (x < p' ∨ (x = p' ∧ y ≤ q')))
  ahd : found = true → x < p ∨ (x = p ∧ y < q)
theorem bgTo_start (a b : ByteArray) (i j x y : Nat) : BgTo a b i j i j false x y :=
  ⟨fun _ p' q' h k => by obtain ⟨k1, k2, _⟩ := k; omega, fun h => (by cases h), fun h => (by cases h)⟩
theorem bgTo_row {a b : ByteArray} {i j p : Nat} {f : Bool} {x y : Nat} (h : BgTo a b i j p b.size f x y) : BgTo a b i j (p + 1) j f x y := by
  have key : ∀ p' q', (p' < p + 1 ∨ (p' = p + 1 ∧ q' < j)) → Fe a b i j p' q' → (p' < p ∨ (p' = p ∧ q' < b.size)) := fun p' q' h k => by
    obtain ⟨_, k2, _, k4, _⟩ := k; omega
  exact ⟨fun hf p' q' h1 k => h.no hf p' q' (key p' q' h1 k) k, fun hf => ⟨(h.yes hf).1, fun p' q' h1 k => (h.yes hf).2 p' q' (key p' q' h1 k) k⟩, fun hf => by
    have := h.ahd hf; omega⟩
theorem bgTo_skip {a b : ByteArray} {i j p q : Nat} {f : Bool} {x y : Nat} (h : BgTo a b i j p q f x y) (hn : ¬ Fe a b i j p q) : BgTo a b i j p (q + 1) f x y := by
  have key : ∀ p' q', (p' < p ∨ (p' = p ∧ q' < q + 1)) → Fe a b i j p' q' → (p' < p ∨ (p' = p ∧ q' < q)) := fun p' q' h k => by
    by_cases e : p' = p ∧ q' = q
    · obtain ⟨rfl, rfl⟩ := e; exact absurd k hn
    · omega
  exact ⟨fun hf p' q' h1 k => h.no hf p' q' (key p' q' h1 k) k, fun hf => ⟨(h.yes hf).1, fun p' q' h1 k => (h.yes hf).2 p' q' (key p' q' h1 k) k⟩, fun hf => by
    have := h.ahd hf; omega⟩
theorem bgTo_first {a b : ByteArray} {i j p q x y : Nat} (h : BgTo a b i j p q false x y) (hf : Fe a b i j p q) : BgTo a b i j p (q + 1) true p q :=
  ⟨fun h => (by cases h), fun _ => ⟨hf, fun p' q' h1 k => by
    by_cases e : p' = p ∧ q' = q
    · obtain ⟨rfl, rfl⟩ := e; exact .inr ⟨rfl, .inr ⟨rfl, Nat.le_refl _⟩⟩
    · exact absurd k (h.no rfl p' q' (by omega))⟩, fun _ => by omega⟩
theorem bgTo_less {a b : ByteArray} {i j p q x y : Nat} (h : BgTo a b i j p q true x y) (hf : Fe a b i j p q) (hl : sg a p < sg a x) : BgTo a b i j p (q + 1) true p q :=
  ⟨fun h => (by cases h), fun _ => ⟨hf, fun p' q' h1 k => by
    by_cases e : p' = p ∧ q' = q
    · obtain ⟨rfl, rfl⟩ := e; exact .inr ⟨rfl, .inr ⟨rfl, Nat.le_refl _⟩⟩
    · rcases (h.yes rfl).2 p' q' (by omega) k with h2 | ⟨h2, _⟩
      · exact .inl (UInt8.lt_trans hl h2)
      · exact .inl (h2 ▸ hl)⟩, fun _ => by omega⟩
theorem bgTo_keep {a b : ByteArray} {i j p q x y : Nat} (h : BgTo a b i j p q true x y) (hl : ¬ sg a p < sg a x) : BgTo a b i j p (q + 1) true x y := by
  have ha := h.ahd rfl
  refine ⟨fun h => (by cases h), fun _ => ⟨(h.yes rfl).1, fun p' q' h1 k => ?_⟩, fun _ => by omega⟩
  by_cases e : p' = p ∧ q' = q
  · obtain ⟨rfl, rfl⟩ := e
    rcases UInt8.lt_or_eq_of_le (UInt8.not_lt.1 hl) with h2 | h2
    · exact .inl h2
    · exact .inr ⟨h2, by omega⟩
  · exact (h.yes rfl).2 p' q' (by omega) k
theorem fe_ex {a b : ByteArray} {i j : Nat} (h : 0 < lcT a b i j) : ∃ x s p q, cmn ((bs a).drop i) ((bs b).drop j) = x :: s ∧ Fe a b i j p q ∧ sg a p = x ∧ s.Sublist ((bs a).drop (p + 1)) ∧ s.Sublist ((bs b).drop (q + 1)) := by
  have find : ∀ (c : ByteArray) (n i : Nat) (x : UInt8) (s : List UInt8), c.size - i ≤ n → (x :: s).Sublist ((bs c).drop i) → ∃ p, i ≤ p ∧ p < c.size ∧ sg c p = x ∧ s.Sublist ((bs c).drop (p + 1)) := by
    intro c n
    induction n with
    | zero =>
      intro i x s hn hs
      rw [bs_drop_nil (by omega)] at hs
      exact absurd hs (by simp)
    | succ n ih =>
      intro i x s hn hs
      by_cases hi : i < c.size
      · rw [bs_drop_cons hi] at hs
        rcases List.sublist_cons_iff.1 hs with k | ⟨r, e, k⟩
        · obtain ⟨p, h1, h2⟩ := ih (i + 1) x s (by omega) k
          exact ⟨p, by omega, h2⟩
        · injection e with e1 e2
          subst e2
          exact ⟨i, Nat.le_refl _, hi, e1.symm, k⟩
      · rw [bs_drop_nil (by omega)] at hs
        exact absurd hs (by simp)
  have hc := cmn_cm ((bs a).drop i) ((bs b).drop j)
  unfold lcT at h
  rcases e : cmn ((bs a).drop i) ((bs b).drop j) with _ | ⟨x, s⟩
  · rw [e] at h; exact absurd h (by simp)
  · rw [e] at hc
    obtain ⟨p, h1, h2, h3, h4⟩ := find a _ i x s (Nat.le_refl _) hc.left
    obtain ⟨q, k1, k2, k3, k4⟩ := find b _ j x s (Nat.le_refl _) hc.right
    refine ⟨x, s, p, q, rfl, ⟨h1, k1, h2, k2, h3.trans k3.symm, ?_⟩, h3, h4, k4⟩
    unfold lcT
    rw [e]
    refine cmn_len ?_ ?_
    · rw [bs_drop_cons h2, h3]; exact h4.cons_cons x
    · rw [bs_drop_cons k2, k3]; exact k4.cons_cons x
theorem bg_of {a b : ByteArray} {i j : Nat} {f : Bool} {x y q : Nat} (h : BgTo a b i j a.size q f x y) (hp : 0 < lcT a b i j) : Bg a b i j x y := by
  obtain ⟨_, _, p', q', _, hf, _⟩ := fe_ex hp
  cases f with
  | false => exact absurd hf (h.no rfl p' q' (.inl hf.2.2.1))
  | true => exact ⟨(h.yes rfl).1, fun p q k => (h.yes rfl).2 p q (.inl k.2.2.1) k⟩
theorem drop_within (s : ByteArray) {i j : Nat} (h : i ≤ j) : ((bs s).drop j).Sublist ((bs s).drop i) := by
  rw [show j = i + (j - i) by omega, ← List.drop_drop]; exact List.drop_sublist _ _
/-- So the best common text begins there. -/
theorem bg_cmn {a b : ByteArray} {i j x y : Nat} (h : Bg a b i j x y) (hp : 0 < lcT a b i j) : cmn ((bs a).drop i) ((bs b).drop j) = sg a x :: cmn ((bs a).drop (x + 1)) ((bs b).drop (y + 1)) := by
  obtain ⟨z, s, p, q, e, hf, hz, k1, k2⟩ := fe_ex hp
  obtain ⟨⟨f1, f2, f3, f4, f5, f6⟩, hm⟩ := h
  have hc := cmn_cm ((bs a).drop i) ((bs b).drop j)
  have hd := cmn_cm ((bs a).drop (x + 1)) ((bs b).drop (y + 1))
  have hle := lcT_mono a b f1 f2
  have hsm := lcT_same f3 f4 f5
  have hlen : s.length + 1 = (cmn ((bs a).drop (x + 1)) ((bs b).drop (y + 1))).length + 1 := by
    have : lcT a b i j = s.length + 1 := by unfold lcT; rw [e]; rfl
    have h2 : lcT a b (x + 1) (y + 1) = (cmn ((bs a).drop (x + 1)) ((bs b).drop (y + 1))).length := rfl
    omega
  have best := hc.most (sg a x :: cmn ((bs a).drop (x + 1)) ((bs b).drop (y + 1)))
    ((by rw [bs_drop_cons f3]; exact hd.left.cons_cons _ : List.Sublist _ ((bs a).drop x)).trans (drop_within a f1))
    ((by rw [bs_drop_cons f4, f5]; exact hd.right.cons_cons _ : List.Sublist _ ((bs b).drop y)).trans (drop_within b f2))
  rw [e] at best ⊢
  have hnl : ¬ (sg a x :: cmn ((bs a).drop (x + 1)) ((bs b).drop (y + 1))) < z :: s := by
    rcases best with h | ⟨_, h⟩
    · rw [List.length_cons, List.length_cons] at h; omega
    · exact h
  have hfm := hm p q hf
  have hxz : sg a x = z := by
    rcases hfm with h | ⟨h, _⟩
    · exact absurd (List.cons_lt_cons_iff.2 (.inl (hz ▸ h))) hnl
    · exact h.trans hz
  have hpl : x ≤ p := by
    rcases hfm with h | ⟨_, h⟩
    · rw [hz, hxz] at h; exact absurd h (UInt8.lt_irrefl _)
    · omega
  have hq : Fe a b i j x q := ⟨f1, hf.2.1, f3, hf.2.2.2.1, hxz.trans (hz.symm.trans hf.2.2.2.2.1), Nat.le_trans hf.2.2.2.2.2 (lcT_mono a b hpl (Nat.le_refl _))⟩
  have hyl : y ≤ q := by
    rcases hm x q hq with h | ⟨_, h⟩
    · exact absurd h (UInt8.lt_irrefl _)
    · omega
  have hs := hd.most s (k1.trans (drop_within a (by omega))) (k2.trans (drop_within b (by omega)))
  rw [← hxz] at best ⊢
  exact nw_anti best (nw_cons hs)
/-- With nothing left in common. -/
theorem cmn_done {a b : ByteArray} {i j : Nat} (h : lcT a b i j = 0) : cmn ((bs a).drop i) ((bs b).drop j) = [] := List.eq_nil_of_length_eq_zero h

/-- Within, by the first place of a sign. -/
theorem wiB_some (x : UInt8) (l : List UInt8) : ∀ (m : List UInt8) (k : Nat), m[k]? = some x → (∀ i, i < k → m[i]? ≠ some x) → wiB (x :: l) m = wiB l (m.drop (k + 1))
  | [], k, h, _ => by simp at h
  | y :: m, 0, h, _ => by
    simp at h
    rw [wiB, if_pos h.symm]; rfl
  | y :: m, k + 1, h, hn => by
    have h0 := hn 0 (by omega)
    simp at h h0
    rw [wiB, if_neg (fun e => h0 e.symm), wiB_some x l m k h (fun i hi => by have := hn (i + 1) (by omega); simpa using this)]
    rfl
theorem wiB_none (x : UInt8) (l : List UInt8) : ∀ (m : List UInt8), (∀ i : Nat, m[i]? ≠ some x) → wiB (x :: l) m = false
  | [], _ => by rw [wiB]
  | y :: m, hn => by
    have h0 := hn 0
    simp at h0
    rw [wiB, if_neg (fun e => h0 e.symm), wiB_none x l m (fun i => by have := hn (i + 1); simpa using this)]
end Go.Proofs.YtaodocdddfkglaaDoor
