/-
  Plain mathematics of Huffman's codes, without a program: what codes cost, how much room they take, that joining the two lightest again and again costs least, that it leaves no room, and the lengths that it gives where the first one of several is taken. No condition.
-/
namespace Go.Proofs.YtmfpjbhgmcmceaaDoor

/-- What weights with lengths cost. -/
def cst : List (Int × Nat) → Int
  | [] => 0
  | x :: P => x.1 * (x.2 : Int) + cst P
/-- The room that they take, of 2 ^ M. -/
def kr (M : Nat) : List (Int × Nat) → Nat
  | [] => 0
  | x :: P => 2 ^ (M - x.2) + kr M P
theorem cst_app (P Q : List (Int × Nat)) : cst (P ++ Q) = cst P + cst Q := by
  induction P with
  | nil => simp [cst]
  | cons x P ih => simp only [List.cons_append, cst, ih]; omega
theorem kr_app (M : Nat) (P Q : List (Int × Nat)) : kr M (P ++ Q) = kr M P + kr M Q := by
  induction P with
  | nil => simp [kr]
  | cons x P ih => simp only [List.cons_append, kr, ih]; omega
theorem cst_perm {P Q : List (Int × Nat)} (h : P.Perm Q) : cst P = cst Q := by
  induction h with
  | nil => rfl
  | cons x _ ih => simp only [cst, ih]
  | swap x y l => simp only [cst]; omega
  | trans _ _ h1 h2 => exact h1.trans h2
theorem kr_perm (M : Nat) {P Q : List (Int × Nat)} (h : P.Perm Q) : kr M P = kr M Q := by
  induction h with
  | nil => rfl
  | cons x _ ih => simp only [kr, ih]
  | swap x y l => simp only [kr]; omega
  | trans _ _ h1 h2 => exact h1.trans h2
theorem kr_up {N : Nat} : ∀ {P : List (Int × Nat)}, (∀ x ∈ P, x.2 ≤ N) → kr (N + 1) P = 2 * kr N P
  | [], _ => rfl
  | x :: P, h => by
    have h1 := h x (by simp)
    have ih := kr_up (P := P) fun y hy => h y (by simp [hy])
    simp only [kr]
    rw [ih, show N + 1 - x.2 = (N - x.2) + 1 by omega, Nat.pow_succ]
    omega
/-- A list that is another one's by some part of its elements can be put in that order. -/
theorem perm_lift {α β : Type} {f : α → β} {L1 L2 : List β} (h : L1.Perm L2) : ∀ P : List α, P.map f = L1 → ∃ P', P.Perm P' ∧ P'.map f = L2 := by
  induction h with
  | nil => intro P hP; exact ⟨P, List.Perm.refl _, hP⟩
  | cons x _ ih =>
    intro P hP
    cases P with
    | nil => simp at hP
    | cons y P =>
      simp only [List.map_cons, List.cons.injEq] at hP
      obtain ⟨P', h1, h2⟩ := ih P hP.2
      exact ⟨y :: P', h1.cons y, by simp [hP.1, h2]⟩
  | swap x y l =>
    intro P hP
    match P, hP with
    | u :: v :: P, hP =>
      simp only [List.map_cons, List.cons.injEq] at hP
      exact ⟨v :: u :: P, List.Perm.swap v u P, by simp [hP.1, hP.2.1, hP.2.2]⟩
  | trans _ _ ih1 ih2 =>
    intro P hP
    obtain ⟨P', h1, h2⟩ := ih1 P hP
    obtain ⟨P'', h3, h4⟩ := ih2 P' h2
    exact ⟨P'', h1.trans h3, h4⟩

/-- The lightest one may have the longest code. -/
theorem longest_front {a : Int} : ∀ (R : List (Int × Nat)) (p : Nat), (∀ x ∈ R, a ≤ x.1) → ∃ p' R', R'.map Prod.fst = R.map Prod.fst ∧ (∀ x ∈ R', x.2 ≤ p') ∧ cst ((a, p') :: R') ≤ cst ((a, p) :: R) ∧ (∀ M, kr M ((a, p') :: R') = kr M ((a, p) :: R)) ∧ ∀ B, p ≤ B → (∀ x ∈ R, x.2 ≤ B) → p' ≤ B ∧ ∀ x ∈ R', x.2 ≤ B
  | [], p, _ => ⟨p, [], rfl, by simp, Int.le_refl _, fun _ => rfl, fun B h _ => ⟨h, by simp⟩⟩
  | (x, r) :: R, p, h => by
    obtain ⟨p1, R1, e1, l1, c1, k1, b1⟩ := longest_front R p fun y hy => h y (by simp [hy])
    have hx : a ≤ x := h (x, r) (by simp)
    simp only [cst] at c1
    simp only [kr] at k1
    by_cases hr : r ≤ p1
    · refine ⟨p1, (x, r) :: R1, by simp [e1], ?_, ?_, ?_, ?_⟩
      · intro y hy
        rcases List.mem_cons.1 hy with rfl | hy
        · exact hr
        · exact l1 y hy
      · simp only [cst]; omega
      · intro M; have := k1 M; simp only [kr]; omega
      · intro B hp hB
        obtain ⟨h1, h2⟩ := b1 B hp fun y hy => hB y (by simp [hy])
        refine ⟨h1, fun y hy => ?_⟩
        rcases List.mem_cons.1 hy with rfl | hy
        · exact hB (x, r) (by simp)
        · exact h2 y hy
    · refine ⟨r, (x, p1) :: R1, by simp [e1], ?_, ?_, ?_, ?_⟩
      · intro y hy
        rcases List.mem_cons.1 hy with rfl | hy
        · show p1 ≤ r; omega
        · have := l1 y hy; omega
      · simp only [cst]
        have hm : 0 ≤ (x - a) * ((r : Int) - (p1 : Int)) := Int.mul_nonneg (by omega) (by omega)
        rw [Int.sub_mul, Int.mul_sub, Int.mul_sub] at hm
        omega
      · intro M; have := k1 M; simp only [kr]; omega
      · intro B hp hB
        obtain ⟨h1, h2⟩ := b1 B hp fun y hy => hB y (by simp [hy])
        refine ⟨hB (x, r) (by simp), fun y hy => ?_⟩
        rcases List.mem_cons.1 hy with rfl | hy
        · exact h1
        · exact h2 y hy
theorem kr_dvd {M q : Nat} : ∀ {P : List (Int × Nat)}, (∀ x ∈ P, x.2 ≤ q) → q ≤ M → 2 ^ (M - q) ∣ kr M P
  | [], _, _ => ⟨0, rfl⟩
  | x :: P, h, hq => by
    have h1 := h x (by simp)
    refine Nat.dvd_add ?_ (kr_dvd (fun y hy => h y (by simp [hy])) hq)
    exact Nat.pow_dvd_pow 2 (by omega)
/-- A code that is longer than all others may be as long as the next one. -/
theorem kr_even {M p q : Nat} {a b : Int} {R : List (Int × Nat)} (hq : ∀ x ∈ R, x.2 ≤ q) (hpq : q ≤ p) (hM : p ≤ M) (h : kr M ((a, p) :: (b, q) :: R) ≤ 2 ^ M) : kr M ((a, q) :: (b, q) :: R) ≤ 2 ^ M := by
  have hd : 2 ^ (M - q) ∣ kr M ((b, q) :: R) := kr_dvd (by
    intro x hx
    rcases List.mem_cons.1 hx with rfl | hx
    · exact Nat.le_refl _
    · exact hq x hx) (by omega)
  have hd2 : 2 ^ (M - q) ∣ 2 ^ M := Nat.pow_dvd_pow 2 (by omega)
  have hpos : 0 < 2 ^ (M - p) := Nat.pow_pos (by omega)
  have e1 : kr M ((a, p) :: (b, q) :: R) = 2 ^ (M - p) + kr M ((b, q) :: R) := rfl
  have e2 : kr M ((a, q) :: (b, q) :: R) = 2 ^ (M - q) + kr M ((b, q) :: R) := rfl
  rw [e1] at h
  rw [e2]
  obtain ⟨s, hs⟩ := hd
  obtain ⟨t, ht⟩ := hd2
  rw [hs] at h ⊢
  rw [ht] at h ⊢
  have hlt : 2 ^ (M - q) * s < 2 ^ (M - q) * t := by omega
  have hst : s < t := Nat.lt_of_mul_lt_mul_left hlt
  have : 2 ^ (M - q) * (s + 1) ≤ 2 ^ (M - q) * t := Nat.mul_le_mul_left _ hst
  rw [Nat.mul_add, Nat.mul_one] at this
  omega
theorem cst_pos {P : List (Int × Nat)} (h : ∀ x ∈ P, 0 ≤ x.1) : 0 ≤ cst P := by
  induction P with
  | nil => exact Int.le_refl _
  | cons x P ih =>
    have h1 := ih fun y hy => h y (by simp [hy])
    have h2 : 0 ≤ x.1 * (x.2 : Int) := Int.mul_nonneg (h x (by simp)) (by omega)
    simp only [cst]
    omega

/-- What joining the two lightest again and again costs. -/
inductive HC : List Int → Int → Prop
  | one (w : Int) : HC [w] 0
  | step {l l2 : List Int} {a b c : Int} (hp : l.Perm (a :: b :: l2)) (ha : ∀ x ∈ l, a ≤ x) (hb : ∀ x ∈ l2, b ≤ x) (h : HC (l2 ++ [a + b]) c) : HC l (a + b + c)
/-- HUFFMAN: no code costs less. -/
theorem hc_least {l : List Int} {c : Int} (h : HC l c) : (∀ x ∈ l, 0 ≤ x) → ∀ (P : List (Int × Nat)) (M : Nat), (P.map Prod.fst).Perm l → (∀ x ∈ P, x.2 ≤ M) → kr M P ≤ 2 ^ M → c ≤ cst P := by
  induction h with
  | one w =>
    intro h0 P M hP _ _
    refine cst_pos fun x hx => h0 x.1 ?_
    exact hP.mem_iff.1 (List.mem_map.2 ⟨x, hx, rfl⟩)
  | @step l l2 a b c hp ha hb h ih =>
    intro h0 P M hP hM hk
    obtain ⟨P1, hp1, hf1⟩ := perm_lift (hP.trans hp) P rfl
    match P1, hf1 with
    | (a', p) :: (b', q) :: R, hf1 =>
      simp only [List.map_cons, List.cons.injEq] at hf1
      obtain ⟨rfl, rfl, hR⟩ := hf1
      have ha0 : 0 ≤ a' := h0 a' (hp.mem_iff.2 (by simp))
      have hb0 : 0 ≤ b' := h0 b' (hp.mem_iff.2 (by simp))
      have hab : a' ≤ b' := ha b' (hp.mem_iff.2 (by simp))
      have hR2 : ∀ x ∈ R, x.1 ∈ l2 := fun x hx => by rw [← hR]; exact List.mem_map.2 ⟨x, hx, rfl⟩
      have hM1 : ∀ x ∈ (a', p) :: (b', q) :: R, x.2 ≤ M := fun x hx => hM x (hp1.mem_iff.2 hx)
      rw [cst_perm hp1]
      rw [kr_perm M hp1] at hk
      -- the lightest one in front
      obtain ⟨p1, S, e1, l1, c1, k1, b1⟩ := longest_front (a := a') ((b', q) :: R) p (by
        intro x hx
        rcases List.mem_cons.1 hx with rfl | hx
        · exact hab
        · exact ha x.1 (hp.mem_iff.2 (by simp [hR2 x hx])))
      match S, e1, l1, c1, k1, b1 with
      | (b'', q1) :: R1, e1, l1, c1, k1, b1 =>
        simp only [List.map_cons, List.cons.injEq] at e1
        obtain ⟨rfl, f1⟩ := e1
        obtain ⟨hp1M, hM2⟩ := b1 M (hM1 (a', p) (by simp)) fun x hx => hM1 x (by simp at hx ⊢; exact .inr hx)
        have hR3 : ∀ x ∈ R1, b'' ≤ x.1 := fun x hx => hb x.1 (by rw [← hR, ← f1]; exact List.mem_map.2 ⟨x, hx, rfl⟩)
        -- the next one behind it
        obtain ⟨q2, R2, e2, l2', c2, k2, b2⟩ := longest_front R1 q1 hR3
        have hq2p : q2 ≤ p1 := (b2 p1 (l1 (b'', q1) (by simp)) fun x hx => l1 x (by simp [hx])).1
        have hk1 : kr M ((a', p1) :: (b'', q2) :: R2) ≤ 2 ^ M := by
          have h1 := k1 M
          have h2 := k2 M
          simp only [kr] at h1 h2 hk ⊢
          omega
        have hk2 := kr_even l2' hq2p hp1M hk1
        have hq1 : 1 ≤ q2 := by
          rcases Nat.eq_zero_or_pos q2 with e | e
          · subst e
            simp only [kr, Nat.sub_zero] at hk2
            have : 0 < 2 ^ M := Nat.pow_pos (by omega)
            omega
          · exact e
        obtain ⟨r, rfl⟩ : ∃ r, q2 = r + 1 := ⟨q2 - 1, by omega⟩
        have hw : 2 ^ (M - (r + 1)) + 2 ^ (M - (r + 1)) = 2 ^ (M - r) := by
          rw [show M - r = (M - (r + 1)) + 1 by omega, Nat.pow_succ]; omega
        have hM3 := (b2 M (hM2 (b'', q1) (by simp)) fun x hx => hM2 x (by simp [hx])).2
        have hi := ih (by
          intro x hx
          rcases List.mem_append.1 hx with hx | hx
          · exact h0 x (hp.mem_iff.2 (by simp [hx]))
          · rw [List.mem_singleton.1 hx]; omega) (R2 ++ [(a' + b'', r)]) M (by
          rw [List.map_append, e2, f1, hR]; exact List.Perm.refl _) (by
          intro x hx
          rcases List.mem_append.1 hx with hx | hx
          · exact hM3 x hx
          · rw [List.mem_singleton.1 hx]; show r ≤ M; omega) (by
          rw [kr_app]
          simp only [kr] at hk2 ⊢
          omega)
        rw [cst_app] at hi
        simp only [cst] at hi c1 c2 ⊢
        have hap : a' * ((r : Int) + 1) ≤ a' * (p1 : Int) := Int.mul_le_mul_of_nonneg_left (by omega) ha0
        have e3 : (a' + b'') * (r : Int) = a' * (r : Int) + b'' * (r : Int) := Int.add_mul _ _ _
        have e4 : a' * ((r : Int) + 1) = a' * (r : Int) + a' := by rw [Int.mul_add, Int.mul_one]
        have e5 : b'' * ((r : Int) + 1) = b'' * (r : Int) + b'' := by rw [Int.mul_add, Int.mul_one]
        have e6 : (((r + 1 : Nat)) : Int) = (r : Int) + 1 := by omega
        rw [e6] at c2
        rw [e5] at c2
        omega

/-- A list with something at its end. -/
theorem map_snoc {α β : Type} {f : α → β} {P : List α} {l : List β} {b : β} (h : P.map f = l ++ [b]) : ∃ R x, P = R ++ [x] ∧ R.map f = l ∧ f x = b := by
  rcases List.eq_nil_or_concat P with rfl | ⟨R, x, rfl⟩
  · simp at h
  · rw [List.concat_eq_append, List.map_append] at h
    obtain ⟨h1, h2⟩ := List.append_inj' h rfl
    exact ⟨R, x, by simp, h1, by simpa using h2⟩
/-- There are codes that cost so much and leave no room. -/
theorem hc_code {l : List Int} {c : Int} (h : HC l c) : ∃ P : List (Int × Nat), P.map Prod.fst = l ∧ cst P = c ∧ ∀ M, l.length ≤ M + 1 → (∀ x ∈ P, x.2 ≤ M) ∧ kr M P = 2 ^ M := by
  induction h with
  | one w => exact ⟨[(w, 0)], rfl, by simp [cst], fun M _ => ⟨by simp, by simp [kr]⟩⟩
  | @step l l2 a b c hp ha hb h ih =>
    obtain ⟨P, hf, hc, hk⟩ := ih
    obtain ⟨R, ⟨s, r⟩, rfl, hR, hs⟩ := map_snoc hf
    obtain rfl : s = a + b := hs
    obtain ⟨Q, hQ, hQf⟩ := perm_lift (f := Prod.fst) hp.symm ((a, r + 1) :: (b, r + 1) :: R) (by simp [hR])
    refine ⟨Q, hQf, ?_, fun M hM => ?_⟩
    · rw [← cst_perm hQ, ← hc, cst_app]
      simp only [cst]
      have e1 : (a + b) * (r : Int) = a * (r : Int) + b * (r : Int) := Int.add_mul _ _ _
      have e2 : a * (((r + 1 : Nat)) : Int) = a * (r : Int) + a := by rw [show (((r + 1 : Nat)) : Int) = (r : Int) + 1 by omega, Int.mul_add, Int.mul_one]
      have e3 : b * (((r + 1 : Nat)) : Int) = b * (r : Int) + b := by rw [show (((r + 1 : Nat)) : Int) = (r : Int) + 1 by omega, Int.mul_add, Int.mul_one]
      omega
    · have hl := hp.length_eq
      simp only [List.length_cons] at hl
      obtain ⟨N, rfl⟩ : ∃ N, M = N + 1 := ⟨M - 1, by omega⟩
      obtain ⟨h1, h2⟩ := hk N (by simp; omega)
      have hr : r ≤ N := h1 (a + b, r) (by simp)
      refine ⟨fun x hx => ?_, ?_⟩
      · have := hQ.mem_iff.2 hx
        simp only [List.mem_cons] at this
        rcases this with rfl | rfl | this
        · show r + 1 ≤ N + 1; omega
        · show r + 1 ≤ N + 1; omega
        · have := h1 x (by simp [this]); omega
      · rw [← kr_perm (N + 1) hQ]
        have hu := kr_up (N := N) (P := R) fun x hx => h1 x (by simp [hx])
        rw [kr_app] at h2
        simp only [kr] at h2 ⊢
        rw [hu, show N + 1 - (r + 1) = N - r by omega, Nat.pow_succ]
        omega
theorem hc_perm {l l' : List Int} {c : Int} (h : HC l c) (hp : l.Perm l') : HC l' c := by
  cases h with
  | one w => rw [List.perm_singleton.1 hp.symm]; exact .one w
  | step hq ha hb h => exact .step (hp.symm.trans hq) (fun x hx => ha x (hp.mem_iff.2 hx)) hb h
theorem hc_one {l : List Int} {c c' : Int} (h : HC l c) (h' : HC l c') (h0 : ∀ x ∈ l, 0 ≤ x) : c = c' := by
  obtain ⟨P, f, e, k⟩ := hc_code h
  obtain ⟨P', f', e', k'⟩ := hc_code h'
  obtain ⟨m1, m2⟩ := k l.length (by omega)
  obtain ⟨m1', m2'⟩ := k' l.length (by omega)
  have h1 := hc_least h h0 P' l.length (by rw [f']) m1' (by omega)
  have h2 := hc_least h' h0 P l.length (by rw [f]) m1 (by omega)
  omega
/-- Twice as heavy, twice as much. -/
theorem hc_twice {l : List Int} {c : Int} (h : HC l c) : HC (l.map fun x => 2 * x) (2 * c) := by
  induction h with
  | one w => exact .one (2 * w)
  | @step l l2 a b c hp ha hb h ih =>
    have hp2 := hp.map fun x => 2 * x
    simp only [List.map_cons] at hp2
    have : HC (l.map fun x => 2 * x) (2 * a + 2 * b + 2 * c) := by
      refine .step hp2 ?_ ?_ ?_
      · intro x hx
        obtain ⟨y, hy, rfl⟩ := List.mem_map.1 hx
        have := ha y hy; omega
      · intro x hx
        obtain ⟨y, hy, rfl⟩ := List.mem_map.1 hx
        have := hb y hy; omega
      · rw [List.map_append] at ih
        simp only [List.map_cons, List.map_nil] at ih
        rw [show 2 * (a + b) = 2 * a + 2 * b by omega] at ih
        exact ih
    rw [show 2 * (a + b + c) = 2 * a + 2 * b + 2 * c by omega]
    exact this
/-- Two put together save no more than both weigh. -/
theorem hc_both {a b c k : Int} {l : List Int} (h : HC (a :: b :: l) c) (h' : HC ((a + b) :: l) k) (h0 : ∀ x ∈ a :: b :: l, 0 ≤ x) : c ≤ k + a + b := by
  obtain ⟨P, f, e, hk⟩ := hc_code h'
  match P, f with
  | (s, r) :: R, f =>
    simp only [List.map_cons, List.cons.injEq] at f
    obtain ⟨rfl, hR⟩ := f
    obtain ⟨m1, m2⟩ := hk l.length (by simp)
    have hr : r ≤ l.length := m1 (a + b, r) (by simp)
    have hu := kr_up (N := l.length) (P := R) fun x hx => m1 x (by simp [hx])
    have := hc_least h h0 ((a, r + 1) :: (b, r + 1) :: R) (l.length + 1) (by simp [hR]) (by
      intro x hx
      simp only [List.mem_cons] at hx
      rcases hx with rfl | rfl | hx
      · show r + 1 ≤ l.length + 1; omega
      · show r + 1 ≤ l.length + 1; omega
      · have := m1 x (by simp [hx]); omega) (by
      simp only [kr] at m2 ⊢
      rw [hu, show l.length + 1 - (r + 1) = l.length - r by omega, Nat.pow_succ]
      omega)
    simp only [cst] at this e
    have e1 : (a + b) * (r : Int) = a * (r : Int) + b * (r : Int) := Int.add_mul _ _ _
    have e2 : a * (((r + 1 : Nat)) : Int) = a * (r : Int) + a := by rw [show (((r + 1 : Nat)) : Int) = (r : Int) + 1 by omega, Int.mul_add, Int.mul_one]
    have e3 : b * (((r + 1 : Nat)) : Int) = b * (r : Int) + b := by rw [show (((r + 1 : Nat)) : Int) = (r : Int) + 1 by omega, Int.mul_add, Int.mul_one]
    omega
/-- In a code that costs least a heavier one has no longer code. -/
theorem hc_heavy {l : List Int} {c : Int} (h : HC l c) (h0 : ∀ x ∈ l, 0 ≤ x) {R : List (Int × Nat)} {x y : Int} {m n M : Nat} (hP : (((x, m) :: (y, n) :: R).map Prod.fst).Perm l) (hM : ∀ z ∈ (x, m) :: (y, n) :: R, z.2 ≤ M) (hk : kr M ((x, m) :: (y, n) :: R) ≤ 2 ^ M) (hc : cst ((x, m) :: (y, n) :: R) = c) (hxy : y < x) : m ≤ n := by
  rcases Nat.lt_or_ge n m with hlt | hge
  · exfalso
    have := hc_least h h0 ((x, n) :: (y, m) :: R) M hP (by
      intro z hz
      simp only [List.mem_cons] at hz
      rcases hz with rfl | rfl | hz
      · exact hM (y, n) (by simp)
      · exact hM (x, m) (by simp)
      · exact hM z (by simp [hz])) (by simp only [kr] at hk ⊢; omega)
    simp only [cst] at hc this
    have hm : 0 < (x - y) * ((m : Int) - (n : Int)) := Int.mul_pos (by omega) (by omega)
    rw [Int.sub_mul, Int.mul_sub, Int.mul_sub] at hm
    omega
  · exact hge

/-! ### The first one of several -/
/-- The first place of the least. -/
def FMin (l : List Int) (k : Nat) : Prop := k < l.length ∧ (∀ j, j < l.length → l.getD k 0 ≤ l.getD j 0) ∧ ∀ j, j < k → l.getD k 0 < l.getD j 0
theorem fmin_one {l : List Int} {k k' : Nat} (h : FMin l k) (h' : FMin l k') : k = k' := by
  rcases Nat.lt_trichotomy k k' with e | e | e
  · have h1 := h'.2.2 k e; have h2 := h.2.1 k' h'.1; omega
  · exact e
  · have h1 := h.2.2 k' e; have h2 := h'.2.1 k h.1; omega
theorem fmin_ex (l : List Int) (h : l ≠ []) : ∃ k, FMin l k := by
  suffices ∀ n, n < l.length → ∃ k, k ≤ n ∧ (∀ j, j ≤ n → l.getD k 0 ≤ l.getD j 0) ∧ ∀ j, j < k → l.getD k 0 < l.getD j 0 by
    have hl : 0 < l.length := List.length_pos_iff.2 h
    obtain ⟨k, h1, h2, h3⟩ := this (l.length - 1) (by omega)
    exact ⟨k, by omega, fun j hj => h2 j (by omega), h3⟩
  intro n
  induction n with
  | zero =>
    intro _
    refine ⟨0, Nat.le_refl _, fun j hj => ?_, fun j hj => by omega⟩
    obtain rfl : j = 0 := by omega
    exact Int.le_refl _
  | succ n ih =>
    intro hn
    obtain ⟨k, h1, h2, h3⟩ := ih (by omega)
    by_cases hlt : l.getD (n + 1) 0 < l.getD k 0
    · refine ⟨n + 1, Nat.le_refl _, fun j hj => ?_, fun j hj => ?_⟩
      · rcases Nat.lt_or_ge n j with e | e
        · obtain rfl : j = n + 1 := by omega
          exact Int.le_refl _
        · have := h2 j e; omega
      · have := h2 j (by omega); omega
    · refine ⟨k, by omega, fun j hj => ?_, h3⟩
      rcases Nat.lt_or_ge n j with e | e
      · obtain rfl : j = n + 1 := by omega
        omega
      · exact h2 j e
theorem fmin_le {l : List Int} {k : Nat} (h : FMin l k) : ∀ x ∈ l, l.getD k 0 ≤ x := by
  intro x hx
  obtain ⟨j, hj, rfl⟩ := List.getElem_of_mem hx
  have := h.2.1 j hj
  rw [List.getD_eq_getElem?_getD (l := l) (i := j), List.getElem?_eq_getElem hj] at this
  exact this
/-- A list is what stands at a place and the rest. -/
theorem perm_at {α : Type} (d : α) : ∀ (l : List α) (k : Nat), k < l.length → l.Perm (l.getD k d :: l.eraseIdx k)
  | x :: l, 0, _ => List.Perm.refl _
  | x :: l, k + 1, h => by
    have ih := perm_at d l k (by simpa using h)
    have e1 : (x :: l).getD (k + 1) d = l.getD k d := rfl
    rw [e1, List.eraseIdx_cons_succ]
    exact (ih.cons x).trans (List.Perm.swap _ _ _)
/-- A place put in among the second parts. -/
theorem zip_ins {α : Type} (d : α) : ∀ (l : List α) (D : List Nat) (k x : Nat), k < l.length → D.length + 1 = l.length → (l.zip (D.insertIdx k x)).Perm ((l.getD k d, x) :: (l.eraseIdx k).zip D)
  | y :: l, D, 0, x, _, _ => by simp
  | y :: l, [], k + 1, x, h, hD => by
    exfalso
    simp only [List.length_cons, List.length_nil] at h hD
    omega
  | y :: l, e :: D, k + 1, x, h, hD => by
    have ih := zip_ins d l D k x (by simpa using h) (by simpa using hD)
    have e1 : (y :: l).getD (k + 1) d = l.getD k d := rfl
    rw [e1, List.eraseIdx_cons_succ, List.insertIdx_succ_cons, List.zip_cons_cons, List.zip_cons_cons]
    exact (ih.cons _).trans (List.Perm.swap _ _ _)
/-- The lengths that come of joining the two lightest, the first one of several, again and again. -/
inductive Dep : List Int → List Nat → Prop
  | one (w : Int) : Dep [w] [0]
  | step {l : List Int} {k m p : Nat} {D : List Nat} (h2 : 2 ≤ l.length) (hk : FMin l k) (hm : FMin (l.eraseIdx k) m) (h : Dep ((l.eraseIdx k).eraseIdx m ++ [l.getD k 0 + (l.eraseIdx k).getD m 0]) (D ++ [p])) :
      Dep l ((D.insertIdx m (p + 1)).insertIdx k (p + 1))
theorem dep_len {l : List Int} {D : List Nat} (h : Dep l D) : D.length = l.length := by
  induction h with
  | one w => rfl
  | @step l k m p D h2 hk hm h ih =>
    have h1 := hk.1
    have h3 := hm.1
    rw [List.length_eraseIdx_of_lt h1] at h3
    simp only [List.length_append, List.length_cons, List.length_nil] at ih
    rw [List.length_eraseIdx_of_lt hm.1, List.length_eraseIdx_of_lt h1] at ih
    rw [List.length_insertIdx_of_le_length, List.length_insertIdx_of_le_length]
    · omega
    · omega
    · rw [List.length_insertIdx_of_le_length (by omega)]; omega
theorem dep_one {l : List Int} {D D' : List Nat} (h : Dep l D) (h' : Dep l D') : D = D' := by
  induction h generalizing D' with
  | one w =>
    cases h' with
    | one _ => rfl
    | step h2 _ _ _ => simp at h2
  | @step l k m p D h2 hk hm h ih =>
    cases h' with
    | one _ => simp at h2
    | @step _ k' m' p' E _ hk' hm' h' =>
      obtain rfl := fmin_one hk hk'
      obtain rfl := fmin_one hm hm'
      have := ih h'
      obtain ⟨e1, e2⟩ := List.append_inj' this rfl
      obtain rfl : p = p' := by simpa using e2
      rw [e1]
theorem dep_ex : ∀ (n : Nat) (l : List Int), l.length = n + 1 → ∃ D, Dep l D
  | 0, l, h => by
    obtain ⟨w, rfl⟩ := List.length_eq_one_iff.1 h
    exact ⟨_, .one w⟩
  | n + 1, l, h => by
    obtain ⟨k, hk⟩ := fmin_ex l (fun e => by rw [e] at h; simp at h)
    have h1 : (l.eraseIdx k).length = n + 1 := by rw [List.length_eraseIdx_of_lt hk.1, h]; omega
    obtain ⟨m, hm⟩ := fmin_ex (l.eraseIdx k) (fun e => by rw [e] at h1; simp at h1)
    have h2 : ((l.eraseIdx k).eraseIdx m).length = n := by rw [List.length_eraseIdx_of_lt hm.1, h1]; omega
    obtain ⟨E, hE⟩ := dep_ex n ((l.eraseIdx k).eraseIdx m ++ [l.getD k 0 + (l.eraseIdx k).getD m 0]) (by simp [h2])
    have hl := dep_len hE
    rcases List.eq_nil_or_concat E with rfl | ⟨D, p, rfl⟩
    · simp [h2] at hl
    · rw [List.concat_eq_append] at hE
      exact ⟨_, .step (by omega) hk hm hE⟩
/-- The weights with their lengths, by the two that are joined. -/
theorem dep_zip {α : Type} (d : α) {hs : List α} {k m p : Nat} {D : List Nat} (hk : k < hs.length) (hm : m < (hs.eraseIdx k).length) (hD : D.length + 2 = hs.length) :
    (hs.zip ((D.insertIdx m (p + 1)).insertIdx k (p + 1))).Perm ((hs.getD k d, p + 1) :: ((hs.eraseIdx k).getD m d, p + 1) :: ((hs.eraseIdx k).eraseIdx m).zip D) := by
  have h1 := List.length_eraseIdx_of_lt hk
  refine (zip_ins d hs (D.insertIdx m (p + 1)) k (p + 1) hk ?_).trans ((zip_ins d (hs.eraseIdx k) D m (p + 1) hm (by omega)).cons _)
  rw [List.length_insertIdx_of_le_length (by omega)]
  omega

theorem dep_zip_all {l : List Int} {k m p : Nat} {D : List Nat} (h2 : 2 ≤ l.length) (hk : FMin l k) (hm : FMin (l.eraseIdx k) m) (h : Dep ((l.eraseIdx k).eraseIdx m ++ [l.getD k 0 + (l.eraseIdx k).getD m 0]) (D ++ [p])) :
    (l.zip ((D.insertIdx m (p + 1)).insertIdx k (p + 1))).Perm ((l.getD k 0, p + 1) :: ((l.eraseIdx k).getD m 0, p + 1) :: ((l.eraseIdx k).eraseIdx m).zip D) ∧
    ((l.eraseIdx k).eraseIdx m ++ [l.getD k 0 + (l.eraseIdx k).getD m 0]).zip (D ++ [p]) = ((l.eraseIdx k).eraseIdx m).zip D ++ [(l.getD k 0 + (l.eraseIdx k).getD m 0, p)] ∧ D.length + 2 = l.length := by
  have hl := dep_len h
  simp only [List.length_append, List.length_cons, List.length_nil] at hl
  have h3 : D.length = ((l.eraseIdx k).eraseIdx m).length := by omega
  have h4 := h3
  rw [List.length_eraseIdx_of_lt hm.1, List.length_eraseIdx_of_lt hk.1] at h4
  have h5 := hm.1
  rw [List.length_eraseIdx_of_lt hk.1] at h5
  refine ⟨dep_zip 0 hk.1 hm.1 (by omega), ?_, by omega⟩
  rw [List.zip_append h3.symm]
  rfl
/-- The lengths cost what joining costs. -/
theorem dep_hc {l : List Int} {D : List Nat} (h : Dep l D) : HC l (cst (l.zip D)) := by
  induction h with
  | one w =>
    have : cst ([w].zip [0]) = 0 := by simp [cst]
    rw [this]
    exact .one w
  | @step l k m p D h2 hk hm h ih =>
    obtain ⟨z1, z2, _⟩ := dep_zip_all h2 hk hm h
    rw [z2, cst_app] at ih
    have hp := (perm_at 0 l k hk.1).trans ((perm_at 0 (l.eraseIdx k) m hm.1).cons _)
    have := HC.step hp (fmin_le hk) (fun x hx => fmin_le hm x (List.mem_of_mem_eraseIdx hx)) ih
    rw [cst_perm z1]
    simp only [cst] at this ⊢
    generalize l.getD k 0 = a at this ⊢
    generalize (l.eraseIdx k).getD m 0 = b at this ⊢
    have e1 : (a + b) * (p : Int) = a * (p : Int) + b * (p : Int) := Int.add_mul _ _ _
    have e2 : a * (((p + 1 : Nat)) : Int) = a * (p : Int) + a := by rw [show (((p + 1 : Nat)) : Int) = (p : Int) + 1 by omega, Int.mul_add, Int.mul_one]
    have e3 : b * (((p + 1 : Nat)) : Int) = b * (p : Int) + b := by rw [show (((p + 1 : Nat)) : Int) = (p : Int) + 1 by omega, Int.mul_add, Int.mul_one]
    rw [e1] at this
    rw [e2, e3]
    have e4 : a * (p : Int) + a + (b * (p : Int) + b + cst (((l.eraseIdx k).eraseIdx m).zip D)) = a + b + (cst (((l.eraseIdx k).eraseIdx m).zip D) + (a * (p : Int) + b * (p : Int) + 0)) := by omega
    rw [e4]
    exact this
/-- The lengths leave no room. -/
theorem dep_kr {l : List Int} {D : List Nat} (h : Dep l D) : ∀ M, l.length ≤ M + 1 → (∀ x ∈ l.zip D, x.2 ≤ M) ∧ kr M (l.zip D) = 2 ^ M := by
  induction h with
  | one w => intro M _; exact ⟨by simp, by simp [kr]⟩
  | @step l k m p D h2 hk hm h ih =>
    intro M hM
    obtain ⟨z1, z2, z3⟩ := dep_zip_all h2 hk hm h
    obtain ⟨N, rfl⟩ : ∃ N, M = N + 1 := ⟨M - 1, by omega⟩
    rw [z2] at ih
    have hl := dep_len h
    simp only [List.length_append, List.length_cons, List.length_nil] at hl
    obtain ⟨h3, h4⟩ := ih N (by simp only [List.length_append, List.length_cons, List.length_nil]; omega)
    have hp : p ≤ N := h3 (_, p) (List.mem_append.2 (.inr (List.mem_singleton.2 rfl)))
    have h5 : ∀ x ∈ ((l.eraseIdx k).eraseIdx m).zip D, x.2 ≤ N := fun x hx => h3 x (List.mem_append.2 (.inl hx))
    refine ⟨fun x hx => ?_, ?_⟩
    · have := z1.mem_iff.1 hx
      simp only [List.mem_cons] at this
      rcases this with rfl | rfl | this
      · show p + 1 ≤ N + 1; omega
      · show p + 1 ≤ N + 1; omega
      · have := h5 x this; omega
    · rw [kr_perm (N + 1) z1]
      rw [kr_app] at h4
      simp only [kr] at h4 ⊢
      rw [kr_up h5, show N + 1 - (p + 1) = N - p by omega, Nat.pow_succ]
      omega
theorem dep_ge {l : List Int} {D : List Nat} (h : Dep l D) : 2 ≤ l.length → ∀ d ∈ D, 1 ≤ d := by
  induction h with
  | one w => intro h; simp at h
  | @step l k m p D h2 hk hm h ih =>
    intro _ d hd
    obtain ⟨_, _, z3⟩ := dep_zip_all h2 hk hm h
    have h1 := hm.1
    rw [List.length_eraseIdx_of_lt hk.1] at h1
    have h3 := hk.1
    have hl : (D.insertIdx m (p + 1)).length = D.length + 1 := List.length_insertIdx_of_le_length (by omega) _
    rcases (List.mem_insertIdx (by omega)).1 hd with rfl | hd
    · omega
    · rcases (List.mem_insertIdx (by omega)).1 hd with rfl | hd
      · omega
      · refine ih ?_ d (by simp [hd])
        have hD : 0 < D.length := List.length_pos_of_mem hd
        rw [List.length_append, List.length_eraseIdx_of_lt hm.1, List.length_eraseIdx_of_lt hk.1]
        simp only [List.length_cons, List.length_nil]
        omega
theorem perm_two {α : Type} (d : α) (P : List α) {i k : Nat} (hi : i < P.length) (hk : k < P.length) (hik : i ≠ k) : ∃ R, P.Perm (P.getD i d :: P.getD k d :: R) := by
  have h1 := perm_at d P i hi
  have hl := List.length_eraseIdx_of_lt hi
  obtain ⟨j, hj, he⟩ : ∃ j, j < (P.eraseIdx i).length ∧ (P.eraseIdx i).getD j d = P.getD k d := by
    rcases Nat.lt_or_ge k i with h | h
    · refine ⟨k, by omega, ?_⟩
      rw [List.getD_eq_getElem?_getD, List.getD_eq_getElem?_getD, List.getElem?_eraseIdx, if_pos h]
    · refine ⟨k - 1, by omega, ?_⟩
      rw [List.getD_eq_getElem?_getD, List.getD_eq_getElem?_getD, List.getElem?_eraseIdx, if_neg (by omega), show k - 1 + 1 = k by omega]
  have h2 := perm_at d (P.eraseIdx i) j hj
  rw [he] at h2
  exact ⟨_, h1.trans (h2.cons _)⟩
theorem zip_at {l : List Int} {D : List Nat} (h : D.length = l.length) {i : Nat} (hi : i < l.length) : (l.zip D).getD i (0, 0) = (l.getD i 0, D.getD i 0) := by
  simp [List.getD_eq_getElem?_getD, hi, h]
theorem zip_fst {l : List Int} {D : List Nat} (h : D.length = l.length) : (l.zip D).map Prod.fst = l := List.map_fst_zip (by omega)
theorem zip_snd {l : List Int} {D : List Nat} (h : D.length = l.length) : (l.zip D).map Prod.snd = D := List.map_snd_zip (by omega)
/-- A heavier one has no longer code. -/
theorem dep_heavy {l : List Int} {D : List Nat} (h : Dep l D) (h0 : ∀ x ∈ l, 0 ≤ x) {i k : Nat} (hi : i < l.length) (hk : k < l.length) (hlt : l.getD k 0 < l.getD i 0) : D.getD i 0 ≤ D.getD k 0 := by
  have hl := dep_len h
  have hz : (l.zip D).length = l.length := by rw [List.length_zip]; omega
  obtain ⟨R, hR⟩ := perm_two (0, 0) (l.zip D) (i := i) (k := k) (by omega) (by omega) (fun e => by subst e; omega)
  rw [zip_at hl hi, zip_at hl hk] at hR
  obtain ⟨h1, h2⟩ := dep_kr h l.length (by omega)
  refine hc_heavy (dep_hc h) h0 (R := R) (M := l.length) ?_ (fun z hz => h1 z (hR.mem_iff.2 hz)) ?_ (cst_perm hR).symm hlt
  · have := hR.symm.map Prod.fst
    rw [zip_fst hl] at this
    exact this
  · rw [← kr_perm _ hR, h2]; exact Nat.le_refl _
/-- The room of lengths alone. -/
def rm (M : Nat) : List Nat → Nat
  | [] => 0
  | d :: D => 2 ^ (M - d) + rm M D
theorem kr_rm (M : Nat) (P : List (Int × Nat)) : kr M P = rm M (P.map Prod.snd) := by
  induction P with
  | nil => rfl
  | cons x P ih => simp only [kr, List.map_cons, rm, ih]
theorem rm_app (M : Nat) (D E : List Nat) : rm M (D ++ E) = rm M D + rm M E := by
  induction D with
  | nil => simp [rm]
  | cons x D ih => simp only [List.cons_append, rm, ih]; omega

/-! ### The heaps of one round and the next -/
theorem dep_inv {l : List Int} {E : List Nat} {k m : Nat} (h : Dep l E) (h2 : 2 ≤ l.length) (hk : FMin l k) (hm : FMin (l.eraseIdx k) m) :
    ∃ D p, E = (D.insertIdx m (p + 1)).insertIdx k (p + 1) ∧ Dep ((l.eraseIdx k).eraseIdx m ++ [l.getD k 0 + (l.eraseIdx k).getD m 0]) (D ++ [p]) := by
  cases h with
  | one _ => simp at h2
  | @step _ k' m' p D _ hk' hm' h =>
    obtain rfl := fmin_one hk hk'
    obtain rfl := fmin_one hm hm'
    exact ⟨D, p, rfl, h⟩
/-- Heaps, and how long codes are so far: what is still to come makes of it the lengths T. -/
structure Hst (T : List Nat) (hs : List (Int × List Nat)) (out : Nat → Nat) : Prop where
  all : (hs.flatMap Prod.snd).Perm (List.range T.length)
  ex : ∃ D, Dep (hs.map Prod.fst) D ∧ ∀ z ∈ hs.zip D, ∀ i ∈ z.1.2, out i + z.2 = T.getD i 0
theorem hst_mem {T : List Nat} {hs : List (Int × List Nat)} {out : Nat → Nat} (h : Hst T hs out) {z : Int × List Nat} (hz : z ∈ hs) {i : Nat} (hi : i ∈ z.2) : i < T.length :=
  List.mem_range.1 (h.all.mem_iff.1 (List.mem_flatMap.2 ⟨z, hz, hi⟩))
/-- The heaps at the beginning: each weight alone. -/
def heaps (ws : List Int) (n : Nat) : List (Int × List Nat) := (List.range n).map fun i => (ws.getD i 0, [i])
theorem heaps_succ (ws : List Int) (n : Nat) : heaps ws (n + 1) = heaps ws n ++ [(ws.getD n 0, [n])] := by simp [heaps, List.range_succ]
theorem heaps_fst (ws : List Int) : (heaps ws ws.length).map Prod.fst = ws := by
  apply List.ext_getElem?
  intro j
  by_cases hj : j < ws.length <;> simp [heaps, hj]
theorem hst_start {ws : List Int} {T : List Nat} (h : Dep ws T) : Hst T (heaps ws ws.length) fun _ => 0 := by
  have hl := dep_len h
  refine ⟨?_, T, by rw [heaps_fst]; exact h, ?_⟩
  · have : (heaps ws ws.length).flatMap Prod.snd = List.range ws.length := by
      unfold heaps
      rw [List.flatMap_map]
      exact List.flatMap_singleton' _
    rw [this, hl]
  · intro z hz i hi
    obtain ⟨j, hj, he⟩ := List.getElem_of_mem hz
    have hjl : j < ws.length := by
      rw [List.length_zip] at hj
      omega
    rw [List.getElem_zip] at he
    subst he
    simp only [heaps, List.getElem_map, List.getElem_range, List.mem_singleton] at hi
    subst hi
    simp [List.getD_eq_getElem?_getD, hl, hjl]
theorem erase_map {α β : Type} (f : α → β) : ∀ (l : List α) (k : Nat), (l.map f).eraseIdx k = (l.eraseIdx k).map f
  | [], _ => by simp
  | x :: l, 0 => by simp
  | x :: l, k + 1 => by simp [erase_map f l k]
theorem fst_at (hs : List (Int × List Nat)) {k : Nat} (h : k < hs.length) : (hs.map Prod.fst).getD k 0 = (hs.getD k (0, [])).1 := by
  simp [List.getD_eq_getElem?_getD, h]
theorem hst_step {T : List Nat} {hs : List (Int × List Nat)} {out : Nat → Nat} {k m : Nat} (h : Hst T hs out) (h2 : 2 ≤ hs.length) (hk : FMin (hs.map Prod.fst) k) (hm : FMin ((hs.eraseIdx k).map Prod.fst) m) :
    Hst T ((hs.eraseIdx k).eraseIdx m ++ [((hs.getD k (0, [])).1 + ((hs.eraseIdx k).getD m (0, [])).1, (hs.getD k (0, [])).2 ++ ((hs.eraseIdx k).getD m (0, [])).2)])
      fun i => out i + if i ∈ (hs.getD k (0, [])).2 ++ ((hs.eraseIdx k).getD m (0, [])).2 then 1 else 0 := by
  obtain ⟨hall, E, hE, hz⟩ := h
  have hk' : k < hs.length := by simpa using hk.1
  have hm' : m < (hs.eraseIdx k).length := by simpa using hm.1
  have e1 := erase_map Prod.fst hs k
  obtain ⟨D, p, rfl, hD⟩ := dep_inv hE (by simpa using h2) hk (by rw [e1]; exact hm)
  rw [e1, erase_map, fst_at hs hk', fst_at (hs.eraseIdx k) hm'] at hD
  have hl := dep_len hD
  simp only [List.length_append, List.length_cons, List.length_nil, List.length_map] at hl
  have h3 : D.length = ((hs.eraseIdx k).eraseIdx m).length := by omega
  have h4 := h3
  rw [List.length_eraseIdx_of_lt hm', List.length_eraseIdx_of_lt hk'] at h4
  have zz := dep_zip (0, []) (hs := hs) (p := p) (D := D) hk' hm' (by omega)
  have hp := (perm_at (0, []) hs k hk').trans ((perm_at (0, []) (hs.eraseIdx k) m hm').cons _)
  generalize hs.getD k (0, []) = a at *
  generalize (hs.eraseIdx k).getD m (0, []) = b at *
  generalize (hs.eraseIdx k).eraseIdx m = rest at *
  have hfl := hp.flatMap_right Prod.snd
  simp only [List.flatMap_cons] at hfl
  have hnd : (a.2 ++ (b.2 ++ rest.flatMap Prod.snd)).Nodup := (hfl.symm.trans hall).nodup_iff.2 List.nodup_range
  refine ⟨?_, D ++ [p], ?_, ?_⟩
  · refine List.Perm.trans ?_ (hfl.symm.trans hall)
    simp only [List.flatMap_append, List.flatMap_cons, List.flatMap_nil, List.append_nil]
    have h9 : a.2 ++ (b.2 ++ rest.flatMap Prod.snd) = (a.2 ++ b.2) ++ rest.flatMap Prod.snd := by rw [List.append_assoc]
    rw [h9]
    exact List.perm_append_comm
  · rw [List.map_append]; exact hD
  · rw [List.zip_append h3.symm]
    intro z hz' i hi
    rcases List.mem_append.1 hz' with hz' | hz'
    · have h5 := hz z (zz.mem_iff.2 (by simp [hz'])) i hi
      have h6 : i ∈ rest.flatMap Prod.snd := List.mem_flatMap.2 ⟨z.1, (List.of_mem_zip hz').1, hi⟩
      have h7 : ¬ i ∈ a.2 ++ b.2 := by
        intro h8
        rw [← List.append_assoc] at hnd
        exact (List.nodup_append.1 hnd).2.2 i h8 i h6 rfl
      rw [if_neg h7]
      exact h5
    · have hz2 : z = ((a.1 + b.1, a.2 ++ b.2), p) := by simpa using hz'
      subst hz2
      have hi : i ∈ a.2 ++ b.2 := hi
      rw [if_pos hi]
      rcases List.mem_append.1 hi with hi | hi
      · have := hz (a, p + 1) (zz.mem_iff.2 (by simp)) i hi
        show out i + 1 + p = _
        omega
      · have := hz (b, p + 1) (zz.mem_iff.2 (by simp)) i hi
        show out i + 1 + p = _
        omega
theorem hst_end {T : List Nat} {hs : List (Int × List Nat)} {out : Nat → Nat} (h : Hst T hs out) (h1 : hs.length ≤ 1) {i : Nat} (hi : i < T.length) : out i = T.getD i 0 := by
  obtain ⟨hall, D, hD, hz⟩ := h
  have hm : i ∈ hs.flatMap Prod.snd := hall.mem_iff.2 (List.mem_range.2 hi)
  match hs, h1 with
  | [], _ => simp at hm
  | [x], _ =>
    cases hD with
    | one _ =>
      have := hz (x, 0) (by simp) i (by simpa using hm)
      exact this
    | step h2 _ _ _ => simp at h2
end Go.Proofs.YtmfpjbhgmcmceaaDoor
