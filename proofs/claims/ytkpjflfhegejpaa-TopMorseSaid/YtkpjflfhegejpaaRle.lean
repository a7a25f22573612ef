/-
  Plain mathematics of runs, without a program: the text of runs, that a text has one list of runs, runs of two texts joined, runs from the end, and what is wrong with a list of runs. No condition.
-/
namespace Go.Proofs.Ytkpjflfhegejpaa

/-- The text of runs. -/
def unr (l : List (UInt8 × Int)) : List UInt8 := l.flatMap fun r => List.replicate r.2.toNat r.1
theorem unr_nil : unr [] = [] := rfl
theorem unr_cons (r : UInt8 × Int) (l : List (UInt8 × Int)) : unr (r :: l) = List.replicate r.2.toNat r.1 ++ unr l := rfl
theorem unr_app (x y : List (UInt8 × Int)) : unr (x ++ y) = unr x ++ unr y := by simp [unr]
theorem unr_one (c : UInt8) (m : Int) : unr [(c, m)] = List.replicate m.toNat c := by simp [unr]
/-- Each run has a sign at least, and neighbours differ. -/
def Good : List (UInt8 × Int) → Prop
  | [] => True
  | r :: l => 1 ≤ r.2 ∧ (∀ q, l.head? = some q → r.1 ≠ q.1) ∧ Good l
theorem unr_head {l : List (UInt8 × Int)} (h : Good l) : (unr l).head? = l.head?.map (·.1) := by
  cases l with
  | nil => rfl
  | cons r l =>
    rw [unr_cons]
    obtain ⟨k, hk⟩ : ∃ k, r.2.toNat = k + 1 := ⟨r.2.toNat - 1, by have := h.1; omega⟩
    rw [hk, List.replicate_succ]; rfl
theorem rep_cancel {c : UInt8} {A B : List UInt8} (hA : A.head? ≠ some c) (hB : B.head? ≠ some c) : ∀ n m : Nat, List.replicate n c ++ A = List.replicate m c ++ B → n = m ∧ A = B := by
  intro n
  induction n with
  | zero =>
    intro m h
    cases m with
    | zero => exact ⟨rfl, by simpa using h⟩
    | succ m =>
      exfalso; apply hA
      have : A = c :: (List.replicate m c ++ B) := by simpa [List.replicate_succ] using h
      rw [this]; rfl
  | succ n ih =>
    intro m h
    cases m with
    | zero =>
      exfalso; apply hB
      have : c :: (List.replicate n c ++ A) = B := by simpa [List.replicate_succ] using h
      rw [← this]; rfl
    | succ m =>
      have : List.replicate n c ++ A = List.replicate m c ++ B := by simpa [List.replicate_succ] using h
      obtain ⟨h1, h2⟩ := ih m this
      exact ⟨by omega, h2⟩
theorem good_tail {r : UInt8 × Int} {l : List (UInt8 × Int)} (h : Good (r :: l)) : (unr l).head? ≠ some r.1 := by
  rw [unr_head h.2.2]
  intro e
  cases l with
  | nil => simp at e
  | cons q l => exact h.2.1 q rfl (by simpa using e.symm)
/-- A text has one list of runs. -/
theorem good_one {l l' : List (UInt8 × Int)} (h : Good l) (h' : Good l') (e : unr l = unr l') : l = l' := by
  induction l generalizing l' with
  | nil =>
    cases l' with
    | nil => rfl
    | cons q l' =>
      have := unr_head h'
      rw [← e] at this; simp [unr] at this
  | cons r l ih =>
    cases l' with
    | nil =>
      have := unr_head h
      rw [e] at this; simp [unr] at this
    | cons q l' =>
      have hc : r.1 = q.1 := by
        have h1 := unr_head h
        rw [e, unr_head h'] at h1
        simpa using h1.symm
      obtain ⟨c, n⟩ := r
      obtain ⟨d, m⟩ := q
      obtain rfl : c = d := hc
      rw [unr_cons, unr_cons] at e
      obtain ⟨h1, h2⟩ := rep_cancel (c := c) (good_tail h) (good_tail h') _ _ e
      have hn := h.1
      have hm := h'.1
      rw [ih h.2.2 h'.2.2 h2]
      simp only at h1 hn hm
      rw [show n = m by omega]
theorem good_app {x y : List (UInt8 × Int)} : Good (x ++ y) ↔ Good x ∧ Good y ∧ ∀ p q, x.getLast? = some p → y.head? = some q → p.1 ≠ q.1 := by
  induction x with
  | nil => simp [Good]
  | cons r x ih =>
    rw [List.cons_append]
    cases x with
    | nil =>
      simp only [List.nil_append, Good, List.getLast?_singleton, Option.some.injEq]
      constructor
      · rintro ⟨h1, h2, h3⟩; exact ⟨⟨h1, by simp, trivial⟩, h3, fun p q e hq => by subst e; exact h2 q hq⟩
      · rintro ⟨⟨h1, _, _⟩, h3, h2⟩; exact ⟨h1, fun q hq => h2 r q rfl hq, h3⟩
    | cons s x =>
      have e : (r :: s :: x).getLast? = (s :: x).getLast? := by rw [List.getLast?_cons_cons]
      rw [e]
      show (1 ≤ r.2 ∧ (∀ q, (s :: x ++ y).head? = some q → r.1 ≠ q.1) ∧ Good (s :: x ++ y)) ↔ (1 ≤ r.2 ∧ (∀ q, (s :: x).head? = some q → r.1 ≠ q.1) ∧ Good (s :: x)) ∧ _
      rw [ih]
      constructor
      · rintro ⟨h1, h2, h3, h4, h5⟩; exact ⟨⟨h1, h2, h3⟩, h4, h5⟩
      · rintro ⟨⟨h1, h2, h3⟩, h4, h5⟩; exact ⟨h1, h2, h3, h4, h5⟩
theorem good_last {x : List (UInt8 × Int)} {p : UInt8 × Int} (h : Good (x ++ [p])) : 1 ≤ p.2 := ((good_app.1 h).2.1).1
/-- A list is empty or has a last one. -/
theorem snoc_or {α : Type} (l : List α) : l = [] ∨ ∃ x p, l = x ++ [p] := by
  rcases l with _ | ⟨r, l⟩
  · exact .inl rfl
  · exact .inr ⟨(r :: l).dropLast, (r :: l).getLast (by simp), (List.dropLast_concat_getLast (by simp)).symm⟩
theorem unr_last {l : List (UInt8 × Int)} (h : Good l) : (unr l).getLast? = l.getLast?.map (·.1) := by
  rcases snoc_or l with rfl | ⟨x, ⟨c, m⟩, rfl⟩
  · rfl
  · have := good_last h
    rw [unr_app, unr_one]
    obtain ⟨k, hk⟩ : ∃ k, m.toNat = k + 1 := ⟨m.toNat - 1, by simp only at this; omega⟩
    rw [hk, List.replicate_succ', ← List.append_assoc]; simp
theorem good_rev {l : List (UInt8 × Int)} (h : Good l) : Good l.reverse := by
  induction l with
  | nil => exact trivial
  | cons r l ih =>
    rw [List.reverse_cons, good_app]
    refine ⟨ih h.2.2, ⟨h.1, by simp, trivial⟩, fun p q hp hq => ?_⟩
    obtain rfl : r = q := by simpa using hq
    rw [List.getLast?_reverse] at hp
    exact (h.2.1 p hp).symm
theorem unr_rev (l : List (UInt8 × Int)) : unr l.reverse = (unr l).reverse := by
  induction l with
  | nil => rfl
  | cons r l ih => rw [List.reverse_cons, unr_app, ih, unr_cons r l, List.reverse_append, List.reverse_replicate, unr_cons, unr_nil, List.append_nil]
/-- Runs of two texts joined. -/
theorem good_join {x y z : List (UInt8 × Int)} (hx : Good x) (hy : Good y) (hz : Good z) (e : unr z = unr x ++ unr y) :
    (((∃ c, (unr x).getLast? = some c ∧ (unr y).head? = some c) ∧ z.length + 1 = x.length + y.length) ∨ ((¬ ∃ c, (unr x).getLast? = some c ∧ (unr y).head? = some c) ∧ z.length = x.length + y.length)) := by
  by_cases h : ∃ c, (unr x).getLast? = some c ∧ (unr y).head? = some c
  · refine .inl ⟨h, ?_⟩
    obtain ⟨c, h1, h2⟩ := h
    rw [unr_last hx] at h1
    rw [unr_head hy] at h2
    rcases snoc_or x with rfl | ⟨x, ⟨d, m⟩, rfl⟩
    · simp at h1
    · cases y with
      | nil => simp at h2
      | cons q y =>
        obtain ⟨f, k⟩ := q
        obtain rfl : d = c := by simpa using h1
        obtain rfl : f = d := by simpa using h2
        have hm := good_last hx
        have hk := hy.1
        simp only at hm hk
        have hG : Good (x ++ (f, m + k) :: y) := by
          rw [good_app]
          refine ⟨(good_app.1 hx).1, ⟨by show 1 ≤ m + k; omega, hy.2.1, hy.2.2⟩, fun p q hp hq => ?_⟩
          obtain rfl : (f, m + k) = q := by simpa using hq
          exact (good_app.1 hx).2.2 p (f, m) hp rfl
        have : z = x ++ (f, m + k) :: y := good_one hz hG (by
          rw [e, unr_app, unr_app, unr_one, unr_cons, unr_cons]
          simp only
          rw [show (m + k).toNat = m.toNat + k.toNat by omega, ← List.replicate_append_replicate, List.append_assoc, List.append_assoc])
        rw [this]; simp; omega
  · refine .inr ⟨h, ?_⟩
    have hG : Good (x ++ y) := good_app.2 ⟨hx, hy, fun p q hp hq e => h ⟨p.1, by rw [unr_last hx, hp]; rfl, by rw [unr_head hy, hq, e]; rfl⟩⟩
    rw [good_one hz hG (by rw [e, unr_app]), List.length_append]

/-! ### By places -/
def sgR (l : List (UInt8 × Int)) (i : Nat) : UInt8 := (l.getD i (0, 0)).1
def mnR (l : List (UInt8 × Int)) (i : Nat) : Int := (l.getD i (0, 0)).2
theorem good_at {l : List (UInt8 × Int)} : Good l ↔ ∀ i, i < l.length → 1 ≤ mnR l i ∧ (0 < i → sgR l (i - 1) ≠ sgR l i) := by
  induction l with
  | nil => simp [Good]
  | cons r l ih =>
    constructor
    · rintro ⟨h1, h2, h3⟩ i hi
      cases i with
      | zero => exact ⟨h1, fun h => absurd h (by omega)⟩
      | succ i =>
        have hi' : i < l.length := by simpa using hi
        obtain ⟨h4, h5⟩ := ih.1 h3 i hi'
        refine ⟨h4, fun _ => ?_⟩
        cases i with
        | zero =>
          cases l with
          | nil => simp at hi'
          | cons q l => exact h2 q rfl
        | succ i => exact h5 (by omega)
    · intro h
      refine ⟨(h 0 (by simp)).1, fun q hq => ?_, ih.2 fun i hi => ⟨(h (i + 1) (by simpa using hi)).1, fun h0 => ?_⟩⟩
      · cases l with
        | nil => simp at hq
        | cons q' l =>
          obtain rfl : q' = q := by simpa using hq
          exact (h 1 (by simp)).2 (by omega)
      · have := (h (i + 1) (by simpa using hi)).2 (by omega)
        obtain ⟨j, rfl⟩ : ∃ j, i = j + 1 := ⟨i - 1, by omega⟩
        exact this
theorem take_runs {l : List (UInt8 × Int)} {i : Nat} (h : i < l.length) : l.take (i + 1) = l.take i ++ [(sgR l i, mnR l i)] := by
  have e : l[i] = (sgR l i, mnR l i) := by simp [sgR, mnR, List.getD_eq_getElem?_getD, h]
  rw [List.take_succ_eq_append_getElem h, e]
theorem unr_take {l : List (UInt8 × Int)} {i : Nat} (h : i < l.length) : unr (l.take (i + 1)) = unr (l.take i) ++ List.replicate (mnR l i).toNat (sgR l i) := by
  rw [take_runs h, unr_app, unr_one]
/-- How long the first i runs are. -/
def totR (l : List (UInt8 × Int)) (i : Nat) : Nat := (unr (l.take i)).length
theorem tot_succ {l : List (UInt8 × Int)} {i : Nat} (h : i < l.length) : totR l (i + 1) = totR l i + (mnR l i).toNat := by
  unfold totR; rw [unr_take h]; simp
theorem tot_zero (l : List (UInt8 × Int)) : totR l 0 = 0 := rfl
theorem tot_all (l : List (UInt8 × Int)) : totR l l.length = (unr l).length := by unfold totR; rw [List.take_length]
theorem tot_le (l : List (UInt8 × Int)) (i : Nat) : totR l i ≤ (unr l).length := by
  unfold totR
  have : unr l = unr (l.take i) ++ unr (l.drop i) := by rw [← unr_app, List.take_append_drop]
  rw [this, List.length_append]; omega
/-- Each of the first n runs is as it should be. -/
def OkTo (l : List (UInt8 × Int)) (n : Nat) : Prop := ∀ i, i < n → (1 ≤ mnR l i ∧ mnR l i ≤ 1000) ∧ (0 < i → sgR l (i - 1) ≠ sgR l i) ∧ (totR l i : Int) + mnR l i ≤ 1000
/-- What is wrong with the run at place i. -/
def BadR (l : List (UInt8 × Int)) (i : Nat) (k : Int) : Prop :=
  (k = 1 ∧ ¬ (1 ≤ mnR l i ∧ mnR l i ≤ 1000)) ∨ (k = 6 ∧ (1 ≤ mnR l i ∧ mnR l i ≤ 1000) ∧ 0 < i ∧ sgR l (i - 1) = sgR l i) ∨
  (k = 4 ∧ (1 ≤ mnR l i ∧ mnR l i ≤ 1000) ∧ (0 < i → sgR l (i - 1) ≠ sgR l i) ∧ 1000 < (totR l i : Int) + mnR l i)
/-- What is wrong with the runs. -/
def FailR (l : List (UInt8 × Int)) (k : Int) : Prop := ∃ i, i < l.length ∧ OkTo l i ∧ BadR l i k
theorem badR_no {l : List (UInt8 × Int)} {i n : Nat} {k : Int} (h : BadR l i k) (hf : OkTo l n) (hi : i < n) : False := by
  obtain ⟨h1, h2, h3⟩ := hf i hi
  rcases h with ⟨_, h⟩ | ⟨_, _, h0, h⟩ | ⟨_, _, _, h⟩
  · exact h h1
  · exact h2 h0 h
  · omega
theorem badR_one {l : List (UInt8 × Int)} {i : Nat} {k k' : Int} (h : BadR l i k) (h' : BadR l i k') : k = k' := by
  rcases h with ⟨rfl, h⟩ | ⟨rfl, h, h0, hs⟩ | ⟨rfl, h, hs, ht⟩ <;> rcases h' with ⟨rfl, g⟩ | ⟨rfl, g, g0, gs⟩ | ⟨rfl, g, gs, gt⟩
  · rfl
  · exact absurd g h
  · exact absurd g h
  · exact absurd h g
  · rfl
  · exact absurd hs (gs h0)
  · exact absurd h g
  · exact absurd gs (hs g0)
  · rfl
theorem failR_no {l : List (UInt8 × Int)} {k : Int} (h : FailR l k) (hf : OkTo l l.length) : False := by
  obtain ⟨i, hi, _, hb⟩ := h
  exact badR_no hb hf hi
theorem failR_one {l : List (UInt8 × Int)} {k k' : Int} (h : FailR l k) (h' : FailR l k') : k = k' := by
  obtain ⟨i, hi, ho, hb⟩ := h
  obtain ⟨j, hj, ho', hb'⟩ := h'
  rcases Nat.lt_trichotomy i j with h1 | h1 | h1
  · exact (badR_no hb ho' h1).elim
  · subst h1; exact badR_one hb hb'
  · exact (badR_no hb' ho h1).elim
theorem okTo_succ {l : List (UInt8 × Int)} {i : Nat} (h : OkTo l i) (h1 : 1 ≤ mnR l i ∧ mnR l i ≤ 1000) (h2 : 0 < i → sgR l (i - 1) ≠ sgR l i) (h3 : (totR l i : Int) + mnR l i ≤ 1000) : OkTo l (i + 1) := by
  intro j hj
  by_cases e : j = i
  · subst e; exact ⟨h1, h2, h3⟩
  · exact h j (by omega)
theorem okTo_or (l : List (UInt8 × Int)) (n : Nat) : OkTo l n ∨ ∃ i k, i < n ∧ OkTo l i ∧ BadR l i k := by
  induction n with
  | zero => exact .inl fun j hj => by omega
  | succ n ih =>
    rcases ih with ih | ⟨i, k, hi, h⟩
    · by_cases h1 : 1 ≤ mnR l n ∧ mnR l n ≤ 1000
      · by_cases h2 : 0 < n → sgR l (n - 1) ≠ sgR l n
        · by_cases h3 : (totR l n : Int) + mnR l n ≤ 1000
          · exact .inl (okTo_succ ih h1 h2 h3)
          · exact .inr ⟨n, 4, by omega, ih, .inr (.inr ⟨rfl, h1, h2, by omega⟩)⟩
        · have h0 : 0 < n := by rcases Nat.eq_zero_or_pos n with e | e; exact absurd (fun h => absurd h (by omega)) h2; exact e
          have hs : sgR l (n - 1) = sgR l n := by
            by_cases e : sgR l (n - 1) = sgR l n
            · exact e
            · exact absurd (fun _ => e) h2
          exact .inr ⟨n, 6, by omega, ih, .inr (.inl ⟨rfl, h1, h0, hs⟩)⟩
      · exact .inr ⟨n, 1, by omega, ih, .inl ⟨rfl, h1⟩⟩
    · exact .inr ⟨i, k, by omega, h⟩
theorem runs_or (l : List (UInt8 × Int)) : OkTo l l.length ∨ ∃ k, FailR l k := by
  rcases okTo_or l l.length with h | ⟨i, k, hi, h⟩
  · exact .inl h
  · exact .inr ⟨k, i, hi, h⟩
theorem okTo_tot {l : List (UInt8 × Int)} {n : Nat} (h : OkTo l n) (hn : n ≤ l.length) : totR l n ≤ 1000 := by
  cases n with
  | zero => rw [tot_zero]; omega
  | succ n =>
    rw [tot_succ (by omega)]
    have := h n (by omega)
    omega
theorem okTo_good {l : List (UInt8 × Int)} : OkTo l l.length ↔ Good l ∧ (unr l).length ≤ 1000 := by
  constructor
  · intro h
    exact ⟨good_at.2 fun i hi => ⟨(h i hi).1.1, (h i hi).2.1⟩, by have := okTo_tot h (Nat.le_refl _); rwa [tot_all] at this⟩
  · rintro ⟨hg, hl⟩ i hi
    obtain ⟨h1, h2⟩ := good_at.1 hg i hi
    have h3 := tot_succ hi
    have h4 := tot_le l (i + 1)
    exact ⟨⟨h1, by omega⟩, h2, by omega⟩
/-- A list of runs has no more runs than its text signs. -/
theorem good_len {l : List (UInt8 × Int)} (h : Good l) : l.length ≤ (unr l).length := by
  induction l with
  | nil => exact Nat.le_refl _
  | cons r l ih =>
    have := ih h.2.2
    have := h.1
    rw [unr_cons, List.length_append, List.length_replicate, List.length_cons]
    omega
/-! ### Runs of the beginning of a text -/
/-- ds are the runs of the first b signs, and no run goes on there. -/
def RunTo (t : List UInt8) (b : Nat) (ds : List (UInt8 × Int)) : Prop := Good ds ∧ unr ds = t.take b ∧ ∀ p, ds.getLast? = some p → b < t.length → p.1 ≠ t.getD b 0
theorem runTo_zero (t : List UInt8) : RunTo t 0 [] := ⟨trivial, by simp [unr], fun p hp => by simp at hp⟩
theorem take_rep {t : List UInt8} {b e : Nat} (hbe : b ≤ e) (he : e ≤ t.length) (c : UInt8) (h : ∀ j, b ≤ j → j < e → t.getD j 0 = c) : t.take e = t.take b ++ List.replicate (e - b) c := by
  induction e with
  | zero => obtain rfl : b = 0 := by omega
            simp
  | succ e ih =>
    by_cases hb : b = e + 1
    · subst hb; simp
    · rw [List.take_add_one, ih (by omega) (by omega) fun j h1 h2 => h j h1 (by omega), List.getElem?_eq_getElem (by omega), show e + 1 - b = (e - b) + 1 by omega, List.replicate_succ', ← List.append_assoc]
      have := h e (by omega) (by omega)
      rw [List.getD_eq_getElem?_getD, List.getElem?_eq_getElem (by omega)] at this
      simp at this
      simp [this]
theorem runTo_next {t : List UInt8} {b e : Nat} {ds : List (UInt8 × Int)} (h : RunTo t b ds) (hbe : b < e) (he : e ≤ t.length) (hs : ∀ j, b ≤ j → j < e → t.getD j 0 = t.getD b 0) (hn : e < t.length → t.getD e 0 ≠ t.getD b 0) :
    RunTo t e (ds ++ [(t.getD b 0, (e : Int) - b)]) := by
  obtain ⟨h1, h2, h3⟩ := h
  refine ⟨good_app.2 ⟨h1, ⟨by show 1 ≤ (e : Int) - b; omega, by simp, trivial⟩, fun p q hp hq => ?_⟩, ?_, fun p hp hlt => ?_⟩
  · obtain rfl : (t.getD b 0, (e : Int) - b) = q := by simpa using hq
    exact h3 p hp (by omega)
  · rw [unr_app, unr_one, h2, take_rep (by omega) he _ hs, show ((e : Int) - b).toNat = e - b by omega]
  · obtain rfl : (t.getD b 0, (e : Int) - b) = p := by simpa using hp
    exact (hn hlt).symm
theorem runTo_all {t : List UInt8} {ds : List (UInt8 × Int)} (h : RunTo t t.length ds) : Good ds ∧ unr ds = t := ⟨h.1, by rw [h.2.1, List.take_length]⟩
end Go.Proofs.Ytkpjflfhegejpaa
