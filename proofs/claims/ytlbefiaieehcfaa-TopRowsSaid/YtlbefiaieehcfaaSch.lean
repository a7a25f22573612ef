/-
  Plain mathematics, without a program: longest parts of a list that rise (or fall), piles and rows: as many piles as rise strictly; the first row as long as what does not fall, as many rows as what falls strictly (Schensted); a list is no longer than both longest parts times each other (Erdos, Szekeres). Lists stand here with the newest number first. Conditions: where it is said, numbers from 0 to 1000.
-/
namespace Go.Proofs.Ytlbefiaieehcfaa

/-! ### Longest chains -/
/-- The longest chain all of whose members stand to v as P says (P: an older one to a newer one). -/
def wl (P : Int → Int → Bool) : List Int → Int → Nat
  | [], _ => 0
  | x :: h, v => if P x v then max (wl P h v) (wl P h x + 1) else wl P h v
/-- The longest chain. -/
def lg (P : Int → Int → Bool) : List Int → Nat
  | [] => 0
  | x :: h => max (lg P h) (wl P h x + 1)
def Trs (P : Int → Int → Bool) : Prop := ∀ x y z, P x y = true → P y z = true → P x z = true
def Ch (P : Int → Int → Bool) (c : List Int) : Prop := c.Pairwise fun a b => P b a = true
theorem wl_mono {P : Int → Int → Bool} {u v : Int} (h : ∀ x, P x u = true → P x v = true) : ∀ l, wl P l u ≤ wl P l v
  | [] => Nat.le_refl _
  | x :: l => by
    have ih := wl_mono h l
    rw [wl, wl]
    by_cases e : P x u = true
    · rw [if_pos e, if_pos (h x e)]; omega
    · rw [if_neg e]; split <;> omega
theorem wl_le_lg (P : Int → Int → Bool) (v : Int) : ∀ l, wl P l v ≤ lg P l
  | [] => Nat.le_refl _
  | x :: l => by
    have := wl_le_lg P v l
    rw [wl, lg]
    split <;> omega
theorem wl_all {P : Int → Int → Bool} {v : Int} : ∀ {l : List Int}, (∀ z ∈ l, P z v = true) → wl P l v = lg P l
  | [], _ => rfl
  | x :: l, h => by
    rw [wl, lg, if_pos (h x (by simp)), wl_all (fun z hz => h z (by simp [hz]))]
theorem wl_ge {P : Int → Int → Bool} : ∀ {l c : List Int} {v : Int}, c.Sublist l → Ch P c → (∀ z ∈ c, P z v = true) → c.length ≤ wl P l v := by
  intro l
  induction l with
  | nil => intro c v h _ _; rw [List.sublist_nil.1 h]; exact Nat.le_refl _
  | cons x l ih =>
    intro c v h hc hv
    rw [wl]
    rcases List.sublist_cons_iff.1 h with k | ⟨r, rfl, k⟩
    · have := ih k hc hv
      split <;> omega
    · have hp := List.pairwise_cons.1 hc
      rw [if_pos (hv x (by simp)), List.length_cons]
      have := ih k hp.2 hp.1
      omega
theorem wl_ex {P : Int → Int → Bool} (ht : Trs P) : ∀ (l : List Int) (v : Int), ∃ c : List Int, c.Sublist l ∧ Ch P c ∧ (∀ z ∈ c, P z v = true) ∧ c.length = wl P l v := by
  intro l
  induction l with
  | nil => intro v; exact ⟨[], List.Sublist.refl _, List.Pairwise.nil, fun z hz => by simp at hz, rfl⟩
  | cons x l ih =>
    intro v
    rw [wl]
    obtain ⟨c, h1, h2, h3, h4⟩ := ih v
    by_cases e : P x v = true
    · rw [if_pos e]
      obtain ⟨d, k1, k2, k3, k4⟩ := ih x
      by_cases hm : wl P l x + 1 ≤ wl P l v
      · exact ⟨c, h1.cons x, h2, h3, by omega⟩
      · refine ⟨x :: d, k1.cons_cons x, List.pairwise_cons.2 ⟨k3, k2⟩, fun z hz => ?_, by rw [List.length_cons]; omega⟩
        rcases List.mem_cons.1 hz with rfl | hz
        · exact e
        · exact ht z x v (k3 z hz) e
    · rw [if_neg e]
      exact ⟨c, h1.cons x, h2, h3, h4⟩
theorem lg_ge {P : Int → Int → Bool} : ∀ {l c : List Int}, c.Sublist l → Ch P c → c.length ≤ lg P l := by
  intro l
  induction l with
  | nil => intro c h _; rw [List.sublist_nil.1 h]; exact Nat.le_refl _
  | cons x l ih =>
    intro c h hc
    rw [lg]
    rcases List.sublist_cons_iff.1 h with k | ⟨r, rfl, k⟩
    · have := ih k hc; omega
    · have hp := List.pairwise_cons.1 hc
      rw [List.length_cons]
      have := wl_ge k hp.2 hp.1
      omega
theorem lg_ex {P : Int → Int → Bool} (ht : Trs P) : ∀ l : List Int, ∃ c : List Int, c.Sublist l ∧ Ch P c ∧ c.length = lg P l := by
  intro l
  induction l with
  | nil => exact ⟨[], List.Sublist.refl _, List.Pairwise.nil, rfl⟩
  | cons x l ih =>
    rw [lg]
    obtain ⟨c, h1, h2, h3⟩ := ih
    obtain ⟨d, k1, k2, k3, k4⟩ := wl_ex ht l x
    by_cases hm : wl P l x + 1 ≤ lg P l
    · exact ⟨c, h1.cons x, h2, by omega⟩
    · exact ⟨x :: d, k1.cons_cons x, List.pairwise_cons.2 ⟨k3, k2⟩, by rw [List.length_cons]; omega⟩
theorem lg_le (P : Int → Int → Bool) : ∀ l : List Int, lg P l ≤ l.length := by
  have key : ∀ (l : List Int) (v : Int), wl P l v ≤ l.length := by
    intro l
    induction l with
    | nil => intro v; exact Nat.le_refl _
    | cons x l ih =>
      intro v
      rw [wl, List.length_cons]
      have h1 := ih v
      have h2 := ih x
      split <;> omega
  intro l
  induction l with
  | nil => exact Nat.le_refl _
  | cons x l ih =>
    rw [lg, List.length_cons]
    have := key l x
    omega
/-- From the other end. -/
theorem lg_rev {P Q : Int → Int → Bool} (hp : Trs P) (hq : Trs Q) (hf : ∀ a b, P a b = Q b a) (l : List Int) : lg P l.reverse = lg Q l := by
  have key : ∀ (P Q : Int → Int → Bool), Trs P → (∀ a b, P a b = Q b a) → ∀ l : List Int, lg P l.reverse ≤ lg Q l := by
    intro P Q hp hf l
    obtain ⟨c, h1, h2, h3⟩ := lg_ex hp l.reverse
    rw [← h3, ← List.length_reverse]
    refine lg_ge ?_ ?_
    · have := h1.reverse
      rwa [List.reverse_reverse] at this
    · unfold Ch at h2 ⊢
      rw [List.pairwise_reverse]
      exact h2.imp fun {a b} h => by rw [← hf]; exact h
  refine Nat.le_antisymm (key P Q hp hf l) ?_
  have := key Q P hq (fun a b => (hf b a).symm) l.reverse
  rwa [List.reverse_reverse] at this
def ltB (a b : Int) : Bool := decide (a < b)
def gtB (a b : Int) : Bool := decide (b < a)
def leB (a b : Int) : Bool := decide (a ≤ b)
def geB (a b : Int) : Bool := decide (b ≤ a)
theorem trs_lt : Trs ltB := fun x y z h k => by simp [ltB] at *; omega
theorem trs_gt : Trs gtB := fun x y z h k => by simp [gtB] at *; omega
theorem trs_le : Trs leB := fun x y z h k => by simp [leB] at *; omega
theorem trs_ge : Trs geB := fun x y z h k => by simp [geB] at *; omega

/-! ### Rows -/
/-- A number put into a row: behind it, or in the place of the first one that is greater. -/
def put : List Int → Int → List Int × Option Int
  | [], x => ([x], none)
  | y :: R, x => if x < y then (x :: R, some y) else (y :: (put R x).1, (put R x).2)
theorem put_spec : ∀ (R : List Int) (x : Int), (put R x = (R ++ [x], none) ∧ ∀ r ∈ R, r ≤ x) ∨ ∃ A y B, R = A ++ y :: B ∧ (∀ a ∈ A, a ≤ x) ∧ x < y ∧ put R x = (A ++ x :: B, some y)
  | [], x => .inl ⟨rfl, fun r hr => by simp at hr⟩
  | y :: R, x => by
    by_cases e : x < y
    · exact .inr ⟨[], y, R, rfl, fun a ha => by simp at ha, e, by rw [put, if_pos e]; rfl⟩
    · rcases put_spec R x with ⟨h1, h2⟩ | ⟨A, z, B, h1, h2, h3, h4⟩
      · refine .inl ⟨by rw [put, if_neg e, h1]; rfl, fun r hr => ?_⟩
        rcases List.mem_cons.1 hr with rfl | hr
        · omega
        · exact h2 r hr
      · refine .inr ⟨y :: A, z, B, by rw [h1]; rfl, fun a ha => ?_, h3, by rw [put, if_neg e, h4]; rfl⟩
        rcases List.mem_cons.1 ha with rfl | ha
        · omega
        · exact h2 a ha
/-- The first row, and what is put out of it. -/
def row : List Int → List Int
  | [] => []
  | x :: h => (put (row h) x).1
def bmp : List Int → List Int
  | [] => []
  | x :: h => match (put (row h) x).2 with
    | none => bmp h
    | some y => y :: bmp h
theorem row_sorted : ∀ h, (row h).Pairwise (· ≤ ·)
  | [] => List.Pairwise.nil
  | x :: h => by
    have ih := row_sorted h
    rw [row]
    rcases put_spec (row h) x with ⟨h1, h2⟩ | ⟨A, y, B, h1, h2, h3, h4⟩
    · rw [h1]
      rw [List.pairwise_append]
      exact ⟨ih, by simp, fun a ha b hb => by rw [List.mem_singleton.1 hb]; exact h2 a ha⟩
    · rw [h4]
      rw [h1, List.pairwise_append, List.pairwise_cons] at ih
      rw [List.pairwise_append, List.pairwise_cons]
      refine ⟨ih.1, ⟨fun b hb => by have := ih.2.1.1 b hb; omega, ih.2.1.2⟩, fun a ha b hb => ?_⟩
      rcases List.mem_cons.1 hb with rfl | hb
      · exact h2 a ha
      · have := ih.2.1.1 b hb
        have := h2 a ha
        omega
theorem row_len : ∀ h, (row h).length + (bmp h).length = h.length
  | [] => rfl
  | x :: h => by
    have ih := row_len h
    rw [row, bmp, List.length_cons]
    rcases put_spec (row h) x with ⟨h1, h2⟩ | ⟨A, y, B, h1, h2, h3, h4⟩
    · rw [h1]
      simp only [List.length_append, List.length_singleton]
      omega
    · rw [h4]
      rw [h1] at ih
      simp only [List.length_append, List.length_cons] at ih ⊢
      omega
theorem row_pos (x : Int) (h : List Int) : 0 < (row (x :: h)).length := by
  rw [row]
  rcases put_spec (row h) x with ⟨h1, _⟩ | ⟨A, y, B, _, _, _, h4⟩
  · rw [h1]; simp
  · rw [h4]; simp only [List.length_append, List.length_cons]; omega
theorem row_mem : ∀ (h : List Int) (Q : Int → Prop), (∀ z ∈ h, Q z) → (∀ r ∈ row h, Q r) ∧ ∀ r ∈ bmp h, Q r
  | [], Q, _ => ⟨fun r hr => by simp [row] at hr, fun r hr => by simp [bmp] at hr⟩
  | x :: h, Q, hz => by
    obtain ⟨i1, i2⟩ := row_mem h Q (fun z k => hz z (by simp [k]))
    have hx := hz x (by simp)
    rw [row, bmp]
    rcases put_spec (row h) x with ⟨h1, _⟩ | ⟨A, y, B, h1, _, _, h4⟩
    · rw [h1]
      refine ⟨fun r hr => ?_, i2⟩
      rcases List.mem_append.1 hr with k | k
      · exact i1 r k
      · rw [List.mem_singleton.1 k]; exact hx
    · rw [h4]
      rw [h1] at i1
      refine ⟨fun r hr => ?_, fun r hr => ?_⟩
      · rcases List.mem_append.1 hr with k | k
        · exact i1 r (List.mem_append_left _ k)
        · rcases List.mem_cons.1 k with rfl | k
          · exact hx
          · exact i1 r (List.mem_append_right _ (List.mem_cons_of_mem _ k))
      · rcases List.mem_cons.1 hr with rfl | k
        · exact i1 r (List.mem_append_right _ (by simp))
        · exact i2 r k
/-- As many of the row are at most v as do not fall and end so. -/
theorem row_cnt : ∀ (h : List Int) (v : Int), wl leB h v = (row h).countP (fun r => decide (r ≤ v))
  | [], v => rfl
  | x :: h, v => by
    have ih := row_cnt h
    have hs := row_sorted h
    rw [wl, row, ih v, ih x]
    rcases put_spec (row h) x with ⟨h1, h2⟩ | ⟨A, y, B, h1, h2, h3, h4⟩
    · rw [h1]
      simp only [List.countP_append, List.countP_singleton]
      have hx : (row h).countP (fun r => decide (r ≤ x)) = (row h).length := List.countP_eq_length.2 fun r hr => by simpa using h2 r hr
      have hle : (row h).countP (fun r => decide (r ≤ v)) ≤ (row h).length := List.countP_le_length
      by_cases e : x ≤ v
      · have hv : (row h).countP (fun r => decide (r ≤ v)) = (row h).length := List.countP_eq_length.2 fun r hr => by have := h2 r hr; simp; omega
        rw [if_pos (by simpa [leB] using e), if_pos (by simpa using e)]
        omega
      · rw [if_neg (by simpa [leB] using e), if_neg (by simpa using e)]
        rfl
    · rw [h4]
      rw [h1] at hs ⊢
      rw [List.pairwise_append, List.pairwise_cons] at hs
      simp only [List.countP_append, List.countP_cons]
      have hAx : A.countP (fun r => decide (r ≤ x)) = A.length := List.countP_eq_length.2 fun r hr => by simpa using h2 r hr
      have hBx : B.countP (fun r => decide (r ≤ x)) = 0 := List.countP_eq_zero.2 fun r hr => by have := hs.2.1.1 r hr; simp; omega
      have q1 : decide (y ≤ x) = false := by simp; omega
      by_cases e : x ≤ v
      · have hAv : A.countP (fun r => decide (r ≤ v)) = A.length := List.countP_eq_length.2 fun r hr => by have := h2 r hr; simp; omega
        have q2 : leB x v = true := by simpa [leB] using e
        have q3 : decide (x ≤ v) = true := by simpa using e
        by_cases e2 : y ≤ v
        · have q4 : decide (y ≤ v) = true := by simpa using e2
          simp only [hAx, hBx, hAv, q1, q2, q3, q4, Bool.false_eq_true, if_false, if_true]
          omega
        · have hBv : B.countP (fun r => decide (r ≤ v)) = 0 := List.countP_eq_zero.2 fun r hr => by have := hs.2.1.1 r hr; simp; omega
          have q4 : decide (y ≤ v) = false := by simpa using e2
          simp only [hAx, hBx, hAv, hBv, q1, q2, q3, q4, Bool.false_eq_true, if_false, if_true]
          omega
      · have q2 : leB x v = false := by simpa [leB] using e
        have q3 : decide (x ≤ v) = false := by simpa using e
        have q4 : decide (y ≤ v) = false := by simp; omega
        simp only [q2, q3, q4, Bool.false_eq_true, if_false]
/-- SCHENSTED: the first row is as long as what does not fall. -/
theorem row_long {h : List Int} (hb : ∀ z ∈ h, z ≤ 1000) : (row h).length = lg leB h := by
  rw [← wl_all (P := leB) (v := 1000) (fun z hz => by simpa [leB] using hb z hz), row_cnt]
  exact (List.countP_eq_length.2 fun r hr => by simpa using (row_mem h (· ≤ 1000) hb).1 r hr).symm
/-- What falls by way of a row and what was put out of it. -/
def fal (R b : List Int) (v : Int) : Nat := match R.find? (fun r => decide (v < r)) with
  | none => wl gtB b v
  | some r => max (wl gtB b v) (wl gtB b r + 1)
theorem gt_anti {u v : Int} (h : u ≤ v) (b : List Int) : wl gtB b v ≤ wl gtB b u := wl_mono (fun x hx => by simp [gtB] at *; omega) b
theorem gt_cons (x : Int) (h : List Int) (v : Int) : wl gtB (x :: h) v = if v < x then max (wl gtB h v) (wl gtB h x + 1) else wl gtB h v := by
  rw [wl]
  by_cases e : v < x
  · rw [if_pos (by simpa [gtB] using e), if_pos e]
  · rw [if_neg (by simpa [gtB] using e), if_neg e]
theorem find_none {A : List Int} {v : Int} (h : ∀ a ∈ A, a ≤ v) : A.find? (fun r => decide (v < r)) = none := by
  rw [List.find?_eq_none]
  intro a ha
  have := h a ha
  simp; omega
theorem row_fal : ∀ (h : List Int) (v : Int), wl gtB h v = fal (row h) (bmp h) v
  | [], v => rfl
  | x :: h, v => by
    have ih := row_fal h
    have hs := row_sorted h
    rw [gt_cons, ih v, ih x, row, bmp]
    rcases put_spec (row h) x with ⟨h1, h2⟩ | ⟨A, y, B, h1, h2, h3, h4⟩
    · rw [h1]
      generalize row h = R at h2
      generalize bmp h = b
      have hx : fal R b x = wl gtB b x := by unfold fal; rw [find_none h2]
      have hn : fal (R ++ [x]) b v = match R.find? (fun r => decide (v < r)) with
          | none => if v < x then max (wl gtB b v) (wl gtB b x + 1) else wl gtB b v
          | some r => max (wl gtB b v) (wl gtB b r + 1) := by
        unfold fal
        rw [List.find?_append]
        cases R.find? (fun r => decide (v < r)) with
        | none => by_cases e : v < x <;> simp [e]
        | some r => rfl
      show _ = fal (R ++ [x]) b v
      rw [hx, hn]
      unfold fal
      by_cases e : v < x
      · rw [if_pos e]
        cases hr : R.find? (fun r => decide (v < r)) with
        | none => rw [if_pos e]
        | some r =>
          have := gt_anti (h2 r (List.mem_of_find?_eq_some hr)) b
          simp only
          omega
      · simp only [if_neg e]
    · rw [h4]
      rw [h1] at hs ⊢
      rw [List.pairwise_append, List.pairwise_cons] at hs
      have hB := hs.2.1.1
      generalize bmp h = b
      show _ = fal (A ++ x :: B) (y :: b) v
      have hx : fal (A ++ y :: B) b x = max (wl gtB b x) (wl gtB b y + 1) := by
        unfold fal
        rw [List.find?_append, find_none h2, List.find?_cons]
        simp [h3]
      rw [hx]
      by_cases e : v < x
      · rw [if_pos e]
        unfold fal
        rw [List.find?_append, List.find?_append, List.find?_cons, List.find?_cons]
        have e2 : decide (v < y) = true := by simp; omega
        have e3 : decide (v < x) = true := by simpa using e
        rw [e2, e3]
        cases hr : A.find? (fun r => decide (v < r)) with
        | none =>
          simp only [Option.none_or]
          rw [gt_cons, gt_cons, if_pos (by omega), if_pos h3]
        | some r =>
          have hr2 := h2 r (List.mem_of_find?_eq_some hr)
          have := gt_anti hr2 b
          simp only [Option.some_or]
          rw [gt_cons, gt_cons, if_pos (by omega), if_pos (by omega)]
          omega
      · rw [if_neg e]
        have hA : A.find? (fun r => decide (v < r)) = none := find_none fun a ha => by have := h2 a ha; omega
        have e3 : decide (v < x) = false := by simpa using e
        by_cases e2 : v < y
        · have e4 : decide (v < y) = true := by simpa using e2
          unfold fal
          rw [List.find?_append, List.find?_append, hA, List.find?_cons, List.find?_cons, e3, e4]
          simp only [Option.none_or]
          cases hr : B.find? (fun r => decide (v < r)) with
          | none => simp only; rw [gt_cons, if_pos e2]
          | some z =>
            have hz := hB z (List.mem_of_find?_eq_some hr)
            have := gt_anti hz b
            simp only
            rw [gt_cons, gt_cons, if_pos e2, if_neg (by omega)]
            omega
        · have e4 : decide (v < y) = false := by simpa using e2
          unfold fal
          rw [List.find?_append, List.find?_append, hA, List.find?_cons, List.find?_cons, e3, e4]
          simp only [Option.none_or]
          cases hr : B.find? (fun r => decide (v < r)) with
          | none => simp only; rw [gt_cons, if_neg e2]
          | some z =>
            have hz := List.find?_some hr
            simp at hz
            simp only
            rw [gt_cons, gt_cons, if_neg e2, if_neg (by omega)]
/-- All that is put out is greater than what stands first. -/
theorem row_first : ∀ (h : List Int), ∀ z ∈ bmp h, ∃ r R, row h = r :: R ∧ r < z
  | [], z, hz => by simp [bmp] at hz
  | x :: h, z, hz => by
    have ih := row_first h
    have hs := row_sorted h
    rw [row]
    rw [bmp] at hz
    rcases put_spec (row h) x with ⟨h1, h2⟩ | ⟨A, y, B, h1, h2, h3, h4⟩
    · rw [h1] at hz ⊢
      obtain ⟨r, R, e, hr⟩ := ih z hz
      exact ⟨r, R ++ [x], by rw [e]; rfl, hr⟩
    · rw [h4] at hz ⊢
      have hz2 : z = y ∨ z ∈ bmp h := by simpa using hz
      cases A with
      | nil =>
        refine ⟨x, B, rfl, ?_⟩
        rcases hz2 with rfl | hz2
        · exact h3
        · obtain ⟨r, R, e, hr⟩ := ih z hz2
          rw [h1] at e
          injection e with e _
          omega
      | cons a A =>
        refine ⟨a, A ++ x :: B, rfl, ?_⟩
        rcases hz2 with rfl | hz2
        · have := h2 a (by simp); omega
        · obtain ⟨r, R, e, hr⟩ := ih z hz2
          rw [h1] at e
          injection e with e _
          omega
theorem bmp_fal {x : Int} {h : List Int} (hb : ∀ z ∈ x :: h, 0 ≤ z) : lg gtB (x :: h) = lg gtB (bmp (x :: h)) + 1 := by
  obtain ⟨hr, hbm⟩ := row_mem (x :: h) (0 ≤ ·) hb
  have hp := row_pos x h
  rw [← wl_all (P := gtB) (v := -1) (fun z hz => by have := hb z hz; simp [gtB]; omega), row_fal]
  have hf := row_first (x :: h)
  cases hR : row (x :: h) with
  | nil => rw [hR] at hp; simp at hp
  | cons r R =>
    have h0 := hr r (by rw [hR]; simp)
    have e1 : wl gtB (bmp (x :: h)) (-1) = lg gtB (bmp (x :: h)) := wl_all fun z hz => by have := hbm z hz; simp [gtB]; omega
    have e2 : wl gtB (bmp (x :: h)) r = lg gtB (bmp (x :: h)) := wl_all fun z hz => by
      obtain ⟨r', R', e, hz2⟩ := hf z hz
      rw [hR] at e
      injection e with e _
      simp [gtB]; omega
    unfold fal
    rw [List.find?_cons, show decide ((-1 : Int) < r) = true by simp; omega]
    simp only
    rw [e1, e2]
    omega
/-- A number put into rows, one below the other. -/
def rsk : List (List Int) → Int → List (List Int)
  | [], x => [[x]]
  | R :: Rs, x => match (put R x).2 with
    | none => (put R x).1 :: Rs
    | some y => (put R x).1 :: rsk Rs y
def tab : List Int → List (List Int)
  | [] => []
  | x :: h => rsk (tab h) x
theorem tab_eq : ∀ (x : Int) (h : List Int), tab (x :: h) = row (x :: h) :: tab (bmp (x :: h))
  | x, [] => rfl
  | x, z :: h => by
    rw [tab, tab_eq z h, rsk]
    show _ = (put (row (z :: h)) x).1 :: tab (bmp (x :: z :: h))
    rw [show bmp (x :: z :: h) = match (put (row (z :: h)) x).2 with | none => bmp (z :: h) | some y => y :: bmp (z :: h) from rfl]
    cases (put (row (z :: h)) x).2 with
    | none => rfl
    | some y => rfl
theorem bmp_lt (x : Int) (h : List Int) : (bmp (x :: h)).length < (x :: h).length := by
  have h1 := row_len (x :: h)
  have h2 := row_pos x h
  omega
/-- SCHENSTED: there are as many rows as numbers that fall. -/
theorem tab_rows (n : Nat) : ∀ h : List Int, h.length ≤ n → (∀ z ∈ h, 0 ≤ z) → (tab h).length = lg gtB h := by
  induction n with
  | zero =>
    intro h hn _
    obtain rfl := List.eq_nil_of_length_eq_zero (Nat.le_zero.1 hn)
    rfl
  | succ n ih =>
    intro h hn hb
    cases h with
    | nil => rfl
    | cons x h =>
      rw [tab_eq, List.length_cons, bmp_fal hb, ih (bmp (x :: h)) (by have := bmp_lt x h; omega) (row_mem _ (0 ≤ ·) hb).2]
/-- Row by row, a column falls. -/
def Dom (R S : List Int) : Prop := S.length ≤ R.length ∧ ∀ c, c < S.length → R.getD c 0 < S.getD c 0
theorem getD_app_left {A B : List Int} {c : Nat} (h : c < A.length) : (A ++ B).getD c 0 = A.getD c 0 := by
  rw [List.getD_eq_getElem?_getD, List.getElem?_append_left h, ← List.getD_eq_getElem?_getD]
theorem getD_mid (A B : List Int) (y : Int) : (A ++ y :: B).getD A.length 0 = y := by simp
theorem getD_mid_ne {A B : List Int} {x y : Int} {c : Nat} (h : c ≠ A.length) : (A ++ x :: B).getD c 0 = (A ++ y :: B).getD c 0 := by
  rw [List.getD_eq_getElem?_getD, List.getD_eq_getElem?_getD]
  rcases Nat.lt_or_ge c A.length with k | k
  · rw [List.getElem?_append_left k, List.getElem?_append_left k]
  · rw [List.getElem?_append_right k, List.getElem?_append_right k]
    obtain ⟨d, hd⟩ : ∃ d, c - A.length = d + 1 := ⟨c - A.length - 1, by omega⟩
    rw [hd]
    rfl
theorem getD_in {A : List Int} {c : Nat} (h : c < A.length) : A.getD c 0 ∈ A := by
  rw [List.getD_eq_getElem?_getD, List.getElem?_eq_getElem h]
  exact List.getElem_mem h
theorem dom_put {A B S : List Int} {x y : Int} (hA : ∀ a ∈ A, a ≤ x) (hxy : x < y) (h : Dom (A ++ y :: B) S) : Dom (A ++ x :: B) (put S y).1 := by
  obtain ⟨hl, hc⟩ := h
  have hlen : (A ++ x :: B).length = (A ++ y :: B).length := by simp
  have hle : ∀ c, (A ++ x :: B).getD c 0 ≤ (A ++ y :: B).getD c 0 := fun c => by
    by_cases e : c = A.length
    · subst e; rw [getD_mid, getD_mid]; omega
    · rw [getD_mid_ne (y := y) e]; exact Int.le_refl _
  have hat : ∀ q, q ≤ A.length → (A ++ x :: B).getD q 0 < y := fun q hq => by
    by_cases e : q = A.length
    · subst e; rw [getD_mid]; exact hxy
    · rw [getD_app_left (by omega)]
      have := hA _ (getD_in (A := A) (c := q) (by omega))
      omega
  rcases put_spec S y with ⟨h1, h2⟩ | ⟨A2, w, B2, h1, h2, h3, h4⟩
  · rw [h1]
    have hq : S.length ≤ A.length := Nat.le_of_not_lt fun k => by
      have h5 := hc A.length k
      rw [getD_mid] at h5
      have := h2 _ (getD_in (A := S) k)
      omega
    refine ⟨by rw [hlen, List.length_append, List.length_singleton, List.length_append, List.length_cons]; omega, fun c hcc => ?_⟩
    rw [List.length_append, List.length_singleton] at hcc
    by_cases e : c = S.length
    · subst e
      rw [show S ++ [y] = S ++ y :: [] from rfl, getD_mid]
      exact hat _ hq
    · rw [getD_app_left (A := S) (by omega)]
      have := hc c (by omega)
      have := hle c
      omega
  · rw [h4]
    subst h1
    have hq : A2.length ≤ A.length := Nat.le_of_not_lt fun k => by
      have h5 := hc A.length (by rw [List.length_append, List.length_cons]; omega)
      rw [getD_mid, getD_app_left k] at h5
      have := h2 _ (getD_in (A := A2) k)
      omega
    refine ⟨by rw [hlen]; simpa using hl, fun c hcc => ?_⟩
    by_cases e : c = A2.length
    · subst e
      rw [getD_mid]
      exact hat _ hq
    · rw [getD_mid_ne (y := w) e]
      have := hc c (by simpa using hcc)
      have := hle c
      omega
theorem row_dom : ∀ h : List Int, Dom (row h) (row (bmp h))
  | [] => ⟨Nat.le_refl _, fun c hc => by simp [row, bmp] at hc⟩
  | x :: h => by
    have ih := row_dom h
    rw [row, bmp]
    rcases put_spec (row h) x with ⟨h1, h2⟩ | ⟨A, y, B, h1, h2, h3, h4⟩
    · rw [h1]
      refine ⟨by have := ih.1; simp; omega, fun c hc => ?_⟩
      rw [getD_app_left (Nat.lt_of_lt_of_le hc ih.1)]
      exact ih.2 c hc
    · rw [h4]
      rw [h1] at ih
      exact dom_put h2 h3 ih
/-- The shape: each row has a number, none is longer than the one ahead, and together they are the list. -/
theorem tab_shape (n : Nat) : ∀ h : List Int, h.length ≤ n → ((tab h).map List.length).sum = h.length ∧ (∀ R ∈ tab h, 1 ≤ R.length) ∧ ∀ i, i + 1 < (tab h).length → ((tab h).getD (i + 1) []).length ≤ ((tab h).getD i []).length := by
  induction n with
  | zero =>
    intro h hn
    obtain rfl := List.eq_nil_of_length_eq_zero (Nat.le_zero.1 hn)
    exact ⟨rfl, fun R hR => by simp [tab] at hR, fun i hi => by simp [tab] at hi⟩
  | succ n ih =>
    intro h hn
    cases h with
    | nil => exact ⟨rfl, fun R hR => by simp [tab] at hR, fun i hi => by simp [tab] at hi⟩
    | cons x h =>
      obtain ⟨i1, i2, i3⟩ := ih (bmp (x :: h)) (by have := bmp_lt x h; omega)
      rw [tab_eq]
      refine ⟨?_, fun R hR => ?_, fun i hi => ?_⟩
      · rw [List.map_cons, List.sum_cons, i1]
        exact row_len _
      · rcases List.mem_cons.1 hR with rfl | hR
        · exact row_pos x h
        · exact i2 R hR
      · rcases i with _ | i
        · show ((tab (bmp (x :: h))).getD 0 []).length ≤ (row (x :: h)).length
          have hd := (row_dom (x :: h)).1
          cases hb : bmp (x :: h) with
          | nil => rw [hb] at hi; simp [tab] at hi
          | cons z b =>
            rw [hb] at hd
            rw [tab_eq]
            exact hd
        · exact i3 i (by simpa using hi)

/-! ### Piles -/
/-- A number put on the first pile whose top is not smaller, or on a new one. -/
def pil : List Int → Int → List Int
  | [], x => [x]
  | t :: T, x => if t < x then t :: pil T x else x :: T
theorem pil_spec : ∀ (T : List Int) (x : Int), (pil T x = T ++ [x] ∧ ∀ t ∈ T, t < x) ∨ ∃ A t B, T = A ++ t :: B ∧ (∀ a ∈ A, a < x) ∧ x ≤ t ∧ pil T x = A ++ x :: B
  | [], x => .inl ⟨rfl, fun r hr => by simp at hr⟩
  | t :: T, x => by
    by_cases e : t < x
    · rcases pil_spec T x with ⟨h1, h2⟩ | ⟨A, z, B, h1, h2, h3, h4⟩
      · refine .inl ⟨by rw [pil, if_pos e, h1]; rfl, fun r hr => ?_⟩
        rcases List.mem_cons.1 hr with rfl | hr
        · exact e
        · exact h2 r hr
      · refine .inr ⟨t :: A, z, B, by rw [h1]; rfl, fun a ha => ?_, h3, by rw [pil, if_pos e, h4]; rfl⟩
        rcases List.mem_cons.1 ha with rfl | ha
        · exact e
        · exact h2 a ha
    · exact .inr ⟨[], t, T, rfl, fun a ha => by simp at ha, by omega, by rw [pil, if_neg e]; rfl⟩
def tops : List Int → List Int
  | [] => []
  | x :: h => pil (tops h) x
theorem tops_sorted : ∀ h, (tops h).Pairwise (· < ·)
  | [] => List.Pairwise.nil
  | x :: h => by
    have ih := tops_sorted h
    rw [tops]
    rcases pil_spec (tops h) x with ⟨h1, h2⟩ | ⟨A, y, B, h1, h2, h3, h4⟩
    · rw [h1, List.pairwise_append]
      exact ⟨ih, by simp, fun a ha b hb => by rw [List.mem_singleton.1 hb]; exact h2 a ha⟩
    · rw [h4]
      rw [h1, List.pairwise_append, List.pairwise_cons] at ih
      rw [List.pairwise_append, List.pairwise_cons]
      refine ⟨ih.1, ⟨fun b hb => by have := ih.2.1.1 b hb; omega, ih.2.1.2⟩, fun a ha b hb => ?_⟩
      rcases List.mem_cons.1 hb with rfl | hb
      · exact h2 a ha
      · have := ih.2.1.1 b hb
        have := h2 a ha
        omega
theorem tops_mem : ∀ (h : List Int), ∀ t ∈ tops h, t ∈ h
  | [], t, ht => by simp [tops] at ht
  | x :: h, t, ht => by
    have ih := tops_mem h
    rw [tops] at ht
    rcases pil_spec (tops h) x with ⟨h1, _⟩ | ⟨A, y, B, h1, _, _, h4⟩
    · rw [h1] at ht
      rcases List.mem_append.1 ht with k | k
      · exact List.mem_cons_of_mem _ (ih t k)
      · rw [List.mem_singleton.1 k]; simp
    · rw [h4] at ht
      rw [h1] at ih
      rcases List.mem_append.1 ht with k | k
      · exact List.mem_cons_of_mem _ (ih t (List.mem_append_left _ k))
      · rcases List.mem_cons.1 k with rfl | k
        · simp
        · exact List.mem_cons_of_mem _ (ih t (List.mem_append_right _ (List.mem_cons_of_mem _ k)))
theorem tops_cnt : ∀ (h : List Int) (v : Int), wl ltB h v = (tops h).countP (fun r => decide (r < v))
  | [], v => rfl
  | x :: h, v => by
    have ih := tops_cnt h
    have hs := tops_sorted h
    rw [wl, tops, ih v, ih x]
    rcases pil_spec (tops h) x with ⟨h1, h2⟩ | ⟨A, y, B, h1, h2, h3, h4⟩
    · rw [h1]
      simp only [List.countP_append, List.countP_singleton]
      have hx : (tops h).countP (fun r => decide (r < x)) = (tops h).length := List.countP_eq_length.2 fun r hr => by simpa using h2 r hr
      by_cases e : x < v
      · have hv : (tops h).countP (fun r => decide (r < v)) = (tops h).length := List.countP_eq_length.2 fun r hr => by have := h2 r hr; simp; omega
        rw [if_pos (by simpa [ltB] using e), if_pos (by simpa using e)]
        omega
      · rw [if_neg (by simpa [ltB] using e), if_neg (by simpa using e)]
        rfl
    · rw [h4]
      rw [h1] at hs ⊢
      rw [List.pairwise_append, List.pairwise_cons] at hs
      simp only [List.countP_append, List.countP_cons]
      have hAx : A.countP (fun r => decide (r < x)) = A.length := List.countP_eq_length.2 fun r hr => by simpa using h2 r hr
      have hBx : B.countP (fun r => decide (r < x)) = 0 := List.countP_eq_zero.2 fun r hr => by have := hs.2.1.1 r hr; simp; omega
      have q1 : decide (y < x) = false := by simp; omega
      by_cases e : x < v
      · have hAv : A.countP (fun r => decide (r < v)) = A.length := List.countP_eq_length.2 fun r hr => by have := h2 r hr; simp; omega
        have q2 : ltB x v = true := by simpa [ltB] using e
        have q3 : decide (x < v) = true := by simpa using e
        by_cases e2 : y < v
        · have q4 : decide (y < v) = true := by simpa using e2
          simp only [hAx, hBx, hAv, q1, q2, q3, q4, Bool.false_eq_true, if_false, if_true]
          omega
        · have hBv : B.countP (fun r => decide (r < v)) = 0 := List.countP_eq_zero.2 fun r hr => by have := hs.2.1.1 r hr; simp; omega
          have q4 : decide (y < v) = false := by simpa using e2
          simp only [hAx, hBx, hAv, hBv, q1, q2, q3, q4, Bool.false_eq_true, if_false, if_true]
          omega
      · have q2 : ltB x v = false := by simpa [ltB] using e
        have q3 : decide (x < v) = false := by simpa using e
        have q4 : decide (y < v) = false := by simp; omega
        simp only [q2, q3, q4, Bool.false_eq_true, if_false]
/-- As many piles as numbers that rise. -/
theorem tops_long {h : List Int} (hb : ∀ z ∈ h, z ≤ 1000) : (tops h).length = lg ltB h := by
  rw [← wl_all (P := ltB) (v := 1001) (fun z hz => by have := hb z hz; simp [ltB]; omega), tops_cnt]
  exact (List.countP_eq_length.2 fun r hr => by have := hb r (tops_mem h r hr); simp; omega).symm
/-- The piles with how many lie on each. -/
def pz : List (Int × Nat) → Int → List (Int × Nat)
  | [], x => [(x, 1)]
  | t :: T, x => if t.1 < x then t :: pz T x else (x, t.2 + 1) :: T
def pls : List Int → List (Int × Nat)
  | [] => []
  | x :: h => pz (pls h) x
theorem pz_fst : ∀ (T : List (Int × Nat)) (x : Int), (pz T x).map Prod.fst = pil (T.map Prod.fst) x
  | [], x => rfl
  | t :: T, x => by
    rw [pz, List.map_cons, pil]
    by_cases e : t.1 < x
    · rw [if_pos e, if_pos e, List.map_cons, pz_fst T x]
    · rw [if_neg e, if_neg e, List.map_cons]
theorem pls_fst : ∀ h, (pls h).map Prod.fst = tops h
  | [] => rfl
  | x :: h => by rw [pls, pz_fst, pls_fst h]; rfl
theorem pz_sum : ∀ (T : List (Int × Nat)) (x : Int), ((pz T x).map Prod.snd).sum = (T.map Prod.snd).sum + 1
  | [], x => rfl
  | t :: T, x => by
    rw [pz]
    by_cases e : t.1 < x
    · rw [if_pos e, List.map_cons, List.sum_cons, pz_sum T x, List.map_cons, List.sum_cons]; omega
    · rw [if_neg e, List.map_cons, List.sum_cons, List.map_cons, List.sum_cons]; show t.2 + 1 + _ = _; omega
theorem pls_sum : ∀ h, ((pls h).map Prod.snd).sum = h.length
  | [] => rfl
  | x :: h => by rw [pls, pz_sum, pls_sum h]; rfl
theorem pz_le {G G' : Int → Nat} {x : Int} (h1 : ∀ v, G v ≤ G' v) (h2 : ∀ v, x ≤ v → G v + 1 ≤ G' x) (h3 : 1 ≤ G' x) : ∀ T : List (Int × Nat), (∀ t ∈ T, t.2 ≤ G t.1) → ∀ t ∈ pz T x, t.2 ≤ G' t.1
  | [], _, t, ht => by
    have : t = (x, 1) := by simpa [pz] using ht
    subst this
    exact h3
  | u :: T, hT, t, ht => by
    have hu := hT u (by simp)
    rw [pz] at ht
    by_cases e : u.1 < x
    · rw [if_pos e] at ht
      rcases List.mem_cons.1 ht with rfl | ht
      · exact Nat.le_trans hu (h1 _)
      · exact pz_le h1 h2 h3 T (fun w hw => hT w (by simp [hw])) t ht
    · rw [if_neg e] at ht
      rcases List.mem_cons.1 ht with rfl | ht
      · have := h2 u.1 (by omega)
        show u.2 + 1 ≤ G' x
        omega
      · exact Nat.le_trans (hT t (by simp [ht])) (h1 _)
theorem pls_le : ∀ h, ∀ t ∈ pls h, t.2 ≤ wl geB h t.1
  | [], t, ht => by simp [pls] at ht
  | x :: h, t, ht => by
    have ih := pls_le h
    rw [pls] at ht
    refine pz_le (G := wl geB h) (G' := wl geB (x :: h)) (fun v => ?_) (fun v hv => ?_) ?_ _ ih t ht
    · rw [wl]; split <;> omega
    · rw [wl, if_pos (by simp [geB])]
      have : wl geB h v ≤ wl geB h x := wl_mono (fun z hz => by simp [geB] at *; omega) h
      omega
    · rw [wl, if_pos (by simp [geB])]; omega
theorem sum_le (m : Nat) : ∀ T : List Nat, (∀ t ∈ T, t ≤ m) → T.sum ≤ T.length * m
  | [], _ => Nat.zero_le _
  | t :: T, h => by
    have h1 := h t (by simp)
    have h2 := sum_le m T (fun w hw => h w (by simp [hw]))
    rw [List.sum_cons, List.length_cons, Nat.add_mul, Nat.one_mul]
    omega
/-- ERDOS, SZEKERES. -/
theorem erdos {h : List Int} (hb : ∀ z ∈ h, z ≤ 1000) : h.length ≤ lg ltB h * lg geB h := by
  rw [← tops_long hb, ← pls_fst, ← pls_sum h, List.length_map]
  have := sum_le (lg geB h) ((pls h).map Prod.snd) (fun c hc => by
    obtain ⟨t, ht, rfl⟩ := List.mem_map.1 hc
    exact Nat.le_trans (pls_le h t ht) (wl_le_lg _ _ _))
  rwa [List.length_map] at this
end Go.Proofs.Ytlbefiaieehcfaa
