/-
  Plain mathematics, without a program: texts of brackets: what is wrong with one, all of one length in their order, how many there are, the place of one and the one at a place; brackets behind and around brackets, and from the end. No condition.
-/
namespace Go.Proofs.Ytlbefiaieehcfaa

/-- From o open ones on, all are closed. '(' is 40, ')' is 41. -/
inductive Bl : Nat → List UInt8 → Prop
  | nil : Bl 0 []
  | op {o : Nat} {s : List UInt8} (h : Bl (o + 1) s) : Bl o (40 :: s)
  | cl {o : Nat} {s : List UInt8} (h : Bl o s) : Bl (o + 1) (41 :: s)
/-- What is wrong, 0 if nothing is. -/
def brk : Nat → List UInt8 → Int
  | o, [] => if 0 < o then 7 else 0
  | o, c :: s => if c = 40 then brk (o + 1) s else if c = 41 then (if o = 0 then 7 else brk (o - 1) s) else 2
theorem brk_iff : ∀ (s : List UInt8) (o : Nat), brk o s = 0 ↔ Bl o s
  | [], o => by
    rw [brk]
    constructor
    · intro h
      by_cases e : 0 < o
      · rw [if_pos e] at h; cases h
      · obtain rfl : o = 0 := by omega
        exact .nil
    · intro h
      cases h
      rfl
  | c :: s, o => by
    rw [brk]
    by_cases e1 : c = 40
    · subst e1
      rw [if_pos rfl, brk_iff s (o + 1)]
      exact ⟨.op, fun h => by cases h; assumption⟩
    · rw [if_neg e1]
      by_cases e2 : c = 41
      · subst e2
        rw [if_pos rfl]
        by_cases e3 : o = 0
        · subst e3
          rw [if_pos rfl]
          exact ⟨fun h => (by cases h), fun h => (by cases h)⟩
        · obtain ⟨p, rfl⟩ : ∃ p, o = p + 1 := ⟨o - 1, by omega⟩
          rw [if_neg e3, Nat.add_sub_cancel, brk_iff s p]
          exact ⟨.cl, fun h => by cases h; assumption⟩
      · rw [if_neg e2]
        exact ⟨fun h => (by cases h), fun h => (by cases h <;> contradiction)⟩
theorem brk_or (o : Nat) (s : List UInt8) : brk o s = 0 ∨ brk o s = 2 ∨ brk o s = 7 := by
  induction s generalizing o with
  | nil => rw [brk]; split <;> simp
  | cons c s ih =>
    rw [brk]
    split
    · exact ih _
    · split
      · split
        · simp
        · exact ih _
      · simp
theorem bl_len {o : Nat} {s : List UInt8} (h : Bl o s) : o ≤ s.length ∧ (o + s.length) % 2 = 0 := by
  induction h with
  | nil => exact ⟨Nat.le_refl _, rfl⟩
  | op h ih => rw [List.length_cons]; omega
  | cl h ih => rw [List.length_cons]; omega
/-- All of them, in their order. -/
def ev : Nat → Nat → List (List UInt8)
  | _, 0 => [[]]
  | o, l + 1 => (if o < l + 1 then (ev (o + 1) l).map (40 :: ·) else []) ++ (if 0 < o then (ev (o - 1) l).map (41 :: ·) else [])
theorem ev_bl : ∀ (l o : Nat), o ≤ l → (o + l) % 2 = 0 → ∀ s ∈ ev o l, Bl o s ∧ s.length = l
  | 0, o, h1, _, s, hs => by
    obtain rfl : o = 0 := by omega
    have : s = [] := by simpa [ev] using hs
    subst this
    exact ⟨.nil, rfl⟩
  | l + 1, o, h1, h2, s, hs => by
    rw [ev] at hs
    rcases List.mem_append.1 hs with h | h
    · by_cases e : o < l + 1
      · rw [if_pos e] at h
        obtain ⟨t, ht, rfl⟩ := List.mem_map.1 h
        have := ev_bl l (o + 1) (by omega) (by omega) t ht
        exact ⟨.op this.1, by rw [List.length_cons, this.2]⟩
      · rw [if_neg e] at h; cases h
    · by_cases e : 0 < o
      · rw [if_pos e] at h
        obtain ⟨t, ht, rfl⟩ := List.mem_map.1 h
        have := ev_bl l (o - 1) (by omega) (by omega) t ht
        refine ⟨?_, by rw [List.length_cons, this.2]⟩
        have h3 := Bl.cl this.1
        rwa [show o - 1 + 1 = o by omega] at h3
      · rw [if_neg e] at h; cases h
theorem bl_ev {o : Nat} {s : List UInt8} (h : Bl o s) : s ∈ ev o s.length := by
  induction h with
  | nil => simp [ev]
  | @op o s h ih =>
    have := (bl_len h).1
    rw [List.length_cons, ev, if_pos (by omega)]
    exact List.mem_append_left _ (List.mem_map.2 ⟨s, ih, rfl⟩)
  | @cl o s h ih =>
    rw [List.length_cons, ev]
    refine List.mem_append_right _ ?_
    rw [if_pos (by omega), Nat.add_sub_cancel]
    exact List.mem_map.2 ⟨s, ih, rfl⟩
theorem ev_sorted : ∀ (l o : Nat), (ev o l).Pairwise (· < ·)
  | 0, o => by simp [ev]
  | l + 1, o => by
    rw [ev, List.pairwise_append]
    refine ⟨?_, ?_, fun a ha b hb => ?_⟩
    · split
      · rw [List.pairwise_map]
        exact (ev_sorted l (o + 1)).imp fun {a b} h => List.cons_lt_cons_iff.2 (.inr ⟨rfl, h⟩)
      · exact List.Pairwise.nil
    · split
      · rw [List.pairwise_map]
        exact (ev_sorted l (o - 1)).imp fun {a b} h => List.cons_lt_cons_iff.2 (.inr ⟨rfl, h⟩)
      · exact List.Pairwise.nil
    · split at ha
      · split at hb
        · obtain ⟨x, _, rfl⟩ := List.mem_map.1 ha
          obtain ⟨y, _, rfl⟩ := List.mem_map.1 hb
          exact List.cons_lt_cons_iff.2 (.inl (by decide))
        · cases hb
      · cases ha
theorem ev_nodup (l o : Nat) : (ev o l).Nodup := (ev_sorted l o).imp fun {a b} h e => by subst e; exact List.lt_irrefl _ h
/-- How many there are. -/
def bal (o l : Nat) : Nat := (ev o l).length
theorem bal_zero (o : Nat) : bal o 0 = 1 := rfl
theorem bal_succ (o l : Nat) : bal o (l + 1) = (if o < l + 1 then bal (o + 1) l else 0) + if 0 < o then bal (o - 1) l else 0 := by
  unfold bal
  rw [ev, List.length_append]
  congr 1
  · split <;> simp
  · split <;> simp
def cat (n : Nat) : Nat := [1, 1, 2, 5, 14, 42, 132, 429, 1430].getD n 0
theorem bal_cat : ∀ n, n ≤ 8 → bal 0 (2 * n) = cat n := by
  intro n hn
  have : n = 0 ∨ n = 1 ∨ n = 2 ∨ n = 3 ∨ n = 4 ∨ n = 5 ∨ n = 6 ∨ n = 7 ∨ n = 8 := by omega
  rcases this with rfl | rfl | rfl | rfl | rfl | rfl | rfl | rfl | rfl <;> decide +kernel
/-- The place of one. -/
def rk : Nat → List UInt8 → Nat
  | _, [] => 0
  | o, c :: s => if c = 40 then rk (o + 1) s else (if o < s.length + 1 then bal (o + 1) s.length else 0) + rk (o - 1) s
theorem rk_at {o : Nat} {s : List UInt8} (h : Bl o s) : (ev o s.length)[rk o s]? = some s := by
  induction h with
  | nil => rfl
  | @op o s h ih =>
    have := (bl_len h).1
    rw [List.length_cons, ev, rk, if_pos rfl, if_pos (by omega)]
    have hlt := (List.getElem?_eq_some_iff.1 ih).1
    rw [List.getElem?_append_left (by rw [List.length_map]; exact hlt), List.getElem?_map, ih]
    rfl
  | @cl o s h ih =>
    rw [List.length_cons, ev, rk, if_neg (show ¬ (41 : UInt8) = 40 by decide), Nat.add_sub_cancel]
    by_cases e : o + 1 < s.length + 1
    · rw [if_pos e, if_pos e, if_pos (by omega), List.getElem?_append_right (by rw [List.length_map]; unfold bal; omega), List.length_map]
      rw [show bal (o + 1 + 1) s.length + rk o s - (ev (o + 1 + 1) s.length).length = rk o s by unfold bal; omega, List.getElem?_map, ih]
      rfl
    · rw [if_neg e, if_neg e, if_pos (by omega), List.nil_append, Nat.zero_add, List.getElem?_map, ih]
      rfl
theorem rk_lt {o : Nat} {s : List UInt8} (h : Bl o s) : rk o s < bal o s.length := (List.getElem?_eq_some_iff.1 (rk_at h)).1
theorem rk_one {o : Nat} {s : List UInt8} (h : Bl o s) {k : Nat} (e : (ev o s.length)[k]? = some s) : k = rk o s := by
  have h1 := rk_at h
  obtain ⟨k1, k2⟩ := List.getElem?_eq_some_iff.1 e
  obtain ⟨r1, r2⟩ := List.getElem?_eq_some_iff.1 h1
  exact (List.getElem_inj (ev_nodup _ _)).1 (k2.trans r2.symm)
theorem ev_next {o l k : Nat} {s t : List UInt8} (h : (ev o l)[k]? = some s) (h' : (ev o l)[k + 1]? = some t) : s < t := by
  obtain ⟨k1, k2⟩ := List.getElem?_eq_some_iff.1 h
  obtain ⟨r1, r2⟩ := List.getElem?_eq_some_iff.1 h'
  have := List.pairwise_iff_getElem.1 (ev_sorted l o) k (k + 1) k1 r1 (by omega)
  rwa [k2, r2] at this
/-- The one at a place, sign by sign. -/
theorem ev_op {o l k : Nat} (ho : o < l + 1) (hk : k < bal (o + 1) l) {s : List UInt8} (h : (ev (o + 1) l)[k]? = some s) : (ev o (l + 1))[k]? = some (40 :: s) := by
  rw [ev, if_pos ho, List.getElem?_append_left (by rw [List.length_map]; exact hk), List.getElem?_map, h]
  rfl
theorem ev_cl {o l k : Nat} {s : List UInt8} (hk : (if o + 1 < l + 1 then bal (o + 2) l else 0) ≤ k) (h : (ev o l)[k - (if o + 1 < l + 1 then bal (o + 2) l else 0)]? = some s) : (ev (o + 1) (l + 1))[k]? = some (41 :: s) := by
  rw [ev]
  by_cases e : o + 1 < l + 1
  · rw [if_pos e] at hk h ⊢
    rw [if_pos (by omega), List.getElem?_append_right (by rw [List.length_map]; exact hk), List.length_map, Nat.add_sub_cancel, List.getElem?_map]
    have : (ev (o + 1 + 1) l).length = bal (o + 2) l := rfl
    rw [this, h]
    rfl
  · rw [if_neg e] at h ⊢
    rw [if_pos (by omega), List.nil_append, Nat.add_sub_cancel, List.getElem?_map]
    rw [Nat.sub_zero] at h
    rw [h]
    rfl
/-! ### Brackets behind, around, and from the end -/
theorem bl_app {o : Nat} {a b : List UInt8} (h : Bl o a) (k : Bl 0 b) : Bl o (a ++ b) := by
  induction h with
  | nil => exact k
  | op h ih => exact .op ih
  | cl h ih => exact .cl ih
theorem bl_more {o : Nat} {a : List UInt8} (h : Bl o a) : ∀ (p : Nat) {b : List UInt8}, Bl p b → Bl (o + p) (a ++ b) := by
  induction h with
  | nil => intro p b k; rwa [Nat.zero_add]
  | @op o s h ih => intro p b k; have := ih p k; rw [show o + 1 + p = o + p + 1 by omega] at this; exact .op this
  | @cl o s h ih => intro p b k; rw [show o + 1 + p = o + p + 1 by omega]; exact .cl (ih p k)
theorem bl_round {a : List UInt8} (h : Bl 0 a) : Bl 0 (40 :: (a ++ [41])) := by
  have := bl_more h 1 (.cl .nil)
  rw [Nat.zero_add] at this
  exact .op this
/-- Each one turned, from the end. -/
def trn (a : List UInt8) : List UInt8 := (a.map fun c => if c = 40 then 41 else 40).reverse
theorem trn_cons (c : UInt8) (a : List UInt8) : trn (c :: a) = trn a ++ [if c = 40 then 41 else 40] := by unfold trn; rw [List.map_cons, List.reverse_cons]
/-- With so many open ahead. -/
theorem bl_turn : ∀ {o : Nat} {a : List UInt8}, Bl o a → ∀ {p : Nat} {b : List UInt8}, Bl (o + p) b → Bl p (trn a ++ b) := by
  intro o a h
  induction h with
  | nil => intro p b k; rw [Nat.zero_add] at k; exact k
  | @op o s h ih =>
    intro p b k
    rw [trn_cons, if_pos rfl, List.append_assoc]
    refine ih ?_
    rw [show o + 1 + p = o + p + 1 by omega]
    exact .cl k
  | @cl o s h ih =>
    intro p b k
    rw [trn_cons, if_neg (by decide), List.append_assoc]
    refine ih (.op ?_)
    rwa [show o + p + 1 = o + 1 + p by omega]
theorem bl_trn {a : List UInt8} (h : Bl 0 a) : Bl 0 (trn a) := by
  have := bl_turn h (p := 0) (b := []) .nil
  rwa [List.append_nil] at this
end Go.Proofs.Ytlbefiaieehcfaa
