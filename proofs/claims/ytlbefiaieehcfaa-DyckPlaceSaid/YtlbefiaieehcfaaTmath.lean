/-
  Plain mathematics of words and their beginnings, without a program: the words that begin with a sign or a text, how many beginnings words have, the words in their order, the longest word with which a text begins. No condition.
-/
namespace Go.Proofs.Ytlbefiaieehcfaa

/-- A word, and its place among the words. -/
abbrev Wd := List UInt8 × Nat

/-- Of the words that begin with the sign c: what is left of each. -/
def rest1 (c : UInt8) (p : Wd) : Option Wd := match p.1 with
  | d :: r => if d = c then some (r, p.2) else none
  | [] => none
def kid (c : UInt8) (L : List Wd) : List Wd := L.filterMap (rest1 c)
/-- Of the words that begin with p: what is left of each. -/
def subs : List UInt8 → List Wd → List Wd
  | [], L => L
  | c :: p, L => subs p (kid c L)

theorem rest1_some {c : UInt8} {p q : Wd} : rest1 c p = some q ↔ p = (c :: q.1, q.2) := by
  obtain ⟨x, i⟩ := p; obtain ⟨y, j⟩ := q
  cases x with
  | nil => simp [rest1]
  | cons d r =>
    by_cases h : d = c
    · simp [rest1, h]
    · simp [rest1, h]
theorem mem_kid {c : UInt8} {L : List Wd} {r : List UInt8} {i : Nat} : (r, i) ∈ kid c L ↔ (c :: r, i) ∈ L := by
  simp only [kid, List.mem_filterMap, rest1_some]
  constructor
  · rintro ⟨p, hp, rfl⟩; exact hp
  · intro h; exact ⟨_, h, rfl⟩
theorem mem_subs {p : List UInt8} : ∀ {L : List Wd} {r : List UInt8} {i : Nat}, (r, i) ∈ subs p L ↔ (p ++ r, i) ∈ L := by
  induction p with
  | nil => intro L r i; rfl
  | cons c p ih => intro L r i; rw [subs, ih, mem_kid]; rfl
theorem subs_snoc (p : List UInt8) (c : UInt8) : ∀ L : List Wd, subs (p ++ [c]) L = kid c (subs p L) := by
  induction p with
  | nil => intro L; rfl
  | cons d p ih => intro L; exact ih _
theorem kid_nil (c : UInt8) : kid c [] = [] := rfl
theorem subs_nil (p : List UInt8) : subs p [] = [] := by
  induction p with
  | nil => rfl
  | cons c p ih => exact ih
theorem kid_append (c : UInt8) (L M : List Wd) : kid c (L ++ M) = kid c L ++ kid c M := by simp [kid]
theorem subs_append (p : List UInt8) : ∀ L M : List Wd, subs p (L ++ M) = subs p L ++ subs p M := by
  induction p with
  | nil => intro L M; rfl
  | cons c p ih => intro L M; rw [subs, kid_append, ih]; rfl
theorem kid_perm {c : UInt8} {L M : List Wd} (h : L.Perm M) : (kid c L).Perm (kid c M) := h.filterMap _
theorem subs_empty {p : List UInt8} {L : List Wd} : subs p L = [] ↔ ∀ q ∈ L, ¬ p <+: q.1 := by
  constructor
  · rintro h ⟨x, i⟩ hq ⟨r, hr⟩
    have : (r, i) ∈ subs p L := mem_subs.2 (by rw [hr]; exact hq)
    rw [h] at this; cases this
  · intro h
    rw [List.eq_nil_iff_forall_not_mem]
    rintro ⟨r, i⟩ hm
    exact h _ (mem_subs.1 hm) ⟨r, rfl⟩
/-- One word more: at a prefix of it. -/
theorem subs_one_yes {p r : List UInt8} {i : Nat} : subs p [(p ++ r, i)] = [(r, i)] := by
  induction p with
  | nil => rfl
  | cons c p ih => rw [subs]; simpa [kid, rest1] using ih
theorem subs_one_no {p x : List UInt8} {i : Nat} (h : ¬ p <+: x) : subs p [(x, i)] = [] := subs_empty.2 (by simpa using h)

/-! ### The words' places -/
/-- The place of the word that is spelt whole here; none: -1. -/
def wd (L : List Wd) : Int := match L.find? (fun p => p.1.isEmpty) with
  | some p => (p.2 : Int)
  | none => -1
theorem wd_nil : wd [] = -1 := rfl
/-- No word stands twice. -/
def Once (L : List Wd) : Prop := L.Pairwise fun p q => p.1 ≠ q.1
theorem once_kid {c : UInt8} {L : List Wd} (h : Once L) : Once (kid c L) := by
  refine List.Pairwise.filterMap _ ?_ h
  intro a a' hne b hb b' hb'
  rw [rest1_some] at hb hb'
  subst hb hb'
  intro e
  exact hne (by simp [e])
theorem once_subs {p : List UInt8} : ∀ {L : List Wd}, Once L → Once (subs p L) := by
  induction p with
  | nil => intro L h; exact h
  | cons c p ih => intro L h; exact ih (once_kid h)
theorem once_same {L : List Wd} (h : Once L) {x : List UInt8} {i j : Nat} (hi : (x, i) ∈ L) (hj : (x, j) ∈ L) : i = j := by
  induction L with
  | nil => cases hi
  | cons p L ih =>
    have hp := List.pairwise_cons.1 h
    rcases List.mem_cons.1 hi with rfl | hi'
    · rcases List.mem_cons.1 hj with e | hj'
      · exact (Prod.mk.inj e).2.symm
      · exact absurd rfl (hp.1 (x, j) hj')
    · rcases List.mem_cons.1 hj with rfl | hj'
      · exact absurd rfl (hp.1 (x, i) hi')
      · exact ih hp.2 hi' hj'
theorem wd_mem {L : List Wd} (h : Once L) {i : Nat} (hi : ([], i) ∈ L) : wd L = i := by
  unfold wd
  cases hf : L.find? (fun p => p.1.isEmpty) with
  | none => have := List.find?_eq_none.1 hf _ hi; simp at this
  | some p =>
    have h1 := List.find?_some hf
    have h2 := List.mem_of_find?_eq_some hf
    obtain ⟨x, j⟩ := p
    have : x = [] := by simpa using h1
    subst this
    show (j : Int) = i
    rw [once_same h h2 hi]
theorem wd_none {L : List Wd} (h : ∀ i, ([], i) ∉ L) : wd L = -1 := by
  unfold wd
  cases hf : L.find? (fun p => p.1.isEmpty) with
  | none => rfl
  | some p =>
    have h1 := List.find?_some hf
    have h2 := List.mem_of_find?_eq_some hf
    obtain ⟨x, j⟩ := p
    have : x = [] := by simpa using h1
    subst this
    exact absurd h2 (h j)
theorem wd_or (L : List Wd) : wd L = -1 ∨ ∃ i, ([], i) ∈ L ∧ wd L = (i : Int) := by
  unfold wd
  cases hf : L.find? (fun p => p.1.isEmpty) with
  | none => exact .inl rfl
  | some p =>
    have h1 := List.find?_some hf
    have h2 := List.mem_of_find?_eq_some hf
    obtain ⟨x, j⟩ := p
    have : x = [] := by simpa using h1
    subst this
    exact .inr ⟨j, h2, rfl⟩
theorem wd_range (L : List Wd) (n : Nat) (h : ∀ p ∈ L, p.2 < n) : -1 ≤ wd L ∧ wd L < n := by
  rcases wd_or L with h1 | ⟨i, h1, h2⟩
  · rw [h1]; omega
  · have := h _ h1; simp at this; omega

/-! ### Sums over the signs -/
def sum256 (f : UInt8 → Nat) : Nat := ((List.range 256).map fun n => f (UInt8.ofNat n)).sum
theorem sum_upd (n d : Nat) (f g : Nat → Nat) (hd : d < n) (h : ∀ c, c < n → c ≠ d → f c = g c) : ((List.range n).map f).sum + g d = ((List.range n).map g).sum + f d := by
  induction n with
  | zero => omega
  | succ n ih =>
    rw [List.range_succ]
    simp only [List.map_append, List.map_cons, List.map_nil, List.sum_append, List.sum_cons, List.sum_nil]
    by_cases e : d = n
    · subst e
      have : (List.range d).map f = (List.range d).map g := List.map_congr_left fun c hc => h c (by have := List.mem_range.1 hc; omega) (by have := List.mem_range.1 hc; omega)
      rw [this]; omega
    · have := ih (by omega) fun c hc => h c (by omega)
      have := h n (by omega) (fun e' => e e'.symm)
      omega
theorem sum256_upd (d : UInt8) (f g : UInt8 → Nat) (h : ∀ c, c ≠ d → f c = g c) : sum256 f + g d = sum256 g + f d := by
  have hd : UInt8.ofNat d.toNat = d := by simp
  have := sum_upd 256 d.toNat (fun n => f (UInt8.ofNat n)) (fun n => g (UInt8.ofNat n)) (by have := d.toNat_lt; omega) (fun c hc hne => h _ fun e => hne (by rw [← e]; simp [UInt8.toNat_ofNat']; omega))
  simp only [hd] at this
  exact this
theorem sum_congr {f g : UInt8 → Nat} (h : ∀ c, f c = g c) : sum256 f = sum256 g := by
  have : f = g := funext h
  rw [this]
theorem sum256_zero {f : UInt8 → Nat} (h : ∀ c, f c = 0) : sum256 f = 0 := by
  have e : ∀ n, ((List.range n).map fun n => f (UInt8.ofNat n)).sum = 0 := by
    intro n
    induction n with
    | zero => rfl
    | succ n ih => rw [List.range_succ, List.map_append, List.sum_append, ih]; simp [h]
  exact e 256
theorem sum_le {f g : Nat → Nat} (h : ∀ c, f c ≤ g c) (n : Nat) : ((List.range n).map f).sum ≤ ((List.range n).map g).sum := by
  induction n with
  | zero => simp
  | succ n ih =>
    rw [List.range_succ]
    simp only [List.map_append, List.map_cons, List.map_nil, List.sum_append, List.sum_cons, List.sum_nil]
    have := h n; omega
theorem sum256_le {f g : UInt8 → Nat} (h : ∀ c, f c ≤ g c) : sum256 f ≤ sum256 g := sum_le (fun _ => h _) 256

/-! ### How many nodes -/
def sz : Nat → List Wd → Nat
  | 0, _ => 1
  | k + 1, L => 1 + sum256 fun c => if (kid c L).isEmpty then 0 else sz k (kid c L)
/-- How many beginnings a word has that the words L don't have. -/
def fr : List Wd → List UInt8 → Nat
  | _, [] => 0
  | L, c :: r => if (kid c L).isEmpty then r.length + 1 else fr (kid c L) r
theorem fr_le (x : List UInt8) : ∀ L, fr L x ≤ x.length := by
  induction x with
  | nil => intro L; exact Nat.le_refl _
  | cons c r ih => intro L; unfold fr; split; exact Nat.le_refl _; have := ih (kid c L); simp; omega
theorem fr_none (x : List UInt8) : fr [] x = x.length := by
  cases x with
  | nil => rfl
  | cons c r => simp [fr, kid_nil]
theorem sz_none (k : Nat) : sz k [] = 1 := by
  cases k with
  | zero => rfl
  | succ k => rw [sz, sum256_zero (fun c => by simp [kid_nil])]
theorem sz_snoc (k : Nat) : ∀ (L : List Wd) (x : List UInt8) (i : Nat), x.length ≤ k → sz k (L ++ [(x, i)]) = sz k L + fr L x := by
  induction k with
  | zero => intro L x i hx; have : x = [] := List.length_eq_zero_iff.1 (by omega); subst this; rfl
  | succ k ih =>
    intro L x i hx
    cases x with
    | nil =>
      have : ∀ c, kid c (L ++ [([], i)]) = kid c L := fun c => by rw [kid_append]; simp [kid, rest1]
      simp only [sz, this, fr]; omega
    | cons d r =>
      have hd : kid d (L ++ [(d :: r, i)]) = kid d L ++ [(r, i)] := by rw [kid_append]; simp [kid, rest1]
      have ho : ∀ c, c ≠ d → kid c (L ++ [(d :: r, i)]) = kid c L := fun c hc => by rw [kid_append]; simp [kid, rest1, Ne.symm hc]
      have hs := sum256_upd d (fun c => if (kid c (L ++ [(d :: r, i)])).isEmpty then 0 else sz k (kid c (L ++ [(d :: r, i)]))) (fun c => if (kid c L).isEmpty then 0 else sz k (kid c L)) (fun c hc => by rw [ho c hc])
      simp only [hd] at hs
      have hne : (kid d L ++ [(r, i)]).isEmpty = false := by simp
      simp only [hne, Bool.false_eq_true, if_false] at hs
      have hi := ih (kid d L) r i (by simp at hx; omega)
      simp only [sz, fr]
      by_cases he : (kid d L).isEmpty = true
      · have he' : kid d L = [] := by simpa using he
        simp only [he, if_true] at hs ⊢
        rw [he', fr_none, sz_none] at hi
        rw [he'] at hs
        omega
      · simp only [he] at hs ⊢
        simp only [Bool.false_eq_true, if_false] at hs ⊢
        omega
theorem sz_perm (k : Nat) : ∀ {L M : List Wd}, L.Perm M → sz k L = sz k M := by
  induction k with
  | zero => intro L M _; rfl
  | succ k ih =>
    intro L M h
    refine congrArg (1 + ·) (sum_congr fun c => ?_)
    have hk := kid_perm (c := c) h
    have : (kid c L).isEmpty = (kid c M).isEmpty := by
      rw [Bool.eq_iff_iff]; simp only [List.isEmpty_iff]
      constructor
      · intro e; rw [e] at hk; exact hk.nil_eq.symm
      · intro e; rw [e] at hk; exact hk.eq_nil
    rw [this, ih hk]
theorem list_snoc {α : Type} {C : List α → Prop} (h0 : C []) (h1 : ∀ L x, C L → C (L ++ [x])) (L : List α) : C L := by
  have : ∀ M : List α, C M.reverse := by
    intro M
    induction M with
    | nil => exact h0
    | cons x M ih => rw [List.reverse_cons]; exact h1 _ _ ih
  have := this L.reverse
  rwa [List.reverse_reverse] at this
theorem sz_le (k m : Nat) (L : List Wd) : (∀ p ∈ L, p.1.length ≤ k ∧ p.1.length ≤ m) → sz k L ≤ 1 + m * L.length := by
  refine list_snoc (C := fun L => (∀ p ∈ L, p.1.length ≤ k ∧ p.1.length ≤ m) → sz k L ≤ 1 + m * L.length) ?_ ?_ L
  · intro _; rw [sz_none]; omega
  · intro L p ih h
    obtain ⟨x, i⟩ := p
    have hp := h (x, i) (by simp)
    have := ih fun q hq => h q (by simp [hq])
    rw [sz_snoc k L x i hp.1]
    have := fr_le x L
    have hx : x.length ≤ m := hp.2
    simp only [List.length_append, List.length_singleton, Nat.mul_add, Nat.mul_one]
    omega
/-- As the reference counts: which beginnings are new. -/
theorem fr_count (x : List UInt8) : ∀ L, fr L x = ((List.range x.length).filter fun k => (subs (x.take (k + 1)) L).isEmpty).length := by
  induction x with
  | nil => intro L; rfl
  | cons c r ih =>
    intro L
    have e : ∀ k, subs ((c :: r).take (k + 1)) L = subs (r.take k) (kid c L) := fun k => rfl
    simp only [e, List.length_cons]
    rw [List.range_succ_eq_map, List.filter_cons, List.filter_map, fr]
    by_cases he : (kid c L).isEmpty = true
    · have he' : kid c L = [] := by simpa using he
      simp only [he', subs_nil, List.isEmpty_nil, if_true]
      simp only [List.length_cons, List.length_map, Function.comp_def]
      rw [List.filter_eq_self.2 (fun _ _ => rfl), List.length_range]
    · have h0 : (subs (r.take 0) (kid c L)).isEmpty = false := by simpa [subs] using he
      simp only [he, h0, Bool.false_eq_true, if_false]
      rw [ih, List.length_map]
      rfl
/-! ### The words in their order -/
/-- The words' places in the words' order. -/
def od : Nat → List Wd → List Nat
  | 0, L => (L.filter fun p => p.1.isEmpty).map (·.2)
  | k + 1, L => ((L.filter fun p => p.1.isEmpty).map (·.2)) ++ (List.range 256).flatMap fun n => if (kid (UInt8.ofNat n) L).isEmpty then [] else od k (kid (UInt8.ofNat n) L)
/-- M holds the words of L, in their order. -/
def Sorted (M L : List Wd) : Prop := M.Pairwise (fun p q => p.1 < q.1) ∧ ∀ p, p ∈ M ↔ p ∈ L
theorem empties_one {L : List Wd} (h : Once L) : (L.filter fun p => p.1.isEmpty).Pairwise fun p q => p.1 < q.1 := by
  refine List.Pairwise.imp_of_mem ?_ (h.filter _)
  intro a b ha hb hne
  have h1 : a.1 = [] := by simpa using (List.mem_filter.1 ha).2
  have h2 : b.1 = [] := by simpa using (List.mem_filter.1 hb).2
  exact absurd (h1.trans h2.symm) hne
theorem u8_lt {a b : Nat} (h : a < b) (hb : b < 256) : UInt8.ofNat a < UInt8.ofNat b := by
  rw [UInt8.lt_iff_toNat_lt, UInt8.toNat_ofNat', UInt8.toNat_ofNat']; omega
theorem u8_back (c : UInt8) : UInt8.ofNat c.toNat = c := by simp
theorem od_sorted (k : Nat) : ∀ L : List Wd, Once L → (∀ p ∈ L, p.1.length ≤ k) → ∃ M, Sorted M L ∧ od k L = M.map (·.2) := by
  induction k with
  | zero =>
    intro L hO hl
    refine ⟨L.filter fun p => p.1.isEmpty, ⟨empties_one hO, fun p => ?_⟩, rfl⟩
    rw [List.mem_filter]
    refine ⟨fun h => h.1, fun h => ⟨h, ?_⟩⟩
    have := hl p h
    simpa using this
  | succ k ih =>
    intro L hO hl
    have hk : ∀ c, ∃ M, Sorted M (kid c L) ∧ od k (kid c L) = M.map (·.2) := fun c => ih (kid c L) (once_kid hO) (by
      rintro ⟨r, i⟩ hp
      have := hl _ (mem_kid.1 hp)
      simp at this ⊢; omega)
    obtain ⟨M, hM⟩ := Classical.axiomOfChoice hk
    have hE : ∀ c, (kid c L).isEmpty = true → M c = [] := fun c he => by
      rw [List.eq_nil_iff_forall_not_mem]
      intro p hp
      have := ((hM c).1.2 p).1 hp
      have he' : kid c L = [] := by simpa using he
      rw [he'] at this; cases this
    refine ⟨(L.filter fun p => p.1.isEmpty) ++ (List.range 256).flatMap fun n => (M (UInt8.ofNat n)).map fun p => (UInt8.ofNat n :: p.1, p.2), ⟨?_, ?_⟩, ?_⟩
    · rw [List.pairwise_append]
      refine ⟨empties_one hO, ?_, ?_⟩
      · rw [List.pairwise_flatMap]
        refine ⟨fun n _ => ?_, ?_⟩
        · rw [List.pairwise_map]
          exact (hM _).1.1.imp fun h => List.cons_lt_cons_self.2 h
        · refine List.pairwise_lt_range.imp_of_mem ?_
          intro a b _ hb hab x hx y hy
          obtain ⟨p, _, rfl⟩ := List.mem_map.1 hx
          obtain ⟨q, _, rfl⟩ := List.mem_map.1 hy
          exact List.cons_lt_cons_iff.2 (.inl (u8_lt hab (List.mem_range.1 hb)))
      · intro a ha b hb
        have h1 : a.1 = [] := by simpa using (List.mem_filter.1 ha).2
        obtain ⟨n, _, hn⟩ := List.mem_flatMap.1 hb
        obtain ⟨q, _, rfl⟩ := List.mem_map.1 hn
        rw [h1]; exact List.nil_lt_cons _ _
    · rintro ⟨x, i⟩
      rw [List.mem_append, List.mem_filter, List.mem_flatMap]
      constructor
      · rintro (h | ⟨n, _, hn⟩)
        · exact h.1
        · obtain ⟨⟨r, j⟩, hq, e⟩ := List.mem_map.1 hn
          cases e
          exact mem_kid.1 (((hM _).1.2 _).1 hq)
      · intro h
        cases x with
        | nil => exact .inl ⟨h, rfl⟩
        | cons c r =>
          refine .inr ⟨c.toNat, List.mem_range.2 c.toNat_lt, List.mem_map.2 ⟨(r, i), ?_, ?_⟩⟩
          · rw [u8_back]; exact ((hM _).1.2 _).2 (mem_kid.2 h)
          · simp
    · rw [od, List.map_append, List.map_flatMap]
      congr 1
      refine congrArg (fun f => (List.range 256).flatMap f) (funext fun n => ?_)
      split
      · rename_i he; rw [hE _ he]; rfl
      · rw [(hM _).2, List.map_map]; rfl
/-! ### One order -/
theorem lt_irr (a : List UInt8) : ¬ a < a := List.lt_irrefl a
theorem lt_asym {a b : List UInt8} (h : a < b) : ¬ b < a := fun h' => lt_irr _ (List.lt_trans h h')
theorem sorted_nodup {M L : List Wd} (h : Sorted M L) : M.Nodup := List.Pairwise.imp (fun {a b} (h : a.1 < b.1) (e : a = b) => lt_irr b.1 (by rw [e] at h; exact h)) h.1
theorem sorted_perm {M L : List Wd} (h : Sorted M L) (hO : Once L) : M.Perm L :=
  (List.perm_ext_iff_of_nodup (sorted_nodup h) (hO.imp fun h e => h (by rw [e]))).2 h.2
theorem sorted_one {M N L : List Wd} (h1 : Sorted M L) (h2 : Sorted N L) : M = N := by
  have hp : M.Perm N := (List.perm_ext_iff_of_nodup (sorted_nodup h1) (sorted_nodup h2)).2 fun p => (h1.2 p).trans (h2.2 p).symm
  refine List.Perm.eq_of_pairwise (le := fun p q => p.1 < q.1) (fun a b _ _ h h' => absurd h' (lt_asym h)) h1.1 h2.1 hp

/-- The words with their places. -/
def wds (ws : List (List UInt8)) : List Wd := ws.zipIdx
theorem wds_mem {ws : List (List UInt8)} {x : List UInt8} {i : Nat} : (x, i) ∈ wds ws ↔ ws[i]? = some x := by
  simp [wds, List.mem_zipIdx_iff_getElem?]
theorem wds_snoc (ws : List (List UInt8)) (x : List UInt8) : wds (ws ++ [x]) = wds ws ++ [(x, ws.length)] := by
  simp [wds, List.zipIdx_append]
theorem wds_once {ws : List (List UInt8)} : Once (wds ws) ↔ ws.Nodup := by
  refine list_snoc (C := fun ws => Once (wds ws) ↔ ws.Nodup) (by simp [wds, Once]) ?_ ws
  intro L x ih
  rw [wds_snoc]
  unfold Once at ih ⊢
  rw [List.pairwise_append, List.nodup_append, ih]
  simp only [List.pairwise_cons, List.mem_singleton, List.not_mem_nil, false_implies, implies_true, List.Pairwise.nil, and_self, true_and, List.nodup_cons, not_false_eq_true, List.nodup_nil]
  constructor
  · rintro ⟨h1, h2⟩
    refine ⟨h1, ?_⟩
    rintro a ha b rfl e
    obtain ⟨i, hi⟩ := List.mem_iff_getElem?.1 ha
    exact h2 (a, i) (wds_mem.2 hi) (b, L.length) rfl e
  · rintro ⟨h1, h2⟩
    refine ⟨h1, ?_⟩
    rintro ⟨a, i⟩ ha q rfl e
    exact h2 a (List.mem_iff_getElem?.2 ⟨i, wds_mem.1 ha⟩) x rfl e

/-- o lists the places of the words ws in their order. -/
def InOrder (ws : List (List UInt8)) (o : List Nat) : Prop :=
  o.length = ws.length ∧ (∀ i ∈ o, i < ws.length) ∧ o.Pairwise fun i j => ws.getD i [] < ws.getD j []
theorem nodup_len (n : Nat) : ∀ o : List Nat, o.Nodup → (∀ i ∈ o, i < n) → o.length ≤ n := by
  induction n with
  | zero => intro o _ h; cases o with
    | nil => exact Nat.le_refl _
    | cons a o => exact absurd (h a (by simp)) (by omega)
  | succ n ih =>
    intro o hn h
    by_cases e : n ∈ o
    · have h1 := ih (o.erase n) (hn.erase n) fun i hi => by
        have h2 := (hn.mem_erase_iff.1 hi)
        have := h i h2.2
        have := h2.1
        omega
      have := List.length_erase_of_mem e
      omega
    · have := ih o hn fun i hi => by
        have := h i hi
        have : i ≠ n := fun e' => e (e' ▸ hi)
        omega
      omega
theorem nodup_full {n : Nat} {o : List Nat} (hl : o.length = n) (hb : ∀ i ∈ o, i < n) (hn : o.Nodup) (i : Nat) (hi : i < n) : i ∈ o := by
  by_cases e : i ∈ o
  · exact e
  · have := nodup_len n (i :: o) (List.nodup_cons.2 ⟨e, hn⟩) fun j hj => by
      rcases List.mem_cons.1 hj with rfl | hj'
      · exact hi
      · exact hb j hj'
    simp at this; omega
theorem inorder_sorted {ws : List (List UInt8)} {o : List Nat} (h : InOrder ws o) : Sorted (o.map fun i => (ws.getD i [], i)) (wds ws) := by
  refine ⟨List.pairwise_map.2 h.2.2, ?_⟩
  rintro ⟨x, i⟩
  rw [List.mem_map, wds_mem]
  have hn : o.Nodup := List.Pairwise.imp (fun {a b} (h : ws.getD a [] < ws.getD b []) (e : a = b) => lt_irr _ (by rw [e] at h; exact h)) h.2.2
  constructor
  · rintro ⟨j, hj, e⟩
    have := h.2.1 j hj
    simp [List.getD_eq_getElem?_getD] at e
    obtain ⟨rfl, rfl⟩ := e
    simp [this]
  · intro he
    have hi : i < ws.length := (List.getElem?_eq_some_iff.1 he).1
    exact ⟨i, nodup_full h.1 h.2.1 hn i hi, by simp [List.getD_eq_getElem?_getD, he]⟩
theorem inorder_one {ws : List (List UInt8)} {o o' : List Nat} (h : InOrder ws o) (h' : InOrder ws o') : o = o' := by
  have := congrArg (List.map (·.2)) (sorted_one (inorder_sorted h) (inorder_sorted h'))
  rw [List.map_map, List.map_map] at this
  have e : ((fun x : Wd => x.2) ∘ fun i => (ws.getD i [], i)) = id := rfl
  rw [e] at this
  simpa using this
theorem od_inorder {ws : List (List UInt8)} (k : Nat) (hN : ws.Nodup) (hk : ∀ x ∈ ws, x.length ≤ k) : InOrder ws (od k (wds ws)) := by
  obtain ⟨M, hM, e⟩ := od_sorted k (wds ws) (wds_once.2 hN) (by
    rintro ⟨x, i⟩ hp
    exact hk x (List.mem_iff_getElem?.2 ⟨i, wds_mem.1 hp⟩))
  have hp := sorted_perm hM (wds_once.2 hN)
  have hw : ∀ p ∈ M, ws.getD p.2 [] = p.1 := by
    rintro ⟨x, i⟩ hp'
    have := wds_mem.1 ((hM.2 _).1 hp')
    simp [List.getD_eq_getElem?_getD, this]
  rw [e]
  refine ⟨by rw [List.length_map, hp.length_eq]; simp [wds], ?_, ?_⟩
  · intro i hi
    obtain ⟨⟨x, j⟩, hp', rfl⟩ := List.mem_map.1 hi
    exact (List.getElem?_eq_some_iff.1 (wds_mem.1 ((hM.2 _).1 hp'))).1
  · rw [List.pairwise_map]
    refine hM.1.imp_of_mem ?_
    intro a b ha hb h
    rw [hw a ha, hw b hb]; exact h

/-! ### What two words begin with alike, in the order -/
/-- Where a beginning stands at both ends of a stretch of the order, it stands between, too. -/
theorem pre_between {p : List UInt8} : ∀ {y z x : List UInt8}, (y < z ∨ y = z) → z < x → p <+: y → p <+: x → p <+: z := by
  induction p with
  | nil => intro y z x _ _ _ _; exact List.nil_prefix
  | cons c p ih =>
    rintro y z x h1 h2 ⟨r, rfl⟩ ⟨s, rfl⟩
    rcases h1 with h1 | h1
    · cases z with
      | nil => exact absurd h1 (by simp)
      | cons d z =>
        simp only [List.cons_append] at h1 h2
        rw [List.cons_lt_cons_iff] at h1 h2
        rcases h1 with h1 | ⟨rfl, h1⟩
        · rcases h2 with h2 | ⟨e, _⟩
          · exact absurd (UInt8.lt_trans h1 h2) (UInt8.lt_irrefl _)
          · subst e; exact absurd h1 (UInt8.lt_irrefl _)
        · rcases h2 with h2 | ⟨_, h2⟩
          · exact absurd h2 (UInt8.lt_irrefl _)
          · exact List.cons_prefix_cons.2 ⟨rfl, ih (.inl h1) h2 ⟨r, rfl⟩ ⟨s, rfl⟩⟩
    · subst h1; exact ⟨r, rfl⟩
/-- How many signs two words begin with alike. -/
def lc : List UInt8 → List UInt8 → Nat
  | a :: x, b :: y => if a = b then lc x y + 1 else 0
  | _, _ => 0
theorem lc_le (x : List UInt8) : ∀ y, lc x y ≤ y.length := by
  induction x with
  | nil => intro y; simp [lc]
  | cons a x ih => intro y; cases y with
    | nil => simp [lc]
    | cons b y => unfold lc; split; have := ih y; simp; omega; omega
theorem lc_pre (z : List UInt8) : ∀ (x : List UInt8) (k : Nat), k ≤ x.length → (x.take k <+: z ↔ k ≤ lc z x) := by
  induction z with
  | nil =>
    intro x k hk
    simp only [List.prefix_nil, lc]
    cases k with
    | zero => simp
    | succ k =>
      cases x with
      | nil => simp at hk
      | cons b x => simp
  | cons a z ih =>
    intro x k hk
    cases k with
    | zero => simp
    | succ k =>
      cases x with
      | nil => simp at hk
      | cons b x =>
        rw [List.take_succ_cons, List.cons_prefix_cons, ih x k (by simp at hk; omega), lc]
        by_cases e : a = b
        · simp [e]
        · simp [e, Ne.symm e]
/-- In the order a word has as many new beginnings as it is longer than what it has with the one ahead. -/
theorem fr_sorted {L : List Wd} {z x : List UInt8} (hz : (z = [] ∧ L = []) ∨ ∃ i, (z, i) ∈ L) (hm : ∀ p ∈ L, p.1 < z ∨ p.1 = z) (hx : z < x) : fr L x = x.length - lc z x := by
  rw [fr_count]
  have e : ∀ k, k < x.length → (subs (x.take (k + 1)) L).isEmpty = !decide (k + 1 ≤ lc z x) := by
    intro k hk
    rw [Bool.eq_iff_iff, List.isEmpty_iff, subs_empty]
    simp only [Bool.not_eq_true', decide_eq_false_iff_not]
    rw [← lc_pre z x (k + 1) (by omega)]
    constructor
    · intro h hp
      rcases hz with ⟨rfl, rfl⟩ | ⟨i, hi⟩
      · have := List.prefix_nil.1 hp
        have := congrArg List.length this
        rw [List.length_take, List.length_nil] at this; omega
      · exact h _ hi hp
    · intro h q hq hp
      exact h (pre_between (hm q hq) hx hp (List.take_prefix _ _))
  rw [List.filter_congr fun k hk => e k (List.mem_range.1 hk)]
  have hle := lc_le z x
  generalize lc z x = m at hle
  have : ∀ n, m ≤ n → ((List.range n).filter fun k => !decide (k + 1 ≤ m)).length = n - m := by
    intro n
    induction n with
    | zero => intro h; simp
    | succ n ih =>
      intro h
      rw [List.range_succ, List.filter_append, List.length_append]
      by_cases e : m = n + 1
      · subst e
        rw [List.filter_eq_nil_iff.2 (fun k hk => by have := List.mem_range.1 hk; simp; omega)]
        simp
      · rw [ih (by omega)]
        simp only [List.filter_cons, List.filter_nil]
        rw [if_pos (by simp; omega)]
        simp; omega
  exact this _ hle

/-! ### The longest word with which a text begins -/
def Lg (L : List Wd) (t : List UInt8) (k : Int) : Prop :=
  (k = -1 ∧ ∀ p ∈ L, ¬ p.1 <+: t) ∨ ∃ x i, (x, i) ∈ L ∧ k = (i : Nat) ∧ x <+: t ∧ ∀ p ∈ L, p.1 <+: t → p.1.length ≤ x.length
theorem lg_one {L : List Wd} (hO : Once L) {t : List UInt8} {k k' : Int} (h : Lg L t k) (h' : Lg L t k') : k = k' := by
  rcases h with ⟨rfl, h⟩ | ⟨x, i, hi, rfl, hx, hm⟩
  · rcases h' with ⟨rfl, _⟩ | ⟨x, i, hi, rfl, hx, _⟩
    · rfl
    · exact absurd hx (h _ hi)
  · rcases h' with ⟨rfl, h'⟩ | ⟨y, j, hj, rfl, hy, hm'⟩
    · exact absurd hx (h' _ hi)
    · have h1 := hm _ hj hy
      have h2 := hm' _ hi hx
      have : x = y := (List.prefix_of_prefix_length_le hx hy h2).eq_of_length (by simp at h1 h2; omega)
      subst this
      rw [once_same hO hi hj]
end Go.Proofs.Ytlbefiaieehcfaa
