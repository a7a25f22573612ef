/-
  Plain mathematics, without a program: what follows words in words, what comes of a text, and the search of Sardinas and Patterson with a list of what is seen and a place up to which it is done. No condition.
-/
import Derived.Test.YtlfncplldppncaaDoorSardR
namespace Go.Proofs.YtlfncplldppncaaDoor

/-- What follows word i in word k, for the pairs ahead of (i, k). -/
structure Fol (W : List (List UInt8)) (l : List ByteArray) (i k : Nat) : Prop where
  sound : ∀ a ∈ l, ∃ i' k', i' < W.length ∧ k' < W.length ∧ i' ≠ k' ∧ W.getD k' [] = W.getD i' [] ++ bs a
  start : ∀ i' k' s, i' < W.length → k' < W.length → i' ≠ k' → (i' < i ∨ (i' = i ∧ k' < k)) → W.getD k' [] = W.getD i' [] ++ s → txt s ∈ l
  few : l.length ≤ 6 * i + k
theorem fol_nil (W : List (List UInt8)) : Fol W [] 0 0 := ⟨fun _ h => (by cases h), fun _ _ _ _ _ _ h => (by omega), Nat.zero_le _⟩
theorem fol_row {W : List (List UInt8)} {l : List ByteArray} {i : Nat} (h : Fol W l i W.length) (h6 : W.length ≤ 6) : Fol W l (i + 1) 0 :=
  ⟨h.sound, fun i' k' s h1 h2 h3 h4 e => h.start i' k' s h1 h2 h3 (by omega) e, by have := h.few; omega⟩
theorem fol_yes {W : List (List UInt8)} {l : List ByteArray} {i k : Nat} (h : Fol W l i k) (hi : i < W.length) (hk : k < W.length) (hne : i ≠ k) {a : ByteArray} (ha : W.getD k [] = W.getD i [] ++ bs a) : Fol W (l ++ [a]) i (k + 1) := by
  refine ⟨fun b hb => ?_, fun i' k' s h1 h2 h3 h4 e => ?_, by rw [List.length_append, List.length_singleton]; have := h.few; omega⟩
  · rcases List.mem_append.1 hb with hb | hb
    · exact h.sound b hb
    · rw [List.mem_singleton.1 hb]
      exact ⟨i, k, hi, hk, hne, ha⟩
  · by_cases e1 : i' = i ∧ k' = k
    · obtain ⟨rfl, rfl⟩ := e1
      rw [ha] at e
      have := List.append_cancel_left e
      rw [← this, txt_bs]
      simp
    · exact List.mem_append_left _ (h.start i' k' s h1 h2 h3 (by omega) e)
theorem fol_no {W : List (List UInt8)} {l : List ByteArray} {i k : Nat} (h : Fol W l i k) (hno : i = k ∨ ¬ W.getD i [] <+: W.getD k []) : Fol W l i (k + 1) := by
  refine ⟨h.sound, fun i' k' s h1 h2 h3 h4 e => ?_, by have := h.few; omega⟩
  by_cases e1 : i' = i ∧ k' = k
  · obtain ⟨rfl, rfl⟩ := e1
    rcases hno with hno | hno
    · exact absurd hno h3
    · exact absurd ⟨s, e.symm⟩ hno
  · exact h.start i' k' s h1 h2 h3 (by omega) e
theorem fol_free {W : List (List UInt8)} {l : List ByteArray} (h : Fol W l W.length 0) : l.length = 0 ↔ Pfree W := by
  constructor
  · intro h0 i k hi hk hne hp
    obtain ⟨s, e⟩ := hp
    have := h.start k i s hk hi (Ne.symm hne) (.inl hk) e.symm
    rw [List.eq_nil_of_length_eq_zero h0] at this
    cases this
  · intro hp
    cases l with
    | nil => rfl
    | cons a l =>
      obtain ⟨i, k, hi, hk, hne, e⟩ := h.sound a (by simp)
      exact absurd ⟨bs a, e.symm⟩ (hp k i hk hi (Ne.symm hne))
/-- What comes of a by the first i words. -/
structure Cnt (W : List (List UInt8)) (a : ByteArray) (f : List ByteArray) (i : Nat) : Prop where
  sound : ∀ r ∈ f, ∃ j, j < W.length ∧ (W.getD j [] = bs a ++ bs r ∨ bs a = W.getD j [] ++ bs r)
  all : ∀ j, j < i → Shut W f a j
  few : f.length ≤ i
theorem cnt_nil (W : List (List UInt8)) (a : ByteArray) : Cnt W a [] 0 := ⟨fun _ h => (by cases h), fun _ h => (by omega), Nat.zero_le _⟩
theorem cnt_yes {W : List (List UInt8)} {a : ByteArray} {f : List ByteArray} {i : Nat} (h : Cnt W a f i) (hi : i < W.length) {r : ByteArray} (hr : W.getD i [] = bs a ++ bs r ∨ bs a = W.getD i [] ++ bs r) : Cnt W a (f ++ [r]) (i + 1) := by
  refine ⟨fun b hb => ?_, fun j hj => ?_, by rw [List.length_append, List.length_singleton]; have := h.few; omega⟩
  · rcases List.mem_append.1 hb with hb | hb
    · exact h.sound b hb
    · rw [List.mem_singleton.1 hb]; exact ⟨i, hi, hr⟩
  · rcases Nat.lt_or_ge j i with h1 | h1
    · exact (h.all j h1).more _
    · obtain rfl : j = i := by omega
      exact shut_in hr (by simp)
theorem cnt_no {W : List (List UInt8)} {a : ByteArray} {f : List ByteArray} {i : Nat} (h : Cnt W a f i) (h1 : ¬ bs a <+: W.getD i []) (h2 : ¬ W.getD i [] <+: bs a) : Cnt W a f (i + 1) :=
  ⟨h.sound, fun j hj => by
    rcases Nat.lt_or_ge j i with h3 | h3
    · exact h.all j h3
    · obtain rfl : j = i := by omega
      exact shut_no h1 h2, by have := h.few; omega⟩
/-- New ones are put behind, each once. -/
def tIn (r : ByteArray) (l : List ByteArray) : Bool := (l.map bs).contains (bs r)
theorem tIn_iff {r : ByteArray} {l : List ByteArray} : tIn r l = true ↔ r ∈ l := by
  unfold tIn
  rw [List.contains_iff_mem, List.mem_map]
  exact ⟨fun ⟨a, h, e⟩ => bs_inj e ▸ h, fun h => ⟨r, h, rfl⟩⟩
def add1 (l : List ByteArray) (r : ByteArray) : List ByteArray := if tIn r l = true then l else l ++ [r]
def addL (l f : List ByteArray) : List ByteArray := f.foldl add1 l
theorem addL_snoc (l f : List ByteArray) (r : ByteArray) : addL l (f ++ [r]) = add1 (addL l f) r := by simp [addL]
theorem addL_take (l : List ByteArray) {f : List ByteArray} {i : Nat} (h : i < f.length) : addL l (f.take (i + 1)) = add1 (addL l (f.take i)) (f.getD i ByteArray.empty) := by
  rw [List.take_succ_eq_append_getElem h, addL_snoc]
  simp [h]
theorem add1_mem {l : List ByteArray} {r a : ByteArray} : a ∈ add1 l r ↔ a ∈ l ∨ a = r := by
  unfold add1
  split
  · rename_i h
    constructor
    · exact .inl
    · rintro (h' | rfl)
      · exact h'
      · exact tIn_iff.1 h
  · simp
theorem addL_mem {f : List ByteArray} : ∀ {l : List ByteArray} {a : ByteArray}, a ∈ addL l f ↔ a ∈ l ∨ a ∈ f := by
  induction f with
  | nil => intro l a; simp [addL]
  | cons r f ih =>
    intro l a
    show a ∈ addL (add1 l r) f ↔ _
    rw [ih, add1_mem, List.mem_cons, or_assoc]
theorem add1_pre (l : List ByteArray) (r : ByteArray) : l <+: add1 l r := by
  unfold add1
  split
  · exact List.prefix_refl _
  · exact List.prefix_append _ _
theorem addL_pre (f : List ByteArray) : ∀ l : List ByteArray, l <+: addL l f := by
  induction f with
  | nil => intro l; exact List.prefix_refl _
  | cons r f ih => intro l; exact (add1_pre l r).trans (ih (add1 l r))
theorem add1_nodup {l : List ByteArray} (h : l.Nodup) (r : ByteArray) : (add1 l r).Nodup := by
  unfold add1
  split
  · exact h
  · rename_i hn
    rw [List.nodup_append]
    exact ⟨h, by simp, fun x hx y hy e => hn (tIn_iff.2 (by rw [List.mem_singleton.1 hy] at e; rw [← e]; exact hx))⟩
theorem addL_nodup (f : List ByteArray) : ∀ {l : List ByteArray}, l.Nodup → (addL l f).Nodup := by
  induction f with
  | nil => intro l h; exact h
  | cons r f ih => intro l h; exact ih (add1_nodup h r)
theorem pre_getD {l m : List ByteArray} (h : l <+: m) {j : Nat} (hj : j < l.length) : m.getD j ByteArray.empty = l.getD j ByteArray.empty := by
  obtain ⟨r, rfl⟩ := h
  exact getD_more l r hj
theorem pre_drop {l : List ByteArray} {p : Nat} (hp : p ≤ l.length) (r : ByteArray) : (add1 l r).drop p = if tIn r l = true then l.drop p else l.drop p ++ [r] := by
  unfold add1
  split
  · rfl
  · rw [List.drop_append_of_le_length hp]
theorem add1_len (l : List ByteArray) (r : ByteArray) : (add1 l r).length ≤ l.length + 1 := by
  unfold add1
  split
  · omega
  · simp
theorem addL_len (f : List ByteArray) : ∀ l : List ByteArray, (addL l f).length ≤ l.length + f.length := by
  induction f with
  | nil => intro l; exact Nat.le_refl _
  | cons r f ih =>
    intro l
    have h1 := ih (add1 l r)
    have h2 := add1_len l r
    rw [List.length_cons]
    exact Nat.le_trans h1 (by omega)
theorem tIn_snoc (s x : ByteArray) (l : List ByteArray) : tIn s (l ++ [x]) = (tIn s l || decide (s = x)) := by
  rw [Bool.eq_iff_iff, tIn_iff, Bool.or_eq_true, tIn_iff, decide_eq_true_eq]
  simp
theorem fol_size {W : List (List UInt8)} {l : List ByteArray} {i k : Nat} (h : Fol W l i k) (h8 : ∀ x ∈ W, x.length ≤ 8) : ∀ a ∈ l, a.size ≤ 8 := fun a ha => by
  obtain ⟨i', k', _, hk, _, e⟩ := h.sound a ha
  have := h8 (W.getD k' []) (by rw [List.getD_eq_getElem?_getD, List.getElem?_eq_getElem hk]; exact List.getElem_mem hk)
  rw [e, List.length_append, bs_len] at this
  omega
theorem cnt_size {W : List (List UInt8)} {a : ByteArray} {f : List ByteArray} {i : Nat} (h : Cnt W a f i) (h8 : ∀ x ∈ W, x.length ≤ 8) (ha : a.size ≤ 8) : ∀ r ∈ f, r.size ≤ 8 := fun r hr => by
  obtain ⟨j, hj, e | e⟩ := h.sound r hr
  · have := h8 (W.getD j []) (by rw [List.getD_eq_getElem?_getD, List.getElem?_eq_getElem hj]; exact List.getElem_mem hj)
    rw [e, List.length_append, bs_len, bs_len] at this
    omega
  · have := congrArg List.length e
    rw [List.length_append, bs_len, bs_len] at this
    omega
/-- The search: l are those seen, the first p of them are done. -/
structure Ap (W : List (List UInt8)) (l : List ByteArray) (p : Nat) : Prop where
  sound : ∀ a ∈ l, Dang W (bs a)
  start : ∀ i' k' s, i' < W.length → k' < W.length → i' ≠ k' → W.getD i' [] = W.getD k' [] ++ s → txt s ∈ l
  done : ∀ j, j < p → j < l.length → ∀ i', i' < W.length → Shut W l (l.getD j ByteArray.empty) i'
  once : l.Nodup
theorem ap_start {W : List (List UInt8)} {R : List ByteArray} (h : Fol W R W.length 0) : Ap W (addL [] R) 0 where
  sound := fun a ha => by
    rcases addL_mem.1 ha with h' | h'
    · cases h'
    · obtain ⟨i, k, hi, hk, hne, e⟩ := h.sound a h'
      exact .start hk hi (Ne.symm hne) e
  start := fun i' k' s h1 h2 h3 e => addL_mem.2 (.inr (h.start k' i' s h2 h1 (Ne.symm h3) (.inl h2) e))
  done := fun _ h => (by omega)
  once := addL_nodup R List.nodup_nil
theorem ap_step {W : List (List UInt8)} {l F : List ByteArray} {p : Nat} (h : Ap W l p) (hp : p < l.length) (hF : Cnt W (l.getD p ByteArray.empty) F W.length) : Ap W (addL l F) (p + 1) where
  sound := fun a ha => by
    rcases addL_mem.1 ha with h' | h'
    · exact h.sound a h'
    · have hd := h.sound (l.getD p ByteArray.empty) (by rw [List.getD_eq_getElem?_getD, List.getElem?_eq_getElem hp]; exact List.getElem_mem hp)
      obtain ⟨j, hj, e | e⟩ := hF.sound a h'
      · exact .fwd hd hj e
      · exact .back hd hj e
  start := fun i' k' s h1 h2 h3 e => addL_mem.2 (.inl (h.start i' k' s h1 h2 h3 e))
  done := fun j hj _ i' hi' => by
    rw [pre_getD (addL_pre F l) (by omega)]
    rcases Nat.lt_or_ge j p with h1 | h1
    · exact fun r hr => addL_mem.2 (.inl (h.done j h1 (by omega) i' hi' r hr))
    · obtain rfl : j = p := by omega
      exact fun r hr => addL_mem.2 (.inr (hF.all i' hi' r hr))
  once := addL_nodup F h.once
theorem ap_few {W : List (List UInt8)} {l : List ByteArray} {p : Nat} (h : Ap W l p) (h6 : W.length ≤ 6) (h8 : ∀ x ∈ W, x.length ≤ 8) : l.length ≤ 54 := by
  have h1 := nodup_sub (l.map bs) (sufs W) ((List.pairwise_map.2 (h.once.imp fun {a b} hne e => hne (bs_inj e)))) (fun x hx => by
    obtain ⟨b, hb, rfl⟩ := List.mem_map.1 hx
    exact sufs_mem (h.sound b hb))
  rw [List.length_map] at h1
  have h2 := sufs_len h8
  omega
theorem ap_size {W : List (List UInt8)} {l : List ByteArray} {p : Nat} (h : Ap W l p) (h8 : ∀ x ∈ W, x.length ≤ 8) : ∀ a ∈ l, a.size ≤ 8 := fun a ha => by
  obtain ⟨i, hi, q, e⟩ := dang_end_of (h.sound a ha)
  have := h8 (W.getD i []) (by rw [List.getD_eq_getElem?_getD, List.getElem?_eq_getElem hi]; exact List.getElem_mem hi)
  rw [e, List.length_append, bs_len] at this
  omega
theorem ap_void {W : List (List UInt8)} {l : List ByteArray} {p : Nat} (h : Ap W l p) {a : ByteArray} (ha : a ∈ l) (h0 : a.size = 0) : ¬ UD W := by
  have := h.sound a ha
  rw [bs_zero h0] at this
  exact dang_two this
theorem ap_end {W : List (List UInt8)} {l : List ByteArray} (h : Ap W l l.length) (hw : Okw W) (h0 : txt [] ∉ l) : UD W := by
  refine (ud_iff hw).2 fun hd => h0 ?_
  have : [] ∈ l.map bs := by
    refine dang_in (A := l.map bs) ?_ ?_ hd
    · intro i k s h1 h2 h3 e
      exact List.mem_map.2 ⟨_, h.start i k s h1 h2 h3 e, bs_txt s⟩
    · intro a ha i r hi hr
      obtain ⟨b, hb, rfl⟩ := List.mem_map.1 ha
      obtain ⟨j, hj, e⟩ := List.getElem_of_mem hb
      have h1 := h.done j hj hj i hi
      rw [List.getD_eq_getElem?_getD, List.getElem?_eq_getElem hj, Option.getD_some, e] at h1
      exact List.mem_map.2 ⟨_, h1 r hr, bs_txt r⟩
  obtain ⟨b, hb, e⟩ := List.mem_map.1 this
  rw [← e, txt_bs]
  exact hb
end Go.Proofs.YtlfncplldppncaaDoor
