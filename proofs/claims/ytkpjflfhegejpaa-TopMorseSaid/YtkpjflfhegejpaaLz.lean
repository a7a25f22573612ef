/-
  Plain mathematics, without a program: pieces of a text by Lempel and Ziv: the longest text ahead that begins what is left (the first one of several), what the pieces stand for, that they are the text, that they stand for different texts, and that more text leaves all but the last one. No condition.
-/
namespace Go.Proofs.Ytkpjflfhegejpaa

/-- Text k of T is the longest one that begins r, the first one of several. -/
structure Bst (T : List (List UInt8)) (r : List UInt8) (k : Nat) : Prop where
  lt : k < T.length
  pre : T.getD k [] <+: r
  most : ∀ j, j < T.length → T.getD j [] <+: r → (T.getD j []).length ≤ (T.getD k []).length
  first : ∀ j, j < k → T.getD j [] <+: r → (T.getD j []).length < (T.getD k []).length
theorem bst_one {T : List (List UInt8)} {r : List UInt8} {k k' : Nat} (h : Bst T r k) (h' : Bst T r k') : k = k' := by
  rcases Nat.lt_trichotomy k k' with e | e | e
  · have h1 := h'.first k e h.pre
    have h2 := h.most k' h'.lt h'.pre
    omega
  · exact e
  · have h1 := h.first k' e h'.pre
    have h2 := h'.most k h.lt h.pre
    omega
/-- The best of the first j texts. -/
structure BstTo (T : List (List UInt8)) (r : List UInt8) (j k : Nat) : Prop where
  lt : k < T.length
  pre : T.getD k [] <+: r
  most : ∀ i, i < j → T.getD i [] <+: r → (T.getD i []).length ≤ (T.getD k []).length
  first : ∀ i, i < k → T.getD i [] <+: r → (T.getD i []).length < (T.getD k []).length
theorem bstTo_start {T : List (List UInt8)} (h : 0 < T.length) (h0 : T.getD 0 [] = []) (r : List UInt8) : BstTo T r 0 0 :=
  ⟨h, by rw [h0]; exact List.nil_prefix, fun i hi => by omega, fun i hi => by omega⟩
theorem bstTo_keep {T : List (List UInt8)} {r : List UInt8} {j k : Nat} (h : BstTo T r j k) (hno : ¬ (T.getD j [] <+: r ∧ (T.getD k []).length < (T.getD j []).length)) : BstTo T r (j + 1) k :=
  ⟨h.lt, h.pre, fun i hi hp => by
    rcases Nat.lt_or_ge i j with h1 | h1
    · exact h.most i h1 hp
    · obtain rfl : i = j := by omega
      exact Nat.le_of_not_lt fun hl => hno ⟨hp, hl⟩, h.first⟩
theorem bstTo_take {T : List (List UInt8)} {r : List UInt8} {j k : Nat} (h : BstTo T r j k) (hj : j < T.length) (hp : T.getD j [] <+: r) (hl : (T.getD k []).length < (T.getD j []).length) : BstTo T r (j + 1) j :=
  ⟨hj, hp, fun i hi hpi => by
    rcases Nat.lt_or_ge i j with h1 | h1
    · have := h.most i h1 hpi; omega
    · obtain rfl : i = j := by omega
      exact Nat.le_refl _, fun i hi hpi => by have := h.most i hi hpi; omega⟩
theorem bstTo_end {T : List (List UInt8)} {r : List UInt8} {k : Nat} (h : BstTo T r T.length k) : Bst T r k := ⟨h.lt, h.pre, h.most, h.first⟩
/-- Where the texts are different, the longest one is one. -/
theorem bst_of {T : List (List UInt8)} {r : List UInt8} {k : Nat} (hn : T.Nodup) (hk : k < T.length) (hp : T.getD k [] <+: r) (hm : ∀ t ∈ T, t <+: r → t.length ≤ (T.getD k []).length) : Bst T r k := by
  have hmem : ∀ j, j < T.length → T.getD j [] ∈ T := fun j hj => by
    rw [List.getD_eq_getElem?_getD, List.getElem?_eq_getElem hj]; exact List.getElem_mem hj
  refine ⟨hk, hp, fun j hj h => hm _ (hmem j hj) h, fun j hj h => ?_⟩
  have h1 := hm _ (hmem j (by omega)) h
  rcases Nat.lt_or_eq_of_le h1 with h2 | h2
  · exact h2
  · have e : T.getD j [] = T.getD k [] := (List.prefix_of_prefix_length_le h hp h1).eq_of_length h2
    rw [List.getD_eq_getElem?_getD, List.getD_eq_getElem?_getD, List.getElem?_eq_getElem (show j < T.length by omega), List.getElem?_eq_getElem hk] at e
    have := (List.getElem_inj hn).1 (by simpa using e)
    omega

/-- From texts T on, the pieces of s. -/
inductive Wr : List (List UInt8) → List UInt8 → List (Nat × UInt8) → Prop
  | fin {T : List (List UInt8)} : Wr T [] []
  | step {T : List (List UInt8)} {s : List UInt8} {k : Nat} {ps : List (Nat × UInt8)} (h0 : s ≠ []) (hb : Bst T s.dropLast k)
      (h : Wr (T ++ [s.take ((T.getD k []).length + 1)]) (s.drop ((T.getD k []).length + 1)) ps) : Wr T s ((k, s.getD (T.getD k []).length 0) :: ps)
theorem wr_one {T : List (List UInt8)} {s : List UInt8} {ps : List (Nat × UInt8)} (h : Wr T s ps) : ∀ {qs : List (Nat × UInt8)}, Wr T s qs → ps = qs := by
  induction h with
  | fin => intro qs h'; cases h' with
    | fin => rfl
    | step h0 => exact absurd rfl h0
  | step h0 hb h ih =>
    intro qs h'
    cases h' with
    | fin => exact absurd rfl h0
    | step h0' hb' h' =>
      obtain rfl := bst_one hb hb'
      rw [ih h']
theorem wr_nil {T : List (List UInt8)} {s : List UInt8} {ps : List (Nat × UInt8)} (h : Wr T s ps) (e : s = []) : ps = [] := by
  cases h with
  | fin => rfl
  | step h0 => exact absurd e h0
theorem wr_inv {T : List (List UInt8)} {s : List UInt8} {ps : List (Nat × UInt8)} (h : Wr T s ps) (e : s ≠ []) :
    ∃ k qs, Bst T s.dropLast k ∧ Wr (T ++ [s.take ((T.getD k []).length + 1)]) (s.drop ((T.getD k []).length + 1)) qs ∧ ps = (k, s.getD (T.getD k []).length 0) :: qs := by
  cases h with
  | fin => exact absurd rfl e
  | step h0 hb h => exact ⟨_, _, hb, h, rfl⟩
theorem best_lt {T : List (List UInt8)} {s : List UInt8} {k : Nat} (h0 : s ≠ []) (hb : Bst T s.dropLast k) : (T.getD k []).length < s.length := by
  have h1 := hb.pre.length_le
  rw [List.length_dropLast] at h1
  have := List.length_pos_iff.2 h0
  omega
/-- A piece stands for what it takes. -/
theorem best_text {T : List (List UInt8)} {s : List UInt8} {k : Nat} (h0 : s ≠ []) (hb : Bst T s.dropLast k) : s.take ((T.getD k []).length + 1) = T.getD k [] ++ [s.getD (T.getD k []).length 0] := by
  have hlt := best_lt h0 hb
  rw [List.take_succ_eq_append_getElem hlt]
  congr 1
  · exact (List.prefix_iff_eq_take.1 (hb.pre.trans (List.dropLast_prefix s))).symm
  · rw [List.getD_eq_getElem?_getD (l := s), List.getElem?_eq_getElem hlt]
    rfl
theorem wr_len {T : List (List UInt8)} {s : List UInt8} {ps : List (Nat × UInt8)} (h : Wr T s ps) : ps.length ≤ s.length := by
  induction h with
  | fin => exact Nat.le_refl _
  | step h0 hb h ih =>
    have hlt := best_lt h0 hb
    rw [List.length_drop] at ih
    rw [List.length_cons]
    omega

/-- The texts of pieces, from texts T on. -/
def txF (T : List (List UInt8)) : List (Nat × UInt8) → List (List UInt8)
  | [] => T
  | p :: ps => txF (T ++ [T.getD p.1 [] ++ [p.2]]) ps
theorem txF_app (ps qs : List (Nat × UInt8)) : ∀ T, txF T (ps ++ qs) = txF (txF T ps) qs := by
  induction ps with
  | nil => intro T; rfl
  | cons p ps ih => intro T; exact ih _
theorem txF_snoc (T : List (List UInt8)) (ps : List (Nat × UInt8)) (p : Nat × UInt8) : txF T (ps ++ [p]) = txF T ps ++ [(txF T ps).getD p.1 [] ++ [p.2]] := by rw [txF_app]; rfl
theorem txF_len (ps : List (Nat × UInt8)) : ∀ T, (txF T ps).length = T.length + ps.length := by
  induction ps with
  | nil => intro T; rfl
  | cons p ps ih => intro T; rw [txF, ih, List.length_append, List.length_singleton, List.length_cons]; omega
/-- LEMPEL, ZIV: the texts of the pieces are the text. -/
theorem wr_back {T : List (List UInt8)} {s : List UInt8} {ps : List (Nat × UInt8)} (h : Wr T s ps) : (txF T ps).flatten = T.flatten ++ s ∧ ∀ i, i < ps.length → (ps.getD i (0, 0)).1 < T.length + i := by
  induction h with
  | fin => exact ⟨by simp [txF], fun i hi => by simp at hi⟩
  | @step T s k ps h0 hb h ih =>
    constructor
    · rw [txF, ← best_text h0 hb, ih.1, List.flatten_append]
      simp
    · intro i hi
      rcases i with _ | i
      · exact hb.lt
      · have := ih.2 i (by simpa using hi)
        rw [List.length_append, List.length_singleton] at this
        show (ps.getD i (0, 0)).1 < _
        omega
/-- With each text, what is left without its last sign is a text. -/
def Clo (T : List (List UInt8)) : Prop := ∀ t ∈ T, t.dropLast ∈ T
theorem clo_pre {T : List (List UInt8)} (h : Clo T) : ∀ n : Nat, ∀ t ∈ T, ∀ u : List UInt8, u <+: t → t.length ≤ u.length + n → u ∈ T := by
  intro n
  induction n with
  | zero =>
    intro t ht u hu hl
    rwa [hu.eq_of_length (by have := hu.length_le; omega)]
  | succ n ih =>
    intro t ht u hu hl
    by_cases e : u.length = t.length
    · rwa [hu.eq_of_length e]
    · refine ih t.dropLast (h t ht) u ?_ (by rw [List.length_dropLast]; omega)
      have hle := hu.length_le
      exact List.prefix_of_prefix_length_le hu (List.dropLast_prefix t) (by rw [List.length_dropLast]; omega)
theorem mem_getD {T : List (List UInt8)} {k : Nat} (h : k < T.length) : T.getD k [] ∈ T := by
  rw [List.getD_eq_getElem?_getD, List.getElem?_eq_getElem h]
  exact List.getElem_mem h
theorem clo_more {T : List (List UInt8)} (hc : Clo T) {s : List UInt8} {k : Nat} (h0 : s ≠ []) (hb : Bst T s.dropLast k) : Clo (T ++ [s.take ((T.getD k []).length + 1)]) := by
  intro t ht
  rcases List.mem_append.1 ht with ht | ht
  · exact List.mem_append_left _ (hc t ht)
  · rw [List.mem_singleton.1 ht, best_text h0 hb, List.dropLast_concat]
    exact List.mem_append_left _ (mem_getD hb.lt)
/-- A piece that is not the last one stands for a new text. -/
theorem best_new {T : List (List UInt8)} {s : List UInt8} {k : Nat} (hb : Bst T s.dropLast k) (hr : s.drop ((T.getD k []).length + 1) ≠ []) : s.take ((T.getD k []).length + 1) ∉ T := by
  intro hm
  obtain ⟨j, hj, e⟩ := List.getElem_of_mem hm
  have hlen : (T.getD k []).length + 1 < s.length := by
    have := List.length_pos_iff.2 hr
    rw [List.length_drop] at this
    omega
  have e2 : T.getD j [] = s.take ((T.getD k []).length + 1) := by
    rw [List.getD_eq_getElem?_getD, List.getElem?_eq_getElem hj, Option.getD_some, e]
  have := hb.most j hj (by
    rw [e2, List.dropLast_eq_take]
    exact List.take_prefix_take_left (by omega))
  rw [e2, List.length_take] at this
  omega
theorem nodup_more {T : List (List UInt8)} (hn : T.Nodup) {t : List UInt8} (ht : t ∉ T) : (T ++ [t]).Nodup := by
  rw [List.nodup_append]
  exact ⟨hn, by simp, fun x hx y hy e => ht (by rw [List.mem_singleton.1 hy] at e; rw [← e]; exact hx)⟩
/-- All texts but perhaps the last one are different. -/
theorem wr_fresh {T : List (List UInt8)} {s : List UInt8} {ps : List (Nat × UInt8)} (h : Wr T s ps) (hn : T.Nodup) : (txF T ps.dropLast).Nodup := by
  induction h with
  | fin => exact hn
  | @step T s k ps h0 hb h ih =>
    by_cases hr : s.drop ((T.getD k []).length + 1) = []
    · obtain rfl := wr_nil h hr
      exact hn
    · obtain ⟨k1, qs, _, _, rfl⟩ := wr_inv h hr
      have := ih (nodup_more hn (best_new hb hr))
      show (txF (T ++ [T.getD k [] ++ [s.getD (T.getD k []).length 0]]) _).Nodup
      rw [← best_text h0 hb]
      exact this
/-- Two equal pieces stand for one text. -/
theorem pieces_differ {T : List (List UInt8)} {ps : List (Nat × UInt8)} (hb : ∀ i, i < ps.length → (ps.getD i (0, 0)).1 < T.length + i) (hn : (txF T ps.dropLast).Nodup) {i k : Nat} (hk : k < i) (hi : i + 1 < ps.length) : ps.getD k (0, 0) ≠ ps.getD i (0, 0) := by
  intro e
  have key : ∀ j, j + 1 < ps.length → (txF T ps.dropLast).getD (T.length + j) [] = (txF T ps.dropLast).getD (ps.getD j (0, 0)).1 [] ++ [(ps.getD j (0, 0)).2] := by
    intro j hj
    have hs : ps.dropLast = ps.take j ++ [ps.getD j (0, 0)] ++ (ps.dropLast).drop (j + 1) := by
      have h1 : ps.dropLast = ps.dropLast.take (j + 1) ++ ps.dropLast.drop (j + 1) := (List.take_append_drop _ _).symm
      have h2 : ps.dropLast.take (j + 1) = ps.take j ++ [ps.getD j (0, 0)] := by
        rw [List.dropLast_eq_take, List.take_take, Nat.min_eq_left (by omega), List.take_succ_eq_append_getElem (by omega)]
        simp [show j < ps.length by omega]
      rw [h2] at h1
      exact h1
    have pre : ∀ (qs : List (Nat × UInt8)) (S : List (List UInt8)), ∃ r, txF S qs = S ++ r := by
      intro qs
      induction qs with
      | nil => intro S; exact ⟨[], by simp [txF]⟩
      | cons q qs ih => intro S; obtain ⟨r, hr⟩ := ih (S ++ [S.getD q.1 [] ++ [q.2]]); exact ⟨[S.getD q.1 [] ++ [q.2]] ++ r, by rw [txF, hr, List.append_assoc]⟩
    have hl : (txF T (ps.take j)).length = T.length + j := by rw [txF_len, List.length_take]; omega
    have hbj := hb j (by omega)
    rw [hs, txF_app, txF_snoc]
    obtain ⟨r, hr⟩ := pre ((ps.dropLast).drop (j + 1)) (txF T (ps.take j) ++ [(txF T (ps.take j)).getD (ps.getD j (0, 0)).1 [] ++ [(ps.getD j (0, 0)).2]])
    rw [hr]
    generalize txF T (ps.take j) = S at hl
    have e1 : (S ++ [S.getD (ps.getD j (0, 0)).1 [] ++ [(ps.getD j (0, 0)).2]] ++ r).getD (T.length + j) [] = S.getD (ps.getD j (0, 0)).1 [] ++ [(ps.getD j (0, 0)).2] := by
      rw [List.append_assoc, List.getD_eq_getElem?_getD, List.getElem?_append_right (by omega), hl]
      simp
    have e2 : (S ++ [S.getD (ps.getD j (0, 0)).1 [] ++ [(ps.getD j (0, 0)).2]] ++ r).getD (ps.getD j (0, 0)).1 [] = S.getD (ps.getD j (0, 0)).1 [] := by
      rw [List.append_assoc, List.getD_eq_getElem?_getD, List.getElem?_append_left (by omega), ← List.getD_eq_getElem?_getD]
    rw [e1, e2]
  have h1 := key k (by omega)
  have h2 := key i hi
  rw [e, ← h2] at h1
  have hl : (txF T ps.dropLast).length = T.length + (ps.length - 1) := by rw [txF_len, List.length_dropLast]
  rw [List.getD_eq_getElem?_getD, List.getD_eq_getElem?_getD, List.getElem?_eq_getElem (show T.length + k < _ by omega), List.getElem?_eq_getElem (show T.length + i < _ by omega)] at h1
  have := (List.getElem_inj hn).1 (by simpa using h1)
  omega
/-- What goes on begins with the same pieces, but perhaps the last one. -/
theorem wr_more {T : List (List UInt8)} {s : List UInt8} {ps : List (Nat × UInt8)} (h : Wr T s ps) : ∀ {m : List UInt8} {qs : List (Nat × UInt8)}, Wr T (s ++ m) qs → Clo T → T.Nodup → ps.length ≤ qs.length ∧ ∀ i, i + 1 < ps.length → ps.getD i (0, 0) = qs.getD i (0, 0) := by
  induction h with
  | fin => intro m qs _ _ _; exact ⟨Nat.zero_le _, fun i hi => by simp at hi⟩
  | @step T s k ps h0 hb h ih =>
    intro m qs hq hc hn
    obtain ⟨k', qs, hb', hq2, rfl⟩ := wr_inv hq (fun e => h0 (List.append_eq_nil_iff.1 e).1)
    · by_cases hr : s.drop ((T.getD k []).length + 1) = []
      · obtain rfl := wr_nil h hr
        exact ⟨by simp, fun i hi => by simp at hi⟩
      · have hlen : (T.getD k []).length + 1 < s.length := by
          have := List.length_pos_iff.2 hr
          rw [List.length_drop] at this
          omega
        have hsm : s.dropLast <+: (s ++ m).dropLast := by
          rw [List.dropLast_eq_take, List.dropLast_eq_take, List.take_append_of_le_length (by omega) |>.symm]
          exact List.take_prefix_take_left (by rw [List.length_append]; omega)
        have hkk : T.getD k' [] = T.getD k [] := by
          have h1 := hb'.most k hb.lt (hb.pre.trans hsm)
          have hp1 : T.getD k' [] <+: s ++ m := hb'.pre.trans (List.dropLast_prefix _)
          have hp2 : T.getD k [] <+: s ++ m := (hb.pre.trans hsm).trans (List.dropLast_prefix _)
          have h2 : (T.getD k' []).length ≤ (T.getD k []).length := by
            refine Nat.le_of_not_lt fun hlt => ?_
            by_cases hs : (T.getD k' []).length ≤ s.length - 1
            · have := hb.most k' hb'.lt (List.prefix_of_prefix_length_le hp1 (hsm.trans (List.dropLast_prefix _)) (by rw [List.length_dropLast]; exact hs))
              omega
            · have hin : s.dropLast ∈ T := clo_pre hc (T.getD k' []).length _ (mem_getD hb'.lt) _ (List.prefix_of_prefix_length_le (hsm.trans (List.dropLast_prefix _)) hp1 (by rw [List.length_dropLast]; omega)) (by omega)
              obtain ⟨j, hj, e⟩ := List.getElem_of_mem hin
              have e2 : T.getD j [] = s.dropLast := by rw [List.getD_eq_getElem?_getD, List.getElem?_eq_getElem hj, Option.getD_some, e]
              have := hb.most j hj (by rw [e2]; exact List.prefix_refl _)
              rw [e2, List.length_dropLast] at this
              omega
          exact (List.prefix_of_prefix_length_le hp1 hp2 h2).eq_of_length (by omega)
        have hkk2 : k' = k := by
          rw [List.getD_eq_getElem?_getD, List.getD_eq_getElem?_getD, List.getElem?_eq_getElem hb'.lt, List.getElem?_eq_getElem hb.lt] at hkk
          exact (List.getElem_inj hn).1 (by simpa using hkk)
        subst hkk2
        have e1 : (s ++ m).take ((T.getD k' []).length + 1) = s.take ((T.getD k' []).length + 1) := List.take_append_of_le_length (by omega)
        have e2 : (s ++ m).drop ((T.getD k' []).length + 1) = s.drop ((T.getD k' []).length + 1) ++ m := List.drop_append_of_le_length (by omega)
        rw [e1, e2] at hq2
        have := ih hq2 (clo_more hc h0 hb) (nodup_more hn (best_new hb hr))
        refine ⟨by simpa using this.1, fun i hi => ?_⟩
        rcases i with _ | i
        · have e3 : s.getD (T.getD k' []).length 0 = (s ++ m).getD (T.getD k' []).length 0 := by
            rw [List.getD_eq_getElem?_getD (l := s), List.getD_eq_getElem?_getD (l := s ++ m), List.getElem?_append_left (by omega)]
          show (k', s.getD (T.getD k' []).length 0) = (k', (s ++ m).getD (T.getD k' []).length 0)
          rw [e3]
        · exact this.2 i (by simpa using hi)
end Go.Proofs.Ytkpjflfhegejpaa
