/-
  Plain mathematics, without a program: the text of any pieces, and what is wrong with them. No condition.
-/
import Derived.Test.YtkpjflfhegejpaaLz
namespace Go.Proofs.Ytkpjflfhegejpaa

/-- Pieces with numbers from zero on, as memory has them; and back. -/
def pcs (ps : List (Nat × UInt8)) : List (Int × UInt8) := ps.map fun p => ((p.1 : Int), p.2)
def nts (l : List (Int × UInt8)) : List (Nat × UInt8) := l.map fun p => (p.1.toNat, p.2)
theorem nts_pcs (ps : List (Nat × UInt8)) : nts (pcs ps) = ps := by
  unfold nts pcs
  rw [List.map_map]
  exact (List.map_congr_left fun p _ => by simp).trans (List.map_id ps)
theorem pcs_len (ps : List (Nat × UInt8)) : (pcs ps).length = ps.length := by simp [pcs]
theorem pcs_app (ps qs : List (Nat × UInt8)) : pcs (ps ++ qs) = pcs ps ++ pcs qs := by simp [pcs]
theorem pcs_getD (ps : List (Nat × UInt8)) (i : Nat) : (pcs ps).getD i (0, 0) = (((ps.getD i (0, 0)).1 : Int), (ps.getD i (0, 0)).2) := by
  unfold pcs
  rw [List.getD_eq_getElem?_getD, List.getElem?_map, List.getD_eq_getElem?_getD]
  cases ps[i]? <;> rfl
def bkP (l : List (Int × UInt8)) (i : Nat) : Int := (l.getD i (0, 0)).1
def sgP (l : List (Int × UInt8)) (i : Nat) : UInt8 := (l.getD i (0, 0)).2
/-- The texts of the first i pieces, nothing ahead of them. -/
def txP (l : List (Int × UInt8)) (i : Nat) : List (List UInt8) := txF [[]] (nts (l.take i))
/-- The text of piece i. -/
def neP (l : List (Int × UInt8)) (i : Nat) : List UInt8 := (txP l i).getD (bkP l i).toNat [] ++ [sgP l i]
def totP (l : List (Int × UInt8)) (i : Nat) : Nat := (txP l i).flatten.length
theorem txP_zero (l : List (Int × UInt8)) : txP l 0 = [[]] := rfl
theorem txP_succ {l : List (Int × UInt8)} {i : Nat} (h : i < l.length) : txP l (i + 1) = txP l i ++ [neP l i] := by
  unfold neP txP
  have e : l.take (i + 1) = l.take i ++ [l.getD i (0, 0)] := by
    rw [List.take_succ_eq_append_getElem h]
    simp [h]
  rw [e, nts, List.map_append]
  exact txF_snoc _ _ _
theorem txP_len {l : List (Int × UInt8)} {i : Nat} (h : i ≤ l.length) : (txP l i).length = i + 1 := by
  unfold txP nts
  rw [txF_len, List.length_map, List.length_take, List.length_singleton]
  omega
theorem totP_zero (l : List (Int × UInt8)) : totP l 0 = 0 := rfl
theorem totP_succ {l : List (Int × UInt8)} {i : Nat} (h : i < l.length) : totP l (i + 1) = totP l i + (neP l i).length := by
  unfold totP
  rw [txP_succ h, List.flatten_append, List.length_append]
  simp
theorem totP_mono {l : List (Int × UInt8)} {i j : Nat} (h : i ≤ j) (hj : j ≤ l.length) : totP l i ≤ totP l j := by
  induction j with
  | zero => obtain rfl : i = 0 := by omega
            exact Nat.le_refl _
  | succ j ih =>
    rcases Nat.lt_or_eq_of_le h with h | h
    · have := ih (by omega) (by omega)
      have := totP_succ (l := l) (i := j) (by omega)
      omega
    · rw [h]; exact Nat.le_refl _
theorem txP_some {l : List (Int × UInt8)} {i : Nat} {t : List UInt8} (h : t ∈ txP l i) : t.length ≤ totP l i := by
  unfold totP
  generalize txP l i = T at h
  induction T with
  | nil => cases h
  | cons x T ih =>
    rw [List.flatten_cons, List.length_append]
    rcases List.mem_cons.1 h with h | h
    · rw [h]; omega
    · have := ih h; omega
/-- The first i pieces are as they should be. -/
def OkP (l : List (Int × UInt8)) (i : Nat) : Prop := ∀ j, j < i → (0 ≤ bkP l j ∧ bkP l j ≤ j) ∧ totP l (j + 1) ≤ 1000
/-- What is wrong with piece i. -/
def BadP (l : List (Int × UInt8)) (i : Nat) (k : Int) : Prop := (k = 1 ∧ ¬ (0 ≤ bkP l i ∧ bkP l i ≤ i)) ∨ (k = 4 ∧ (0 ≤ bkP l i ∧ bkP l i ≤ i) ∧ 1000 < totP l (i + 1))
/-- What is wrong with the pieces. -/
def FailP (l : List (Int × UInt8)) (k : Int) : Prop := (1000 < l.length ∧ k = 4) ∨ (l.length ≤ 1000 ∧ ∃ i, i < l.length ∧ OkP l i ∧ BadP l i k)
/-- Nothing is. -/
def FineP (l : List (Int × UInt8)) : Prop := l.length ≤ 1000 ∧ OkP l l.length
theorem okP_zero (l : List (Int × UInt8)) : OkP l 0 := fun j hj => by omega
theorem okP_succ {l : List (Int × UInt8)} {i : Nat} (h : OkP l i) (h1 : 0 ≤ bkP l i ∧ bkP l i ≤ i) (h2 : totP l (i + 1) ≤ 1000) : OkP l (i + 1) := fun j hj => by
  by_cases e : j = i
  · subst e; exact ⟨h1, h2⟩
  · exact h j (by omega)
theorem okP_tot {l : List (Int × UInt8)} {i : Nat} (h : OkP l i) : totP l i ≤ 1000 := by
  rcases i with _ | i
  · rw [totP_zero]; omega
  · exact (h i (by omega)).2
theorem badP_no {l : List (Int × UInt8)} {i n : Nat} {k : Int} (h : BadP l i k) (hf : OkP l n) (hi : i < n) : False := by
  obtain ⟨h1, h2⟩ := hf i hi
  rcases h with ⟨_, h⟩ | ⟨_, _, h⟩
  · exact h h1
  · omega
theorem badP_one {l : List (Int × UInt8)} {i : Nat} {k k' : Int} (h : BadP l i k) (h' : BadP l i k') : k = k' := by
  rcases h with ⟨rfl, h⟩ | ⟨rfl, h, _⟩ <;> rcases h' with ⟨rfl, g⟩ | ⟨rfl, g, _⟩
  · rfl
  · exact absurd g h
  · exact absurd h g
  · rfl
theorem failP_no {l : List (Int × UInt8)} {k : Int} (h : FailP l k) (hf : FineP l) : False := by
  rcases h with ⟨h, _⟩ | ⟨_, i, hi, _, hb⟩
  · have := hf.1; omega
  · exact badP_no hb hf.2 hi
theorem failP_one {l : List (Int × UInt8)} {k k' : Int} (h : FailP l k) (h' : FailP l k') : k = k' := by
  rcases h with ⟨h1, rfl⟩ | ⟨h1, i, hi, ho, hb⟩ <;> rcases h' with ⟨g1, rfl⟩ | ⟨g1, j, hj, ho', hb'⟩
  · rfl
  · omega
  · omega
  · rcases Nat.lt_trichotomy i j with e | e | e
    · exact (badP_no hb ho' e).elim
    · subst e; exact badP_one hb hb'
    · exact (badP_no hb' ho e).elim
theorem pcs_or (l : List (Int × UInt8)) : FineP l ∨ ∃ k, FailP l k := by
  rcases Nat.lt_or_ge 1000 l.length with h | h
  · exact .inr ⟨4, .inl ⟨h, rfl⟩⟩
  · have key : ∀ n, n ≤ l.length → OkP l n ∨ ∃ k, FailP l k := by
      intro n
      induction n with
      | zero => exact fun _ => .inl (okP_zero l)
      | succ n ih =>
        intro hn
        rcases ih (by omega) with ho | hk
        · by_cases h1 : 0 ≤ bkP l n ∧ bkP l n ≤ n
          · by_cases h2 : totP l (n + 1) ≤ 1000
            · exact .inl (okP_succ ho h1 h2)
            · exact .inr ⟨4, .inr ⟨h, n, hn, ho, .inr ⟨rfl, h1, by omega⟩⟩⟩
          · exact .inr ⟨1, .inr ⟨h, n, hn, ho, .inl ⟨rfl, h1⟩⟩⟩
        · exact .inr hk
    rcases key _ (Nat.le_refl _) with ho | hk
    · exact .inl ⟨h, ho⟩
    · exact .inr hk
/-- The text of the pieces. -/
def whP (l : List (Int × UInt8)) : List UInt8 := (txP l l.length).flatten
/-- LEMPEL, ZIV: the pieces of a text are as they should be, and they are the text. -/
theorem wr_fine {s : List UInt8} {ps : List (Nat × UInt8)} (h : Wr [[]] s ps) (hs : s.length ≤ 1000) : FineP (pcs ps) ∧ whP (pcs ps) = s := by
  obtain ⟨h1, h2⟩ := wr_back h
  have e : txP (pcs ps) (pcs ps).length = txF [[]] ps := by
    unfold txP
    rw [List.take_length, nts_pcs]
  have hw : whP (pcs ps) = s := by
    unfold whP
    rw [e, h1]
    simp
  have hl := wr_len h
  refine ⟨⟨by rw [pcs_len]; omega, fun j hj => ?_⟩, hw⟩
  rw [pcs_len] at hj
  have h3 := h2 j hj
  refine ⟨?_, ?_⟩
  · unfold bkP
    rw [pcs_getD]
    rw [List.length_singleton] at h3
    exact ⟨Int.natCast_nonneg _, by show ((ps.getD j (0, 0)).1 : Int) ≤ j; omega⟩
  · refine Nat.le_trans (totP_mono (i := j + 1) (j := (pcs ps).length) (by rw [pcs_len]; omega) (Nat.le_refl _)) ?_
    show (whP (pcs ps)).length ≤ 1000
    rw [hw]; exact hs
/-- Of a text's pieces none but the last one may be another one. -/
theorem wr_apart {s : List UInt8} {ps : List (Nat × UInt8)} (h : Wr [[]] s ps) {i k : Nat} (hk : k < i) (hi : i + 1 < ps.length) : ¬ (((ps.getD k (0, 0)).1 : Int) = ((ps.getD i (0, 0)).1 : Int) ∧ (ps.getD k (0, 0)).2 = (ps.getD i (0, 0)).2) := fun ⟨e1, e2⟩ =>
  pieces_differ (wr_back h).2 (wr_fresh h (by simp)) hk hi (Prod.ext (by omega) e2)
theorem clo_nil : Clo [[]] := fun t ht => by rw [List.mem_singleton.1 ht]; simp
theorem wr_goes {s m : List UInt8} {ps qs : List (Nat × UInt8)} (h : Wr [[]] s ps) (h' : Wr [[]] (s ++ m) qs) : ps.length ≤ qs.length ∧ ∀ i, i + 1 < ps.length → ps.getD i (0, 0) = qs.getD i (0, 0) :=
  wr_more h h' clo_nil (by simp)
/-- A search under way: what is done, from where it goes on. -/
def WrTo (s : List UInt8) (r : List UInt8) (T : List (List UInt8)) (ps : List (Nat × UInt8)) : Prop := ∀ qs, Wr T r qs → Wr [[]] s (ps ++ qs)
theorem wrTo_start (s : List UInt8) : WrTo s s [[]] [] := fun _ h => h
theorem wrTo_step {s r : List UInt8} {T : List (List UInt8)} {ps : List (Nat × UInt8)} {k : Nat} (h : WrTo s r T ps) (h0 : r ≠ []) (hb : Bst T r.dropLast k) :
    WrTo s (r.drop ((T.getD k []).length + 1)) (T ++ [r.take ((T.getD k []).length + 1)]) (ps ++ [(k, r.getD (T.getD k []).length 0)]) := fun qs hq => by
  rw [List.append_assoc]
  exact h _ (.step h0 hb hq)
theorem wrTo_end {s : List UInt8} {T : List (List UInt8)} {ps : List (Nat × UInt8)} (h : WrTo s [] T ps) : Wr [[]] s ps := by
  have := h [] .fin
  rwa [List.append_nil] at this
end Go.Proofs.Ytkpjflfhegejpaa
