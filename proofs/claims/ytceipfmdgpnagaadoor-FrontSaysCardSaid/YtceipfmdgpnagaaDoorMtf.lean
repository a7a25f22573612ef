/-
  Plain mathematics of moving to the front, without a program: rows that have each sign once, the code of a text and the text of a code, that they are inverse, that what stood lately stands in front, and the code's places but 0 against the text's runs. No condition.
-/
import Derived.Test.YtceipfmdgpnagaaDoorRle
namespace Go.Proofs.YtceipfmdgpnagaaDoor

/-- All signs in their order. -/
def allB : List UInt8 := (List.range 256).map fun i => UInt8.ofNat i
theorem allB_len : allB.length = 256 := by simp [allB]
theorem allB_nodup : allB.Nodup := by decide +kernel
theorem allB_mem (c : UInt8) : c ∈ allB := List.mem_map.2 ⟨c.toNat, List.mem_range.2 c.toNat_lt, UInt8.ofNat_toNat⟩
theorem allB_at (i : Nat) (h : i < 256) : allB.getD i 0 = UInt8.ofNat i := by simp [allB, List.getD_eq_getElem?_getD, h]

/-- A row with a place put to its front. -/
def mtf (r : List UInt8) (k : Nat) : List UInt8 := r.getD k 0 :: (r.take k ++ r.drop (k + 1))
/-- A row that has each sign once. -/
def Full (r : List UInt8) : Prop := r.Perm allB
theorem Full.nodup {r : List UInt8} (h : Full r) : r.Nodup := (List.Perm.nodup_iff h).2 allB_nodup
theorem Full.mem {r : List UInt8} (h : Full r) (c : UInt8) : c ∈ r := (List.Perm.mem_iff h).2 (allB_mem c)
theorem Full.len {r : List UInt8} (h : Full r) : r.length = 256 := (List.Perm.length_eq h).trans allB_len
theorem full_all : Full allB := List.Perm.refl _
theorem row_split {r : List UInt8} {k : Nat} (h : k < r.length) : r = r.take k ++ r.getD k 0 :: r.drop (k + 1) := by
  have e : r.getD k 0 = r[k] := by simp [List.getD_eq_getElem?_getD, h]
  rw [e, List.getElem_cons_drop, List.take_append_drop]
theorem mtf_perm {r : List UInt8} {k : Nat} (h : k < r.length) : (mtf r k).Perm r := by
  have := (List.perm_middle (a := r.getD k 0) (l₁ := r.take k) (l₂ := r.drop (k + 1))).symm
  rw [← row_split h] at this
  exact this
theorem Full.mtf {r : List UInt8} {k : Nat} (h : Full r) (hk : k < 256) : Full (mtf r k) := (mtf_perm (by rw [h.len]; exact hk)).trans h
theorem Full.idx {r : List UInt8} (h : Full r) (c : UInt8) : r.idxOf c < 256 := by
  have := List.idxOf_lt_length_of_mem (h.mem c)
  rwa [h.len] at this
theorem Full.at_idx {r : List UInt8} (h : Full r) (c : UInt8) : r.getD (r.idxOf c) 0 = c := by
  have hl := List.idxOf_lt_length_of_mem (h.mem c)
  rw [List.getD_eq_getElem?_getD, List.getElem?_eq_getElem hl]
  simp
theorem Full.idx_at {r : List UInt8} (h : Full r) {k : Nat} (hk : k < 256) : r.idxOf (r.getD k 0) = k := by
  have hl : k < r.length := by rw [h.len]; exact hk
  have e : r.getD k 0 = r[k] := by simp [List.getD_eq_getElem?_getD, hl]
  rw [e]
  exact h.nodup.idxOf_getElem k hl

/-- The code of a text from a row on. -/
def codF : List UInt8 → List UInt8 → List Int
  | _, [] => []
  | r, c :: t => (r.idxOf c : Int) :: codF (mtf r (r.idxOf c)) t
/-- The row behind a text. -/
def rowT (r t : List UInt8) : List UInt8 := t.foldl (fun r c => mtf r (r.idxOf c)) r
/-- The text of a code from a row on. -/
def decF : List UInt8 → List Int → List UInt8
  | _, [] => []
  | r, k :: l => r.getD k.toNat 0 :: decF (mtf r k.toNat) l
/-- The row behind a code. -/
def rowI (r : List UInt8) (l : List Int) : List UInt8 := l.foldl (fun r k => mtf r k.toNat) r
/-- Each number is a place of a row. -/
def InB (l : List Int) : Prop := ∀ k ∈ l, 0 ≤ k ∧ k ≤ 255

theorem codF_len (r t : List UInt8) : (codF r t).length = t.length := by
  induction t generalizing r with
  | nil => rfl
  | cons c t ih => simp [codF, ih]
theorem decF_len (r : List UInt8) (l : List Int) : (decF r l).length = l.length := by
  induction l generalizing r with
  | nil => rfl
  | cons c t ih => simp [decF, ih]
theorem codF_take (r t : List UInt8) (i : Nat) : codF r (t.take i) = (codF r t).take i := by
  induction t generalizing r i with
  | nil => simp [codF]
  | cons c t ih => cases i <;> simp [codF, ih]
theorem decF_take (r : List UInt8) (l : List Int) (i : Nat) : decF r (l.take i) = (decF r l).take i := by
  induction l generalizing r i with
  | nil => simp [decF]
  | cons c t ih => cases i <;> simp [decF, ih]
theorem codF_at (r t : List UInt8) (i : Nat) (h : i < t.length) : (codF r t).getD i 0 = ((rowT r (t.take i)).idxOf (t.getD i 0) : Int) := by
  induction t generalizing r i with
  | nil => simp at h
  | cons c t ih =>
    cases i with
    | zero => rfl
    | succ i => exact ih _ i (by simpa using h)
theorem decF_at (r : List UInt8) (l : List Int) (i : Nat) (h : i < l.length) : (decF r l).getD i 0 = (rowI r (l.take i)).getD (l.getD i 0).toNat 0 := by
  induction l generalizing r i with
  | nil => simp at h
  | cons c t ih =>
    cases i with
    | zero => rfl
    | succ i => exact ih _ i (by simpa using h)
theorem take_snoc {α : Type} {d : α} (t : List α) (i : Nat) (h : i < t.length) : t.take (i + 1) = t.take i ++ [t.getD i d] := by
  rw [List.take_succ_eq_append_getElem h]
  simp [List.getD_eq_getElem?_getD, h]
theorem rowT_snoc (r t : List UInt8) (c : UInt8) : rowT r (t ++ [c]) = mtf (rowT r t) ((rowT r t).idxOf c) := by simp [rowT]
theorem rowI_snoc (r : List UInt8) (l : List Int) (k : Int) : rowI r (l ++ [k]) = mtf (rowI r l) k.toNat := by simp [rowI]
theorem rowT_full {r : List UInt8} (h : Full r) (t : List UInt8) : Full (rowT r t) := by
  induction t generalizing r with
  | nil => exact h
  | cons c t ih => exact ih (h.mtf (h.idx c))
theorem rowI_full {r : List UInt8} (h : Full r) {l : List Int} (hl : InB l) : Full (rowI r l) := by
  induction l generalizing r with
  | nil => exact h
  | cons k l ih => exact ih (h.mtf (by have := hl k (by simp); omega)) fun x hx => hl x (by simp [hx])
theorem codF_in {r : List UInt8} (h : Full r) (t : List UInt8) : InB (codF r t) := by
  induction t generalizing r with
  | nil => intro k hk; simp [codF] at hk
  | cons c t ih =>
    intro k hk
    rcases List.mem_cons.1 hk with e | e
    · have := h.idx c; omega
    · exact ih (h.mtf (h.idx c)) k e
/-- There and back. -/
theorem dec_cod {r : List UInt8} (h : Full r) (t : List UInt8) : decF r (codF r t) = t := by
  induction t generalizing r with
  | nil => rfl
  | cons c t ih =>
    simp only [codF, decF, Int.toNat_natCast]
    rw [h.at_idx, ih (h.mtf (h.idx c))]
/-- Back and there. -/
theorem cod_dec {r : List UInt8} (h : Full r) {l : List Int} (hl : InB l) : codF r (decF r l) = l := by
  induction l generalizing r with
  | nil => rfl
  | cons k l ih =>
    have hk := hl k (by simp)
    have hk2 : k.toNat < 256 := by omega
    simp only [codF, decF]
    rw [h.idx_at hk2, ih (h.mtf hk2) fun x hx => hl x (by simp [hx])]
    rw [show ((k.toNat : Nat) : Int) = k by omega]

/-! ### What stood lately is near -/
theorem mtf_idx {r : List UInt8} (h : Full r) (c : UInt8) : mtf r (r.idxOf c) = c :: r.filter (fun x => x != c) := by
  unfold mtf
  rw [h.at_idx, ← h.nodup.erase_eq_filter, List.erase_eq_eraseIdx_of_idxOf rfl, List.eraseIdx_eq_take_drop_succ]
/-- The row behind t begins with O, behind which the row behind u goes on without what is in O. -/
def Near (t u O : List UInt8) : Prop := rowT allB t = O ++ (rowT allB u).filter fun x => !O.contains x
theorem near_start (t : List UInt8) : Near t t [] := by
  unfold Near
  rw [List.nil_append]
  exact (List.filter_eq_self.2 (fun _ _ => rfl)).symm
theorem rowT_last (u : List UInt8) (c : UInt8) : rowT allB (u ++ [c]) = c :: (rowT allB u).filter (fun x => x != c) := by
  rw [rowT_snoc, mtf_idx (rowT_full full_all u)]
theorem near_seen {t u O : List UInt8} {c : UInt8} (h : Near t (u ++ [c]) O) (hc : c ∈ O) : Near t u O := by
  unfold Near at *
  rw [h, rowT_last, List.filter_cons_of_neg (by simpa using hc), List.filter_filter]
  congr 1
  apply List.filter_congr
  intro x _
  by_cases e : x = c
  · subst e; simp [hc]
  · simp [e]
theorem near_new {t u O : List UInt8} {c : UInt8} (h : Near t (u ++ [c]) O) (hc : c ∉ O) : Near t u (O ++ [c]) := by
  unfold Near at *
  rw [h, rowT_last, List.filter_cons_of_pos (by simpa using hc), List.filter_filter, List.append_assoc, List.singleton_append]
  congr 2
  apply List.filter_congr
  intro x _
  by_cases e : x = c
  · subst e; simp
  · simp [e]
theorem near_hit {t u O : List UInt8} {c : UInt8} (h : Near t (u ++ [c]) O) (hc : c ∉ O) : (rowT allB t).idxOf c = O.length := by
  unfold Near at h
  rw [h, rowT_last, List.filter_cons_of_pos (by simpa using hc), List.idxOf_append, if_neg hc]
  simp
theorem near_end {t u O : List UInt8} {c : UInt8} (h : Near t u O) (hc : c ∉ O) : O.length ≤ (rowT allB t).idxOf c := by
  unfold Near at h
  rw [h, List.idxOf_append, if_neg hc]
  omega

/-! ### Places but 0, and runs -/
/-- How often the sign changes. -/
def chg : Option UInt8 → List UInt8 → Nat
  | _, [] => 0
  | p, c :: t => (if p = some c then 0 else 1) + chg (some c) t
theorem cod_chg {d : UInt8} {r : List UInt8} (h : Full (d :: r)) (t : List UInt8) : (codF (d :: r) t).countP (fun k => k != 0) = chg (some d) t := by
  induction t generalizing d r with
  | nil => rfl
  | cons c t ih =>
    have hm := h.mtf (h.idx c)
    simp only [codF, chg]
    rw [List.countP_cons, mtf_idx h c]
    rw [mtf_idx h c] at hm
    rw [ih hm]
    by_cases e : d = c
    · subst e; simp
    · have e2 : (d == c) = false := by simpa using e
      have e3 : (((r.idxOf c + 1 : Nat) : Int) != 0) = true := by simp; omega
      rw [List.idxOf_cons, e2, cond_false, e3, if_pos rfl, if_neg (by simpa using e)]
      omega
theorem chg_rep (p : Option UInt8) (c : UInt8) (n : Nat) (t : List UInt8) : chg p (List.replicate (n + 1) c ++ t) = (if p = some c then 0 else 1) + chg (some c) t := by
  induction n generalizing p with
  | zero => rfl
  | succ n ih =>
    rw [List.replicate_succ, List.cons_append, chg, ih]
    simp
theorem chg_good {l : List (UInt8 × Int)} (h : Good l) (p : Option UInt8) (hp : ∀ q, l.head? = some q → p ≠ some q.1) : chg p (unr l) = l.length := by
  induction l generalizing p with
  | nil => rfl
  | cons r l ih =>
    obtain ⟨n, hn⟩ : ∃ n, r.2.toNat = n + 1 := ⟨r.2.toNat - 1, by have := h.1; omega⟩
    rw [unr_cons, hn, chg_rep, if_neg (hp r rfl), ih h.2.2 _ fun q hq e => h.2.1 q hq (by simpa using e), List.length_cons]
    omega
theorem chg_near (d : UInt8) (t : List UInt8) : chg (some d) t ≤ chg none t ∧ chg none t ≤ chg (some d) t + 1 := by
  cases t with
  | nil => simp [chg]
  | cons c t =>
    simp only [chg]
    by_cases e : d = c <;> simp [e] <;> omega
/-- As many places but 0 as runs, or one less. -/
theorem moved_runs {l : List (UInt8 × Int)} (h : Good l) : (codF allB (unr l)).countP (fun k => k != 0) ≤ l.length ∧ l.length ≤ (codF allB (unr l)).countP (fun k => k != 0) + 1 := by
  have e : allB = 0 :: (allB.drop 1) := by decide +kernel
  have hf := full_all
  rw [e] at hf
  rw [e, cod_chg hf, ← chg_good h none fun q _ => by simp]
  exact ⟨(chg_near 0 _).1, (chg_near 0 _).2⟩
end Go.Proofs.YtceipfmdgpnagaaDoor
