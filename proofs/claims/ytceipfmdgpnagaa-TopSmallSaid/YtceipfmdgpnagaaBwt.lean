/-
  Plain mathematics of the Burrows-Wheeler transform, without a program: the rotations of a list in their order (wheelM), their last signs (wheelT), the place of the list (wheelN); a stable order of the places of a list (Stb), and the walk along it (wlk): the walk through a transform gives the rotations; sorting again and again gives the walk. No condition.
-/
import Derived.WalkKit
namespace Go.Proofs.Ytceipfmdgpnagaa

theorem getD_at {α : Type} (d : α) {l : List α} {i : Nat} (h : i < l.length) : l.getD i d = l[i] := by simp [List.getD_eq_getElem?_getD, h]
/-- A row of lists that does not fall. -/
def Asc (L : List (List UInt8)) : Prop := L.Pairwise (· ≤ ·)
theorem asc_one {A B : List (List UInt8)} (ha : Asc A) (hb : Asc B) (hp : A.Perm B) : A = B :=
  List.Perm.eq_of_pairwise (le := fun a b : List UInt8 => a ≤ b) (fun _ _ _ _ h1 h2 => List.le_antisymm h1 h2) ha hb hp
theorem asc_at {L : List (List UInt8)} (h : Asc L) {i j : Nat} (hij : i ≤ j) (hj : j < L.length) : L.getD i [] ≤ L.getD j [] := by
  rcases Nat.lt_or_eq_of_le hij with h1 | rfl
  · have := List.pairwise_iff_getElem.1 h i j (by omega) hj h1
    rw [getD_at _ (show i < L.length by omega), getD_at _ hj]; exact this
  · exact List.le_refl _
theorem sort_asc (L : List (List UInt8)) : Asc (L.mergeSort fun x y => decide (x ≤ y)) := by
  have := List.pairwise_mergeSort (le := fun x y : List UInt8 => decide (x ≤ y)) (fun a b c h1 h2 => by simp only [decide_eq_true_eq] at *; exact List.le_trans h1 h2) (fun a b => by simp only [Bool.or_eq_true, decide_eq_true_eq]; exact List.le_total a b) L
  exact this.imp fun h => by simpa using h
theorem sort_perm (L : List (List UInt8)) : (L.mergeSort fun x y => decide (x ≤ y)).Perm L := List.mergeSort_perm _ _
theorem sort_one {L A : List (List UInt8)} (ha : Asc A) (hp : A.Perm L) : L.mergeSort (fun x y => decide (x ≤ y)) = A :=
  asc_one (sort_asc L) ha ((sort_perm L).trans hp.symm)

/-- The rotation of a list at place i. -/
def spin (l : List UInt8) (i : Nat) : List UInt8 := l.drop i ++ l.take i
def spins (l : List UInt8) : List (List UInt8) := (List.range l.length).map (spin l)
/-- All rotations in their order. -/
def wheelM (l : List UInt8) : List (List UInt8) := (spins l).mergeSort fun x y => decide (x ≤ y)
/-- The last signs of all rotations in their order: the transform. -/
def wheelT (l : List UInt8) : List UInt8 := (wheelM l).map fun r => r.getLastD 0
/-- How many rotations are less: the place of the list among them. -/
def wheelN (l : List UInt8) : Nat := (wheelM l).countP fun r => decide (r < l)
theorem spin_len (l : List UInt8) (i : Nat) : (spin l i).length = l.length := by simp [spin]; omega
theorem spins_len (l : List UInt8) : (spins l).length = l.length := by simp [spins]
theorem wheelM_len (l : List UInt8) : (wheelM l).length = l.length := by unfold wheelM; rw [List.length_mergeSort, spins_len]
theorem wheelT_len (l : List UInt8) : (wheelT l).length = l.length := by simp [wheelT, wheelM_len]
theorem wheelM_asc (l : List UInt8) : Asc (wheelM l) := sort_asc _
theorem wheelM_perm (l : List UInt8) : (wheelM l).Perm (spins l) := sort_perm _
theorem mem_spins {l r : List UInt8} : r ∈ spins l ↔ ∃ i, i < l.length ∧ r = spin l i := by
  simp only [spins, List.mem_map, List.mem_range]
  constructor
  · rintro ⟨i, h, rfl⟩; exact ⟨i, h, rfl⟩
  · rintro ⟨i, h, rfl⟩; exact ⟨i, h, rfl⟩
theorem mem_wheelM {l r : List UInt8} : r ∈ wheelM l ↔ ∃ i, i < l.length ∧ r = spin l i := by rw [(wheelM_perm l).mem_iff, mem_spins]
theorem wheelM_mem {l : List UInt8} {k : Nat} (h : k < l.length) : (wheelM l).getD k [] ∈ wheelM l := by
  rw [getD_at _ (by rw [wheelM_len]; exact h)]; exact List.getElem_mem _
theorem wheelM_row {l : List UInt8} {k : Nat} (h : k < l.length) : ∃ i, i < l.length ∧ (wheelM l).getD k [] = spin l i := mem_wheelM.1 (wheelM_mem h)
theorem wheelM_rowlen {l : List UInt8} {k : Nat} (h : k < l.length) : ((wheelM l).getD k []).length = l.length := by
  obtain ⟨i, _, e⟩ := wheelM_row h
  rw [e, spin_len]
theorem spin_zero (l : List UInt8) : spin l 0 = l := by simp [spin]
/-- A sign of a rotation. -/
theorem spin_get {l : List UInt8} {i k : Nat} (hi : i ≤ l.length) (hk : k < l.length) : (spin l i).getD k 0 = l.getD (if i + k < l.length then i + k else i + k - l.length) 0 := by
  unfold spin
  simp only [List.getD_eq_getElem?_getD]
  by_cases h : i + k < l.length
  · rw [if_pos h, List.getElem?_append_left (by simp; omega), List.getElem?_drop]
  · rw [if_neg h, List.getElem?_append_right (by simp; omega), List.getElem?_take, if_pos (by simp; omega)]
    congr 2
    simp; omega
theorem getD_ext {a b : List UInt8} (h : a.length = b.length) (he : ∀ k, k < a.length → a.getD k 0 = b.getD k 0) : a = b := by
  apply List.ext_getElem h
  intro i h1 h2
  have := he i h1
  rwa [getD_at _ h1, getD_at _ h2] at this
/-- A rotation's rotation. -/
theorem spin_spin {l : List UInt8} {i j : Nat} (hi : i ≤ l.length) (hj : j ≤ l.length) : spin (spin l i) j = spin l (if i + j < l.length then i + j else i + j - l.length) := by
  have hl := spin_len l i
  apply getD_ext (by simp only [spin_len])
  intro k hk
  rw [spin_len, spin_len] at hk
  rw [spin_get (by omega) (by omega), hl]
  have hm : (if j + k < l.length then j + k else j + k - l.length) < l.length := by split <;> omega
  rw [spin_get hi hm, spin_get (by split <;> omega) hk]
  congr 1
  repeat' split
  all_goals omega
theorem range_split (n i : Nat) (h : i ≤ n) : ((List.range n).map fun j => if i + j < n then i + j else i + j - n).Perm (List.range n) := by
  have e : (List.range n).map (fun j => if i + j < n then i + j else i + j - n) = (List.range n).drop i ++ (List.range n).take i := by
    apply List.ext_getElem
    · simp; omega
    · intro k h1 h2
      simp only [List.length_map, List.length_range] at h1
      simp only [List.getElem_map, List.getElem_range]
      by_cases hk : i + k < n
      · rw [if_pos hk, List.getElem_append_left (by simp; omega)]; simp
      · rw [if_neg hk, List.getElem_append_right (by simp; omega)]; simp; omega
  rw [e]
  exact List.perm_append_comm.trans (List.Perm.of_eq (List.take_append_drop i _))
theorem spins_spin {l : List UInt8} {i : Nat} (hi : i ≤ l.length) : (spins (spin l i)).Perm (spins l) := by
  unfold spins
  rw [spin_len]
  have e : (List.range l.length).map (spin (spin l i)) = ((List.range l.length).map fun j => if i + j < l.length then i + j else i + j - l.length).map (spin l) := by
    rw [List.map_map]
    refine List.map_congr_left fun j hj => ?_
    have := List.mem_range.1 hj
    exact spin_spin hi (by omega)
  rw [e]
  exact (range_split _ _ hi).map _
/-- Rotations have one order, and one transform. -/
theorem wheelM_spin {l : List UInt8} {i : Nat} (hi : i ≤ l.length) : wheelM (spin l i) = wheelM l :=
  asc_one (wheelM_asc _) (wheelM_asc _) ((wheelM_perm _).trans ((spins_spin hi).trans (wheelM_perm _).symm))
theorem wheelT_spin {l : List UInt8} {i : Nat} (hi : i ≤ l.length) : wheelT (spin l i) = wheelT l := by unfold wheelT; rw [wheelM_spin hi]

/-- o: the places of t in the order of their signs, of equal signs the first one first. -/
def Stb (t : List UInt8) (o : List Nat) : Prop := o.Perm (List.range t.length) ∧ o.Pairwise fun a b => t.getD a 0 < t.getD b 0 ∨ (t.getD a 0 = t.getD b 0 ∧ a < b)
theorem Stb.len {t : List UInt8} {o : List Nat} (h : Stb t o) : o.length = t.length := by have := h.1.length_eq; simpa using this
theorem Stb.lt {t : List UInt8} {o : List Nat} (h : Stb t o) {r : Nat} (hr : r < t.length) : o.getD r 0 < t.length := by
  have := h.len
  have hm : o.getD r 0 ∈ o := by rw [getD_at _ (by omega)]; exact List.getElem_mem _
  exact List.mem_range.1 (h.1.mem_iff.1 hm)
theorem cons_le_cons {a b : UInt8} {x y : List UInt8} (h : a < b ∨ (a = b ∧ x ≤ y)) : (a :: x) ≤ (b :: y) := by
  rw [List.le_iff_lt_or_eq]
  rcases h with h | ⟨rfl, h⟩
  · exact .inl (List.cons_lt_cons_iff.2 (.inl h))
  · rcases List.le_iff_lt_or_eq.1 h with h | h
    · exact .inl (List.cons_lt_cons_iff.2 (.inr ⟨rfl, h⟩))
    · exact .inr (by rw [h])
/-- A sign put ahead of each row of a row that does not fall: the stable order of the signs is the order of what comes out. -/
theorem stb_asc {t : List UInt8} {o : List Nat} (h : Stb t o) {R : List (List UInt8)} (hR : Asc R) (hl : R.length = t.length) : Asc (o.map fun i => t.getD i 0 :: R.getD i []) := by
  unfold Asc
  rw [List.pairwise_map]
  have hm : ∀ a ∈ o, a < t.length := fun a ha => List.mem_range.1 (h.1.mem_iff.1 ha)
  refine (List.Pairwise.and_mem.1 h.2).imp ?_
  rintro a b ⟨_, hb, hab⟩
  refine cons_le_cons ?_
  rcases hab with h1 | ⟨h1, h2⟩
  · exact .inl h1
  · exact .inr ⟨h1, asc_at hR (by omega) (by have := hm b hb; omega)⟩
theorem stb_perm {t : List UInt8} {o : List Nat} (h : Stb t o) (R : List (List UInt8)) : (o.map fun i => t.getD i 0 :: R.getD i []).Perm ((List.range t.length).map fun i => t.getD i 0 :: R.getD i []) := h.1.map _

/-- The walk along the order, m steps from place r on. -/
def wlk (t : List UInt8) (o : List Nat) : Nat → Nat → List UInt8
  | 0, _ => []
  | m + 1, r => t.getD (o.getD r 0) 0 :: wlk t o m (o.getD r 0)
theorem wlk_len (t : List UInt8) (o : List Nat) : ∀ m r, (wlk t o m r).length = m := by
  intro m
  induction m with
  | zero => intro r; rfl
  | succ m ih => intro r; simp [wlk, ih]
/-- Where the walk stands behind m steps. -/
def stp (o : List Nat) : Nat → Nat → Nat
  | 0, r => r
  | m + 1, r => o.getD (stp o m r) 0
theorem stp_in (o : List Nat) : ∀ m r, stp o m (o.getD r 0) = stp o (m + 1) r := by
  intro m
  induction m with
  | zero => intro r; rfl
  | succ m ih => intro r; show o.getD (stp o m (o.getD r 0)) 0 = o.getD (stp o (m + 1) r) 0; rw [ih]
theorem wlk_snoc (t : List UInt8) (o : List Nat) : ∀ m r, wlk t o (m + 1) r = wlk t o m r ++ [t.getD (stp o (m + 1) r) 0] := by
  intro m
  induction m with
  | zero => intro r; rfl
  | succ m ih =>
    intro r
    show t.getD (o.getD r 0) 0 :: wlk t o (m + 1) (o.getD r 0) = t.getD (o.getD r 0) 0 :: wlk t o m (o.getD r 0) ++ _
    rw [ih, stp_in]; rfl
theorem stp_lt {t : List UInt8} {o : List Nat} (h : Stb t o) {r : Nat} (hr : r < t.length) : ∀ m, stp o m r < t.length := by
  intro m
  induction m with
  | zero => exact hr
  | succ m ih => exact h.lt ih
/-- The rows of all walks of m steps: what putting the signs ahead of all rows and sorting them, m times, gives. -/
def wrows (t : List UInt8) (o : List Nat) (m : Nat) : List (List UInt8) := (List.range t.length).map (wlk t o m)
theorem wrows_len (t : List UInt8) (o : List Nat) (m : Nat) : (wrows t o m).length = t.length := by simp [wrows]
theorem wrows_at (t : List UInt8) (o : List Nat) (m : Nat) {i : Nat} (hi : i < t.length) : (wrows t o m).getD i [] = wlk t o m i := by
  rw [getD_at _ (by rw [wrows_len]; exact hi)]; simp [wrows]
theorem wrows_next {t : List UInt8} {o : List Nat} (h : Stb t o) (m : Nat) : wrows t o (m + 1) = o.map fun i => t.getD i 0 :: (wrows t o m).getD i [] := by
  apply List.ext_getElem
  · rw [wrows_len, List.length_map, h.len]
  · intro r h1 h2
    rw [wrows_len] at h1
    have hr : r < o.length := by rw [h.len]; exact h1
    have e : o.getD r 0 = o[r] := getD_at _ hr
    have hlt := h.lt h1
    rw [e] at hlt
    simp only [List.getElem_map]
    rw [wrows_at t o m hlt]
    simp only [wrows, List.getElem_map, List.getElem_range, wlk]
    rw [e]
theorem wrows_asc {t : List UInt8} {o : List Nat} (h : Stb t o) (m : Nat) : Asc (wrows t o m) := by
  induction m with
  | zero =>
    unfold Asc wrows
    rw [List.pairwise_map]
    exact List.pairwise_of_forall fun _ _ => List.le_refl _
  | succ m ih => rw [wrows_next h]; exact stb_asc h ih (wrows_len _ _ _)
/-- The next rows, sorted. -/
theorem wrows_sort {t : List UInt8} {o : List Nat} (h : Stb t o) (m : Nat) {N : List (List UInt8)} (hN : Asc N) (hp : N.Perm ((List.range t.length).map fun i => t.getD i 0 :: (wrows t o m).getD i [])) : N = wrows t o (m + 1) := by
  refine asc_one hN (wrows_asc h _) (hp.trans ?_)
  rw [wrows_next h]
  exact (stb_perm h _).symm

/-! ### The way back -/
theorem dropLast_le {x y : List UInt8} (hl : x.length = y.length) (h : x ≤ y) : x.dropLast ≤ y.dropLast := by
  induction x generalizing y with
  | nil => cases y with
    | nil => exact List.le_refl _
    | cons b y => simp at hl
  | cons a x ih => cases y with
    | nil => simp at hl
    | cons b y =>
      cases x with
      | nil => cases y with
        | nil => exact List.le_refl _
        | cons c y => simp at hl
      | cons a' x => cases y with
        | nil => simp at hl
        | cons b' y =>
          rw [show (a :: a' :: x).dropLast = a :: (a' :: x).dropLast from rfl, show (b :: b' :: y).dropLast = b :: (b' :: y).dropLast from rfl]
          refine cons_le_cons ?_
          rcases List.le_iff_lt_or_eq.1 h with h | h
          · rcases List.cons_lt_cons_iff.1 h with h | ⟨rfl, h7⟩
            · exact .inl h
            · exact .inr ⟨rfl, ih (by simpa using hl) (List.le_iff_lt_or_eq.2 (.inl ‹a' :: x < b' :: y›))⟩
          · injection h with h1 h2
            exact .inr ⟨h1, ih (by simpa using hl) (by rw [h2]; exact List.le_refl _)⟩
/-- The last sign put ahead: the rotation one place earlier. -/
theorem spin_back {l : List UInt8} {i : Nat} (hi : i < l.length) : (spin l i).getLastD 0 :: (spin l i).dropLast = spin l (if i = 0 then l.length - 1 else i - 1) := by
  have hl := spin_len l i
  have hne : spin l i ≠ [] := fun e => by rw [e] at hl; simp at hl; omega
  apply getD_ext
  · simp [spin_len]; omega
  intro k hk
  simp only [List.length_cons, List.length_dropLast, spin_len] at hk
  rw [spin_get (by split <;> omega) (by omega)]
  cases k with
  | zero =>
    rw [List.getD_cons_zero, show (spin l i).getLastD 0 = (spin l i).getD (l.length - 1) 0 by
      rw [List.getLastD_eq_getLast?, List.getLast?_eq_getElem?, hl]; rfl, spin_get (by omega) (by omega)]
    congr 1
    repeat' split
    all_goals omega
  | succ k =>
    rw [List.getD_cons_succ]
    have : (spin l i).dropLast.getD k 0 = (spin l i).getD k 0 := by
      rw [List.dropLast_eq_take]
      simp only [List.getD_eq_getElem?_getD]
      rw [List.getElem?_take, if_pos (by omega)]
    rw [this, spin_get (by omega) (by omega)]
    congr 1
    repeat' split
    all_goals omega
theorem range_back (n : Nat) : ((List.range n).map fun i => if i = 0 then n - 1 else i - 1).Perm (List.range n) := by
  cases n with
  | zero => exact List.Perm.refl _
  | succ n =>
    rw [List.range_succ_eq_map, List.map_cons, List.map_map]
    have : (List.range n).map ((fun i => if i = 0 then n + 1 - 1 else i - 1) ∘ Nat.succ) = List.range n := by
      rw [show ((fun i => if i = 0 then n + 1 - 1 else i - 1) ∘ Nat.succ) = id from funext fun i => by simp]
      simp
    rw [this]
    simp only [if_true, Nat.add_sub_cancel]
    rw [← List.range_succ_eq_map, List.range_succ]
    exact (List.perm_append_comm (l₁ := [n])).trans (List.Perm.refl _)
theorem spins_back (l : List UInt8) : ((spins l).map fun r => r.getLastD 0 :: r.dropLast).Perm (spins l) := by
  have e : (spins l).map (fun r => r.getLastD 0 :: r.dropLast) = ((List.range l.length).map fun i => if i = 0 then l.length - 1 else i - 1).map (spin l) := by
    unfold spins
    rw [List.map_map, List.map_map]
    exact List.map_congr_left fun i hi => spin_back (List.mem_range.1 hi)
  rw [e]
  exact (range_back _).map _
/-- A row of the order is the sign ahead of a row without its last sign. -/
theorem wheel_step {l : List UInt8} {o : List Nat} (h : Stb (wheelT l) o) : wheelM l = o.map fun i => (wheelT l).getD i 0 :: ((wheelM l).map List.dropLast).getD i [] := by
  have hl := wheelT_len l
  have hR : Asc ((wheelM l).map List.dropLast) := by
    unfold Asc
    rw [List.pairwise_map]
    refine (List.Pairwise.and_mem.1 (wheelM_asc l)).imp ?_
    rintro a b ⟨ha, hb, hab⟩
    obtain ⟨i, _, rfl⟩ := mem_wheelM.1 ha
    obtain ⟨j, _, rfl⟩ := mem_wheelM.1 hb
    exact dropLast_le (by rw [spin_len, spin_len]) hab
  refine asc_one (wheelM_asc l) (stb_asc h hR (by rw [List.length_map, wheelM_len, hl])) ?_
  refine (wheelM_perm l).trans (((spins_back l).symm.trans ((wheelM_perm l).symm.map _)).trans ?_)
  refine List.Perm.trans (List.Perm.of_eq ?_) (stb_perm h _).symm
  apply List.ext_getElem
  · simp [hl, wheelM_len]
  · intro i h1 h2
    rw [List.length_map, wheelM_len] at h1
    simp only [List.getElem_map, List.getElem_range]
    rw [getD_at _ (by rw [hl]; exact h1), getD_at _ (by rw [List.length_map, wheelM_len]; exact h1)]
    simp [wheelT]
theorem wheel_take {l : List UInt8} {o : List Nat} (h : Stb (wheelT l) o) (m : Nat) (hm : m ≤ l.length) : ∀ r, r < l.length → ((wheelM l).getD r []).take m = wlk (wheelT l) o m r := by
  have hl := wheelT_len l
  induction m with
  | zero => intro r _; simp [wlk]
  | succ m ih =>
    intro r hr
    have hor := h.lt (r := r) (by omega)
    rw [hl] at hor
    have e : (wheelM l).getD r [] = (wheelT l).getD (o.getD r 0) 0 :: ((wheelM l).getD (o.getD r 0) []).dropLast := by
      have h1 : r < o.length := by rw [h.len, hl]; exact hr
      have h2 : o.getD r 0 = o[r] := getD_at _ h1
      have h3 : (wheelM l).getD r [] = (o.map fun i => (wheelT l).getD i 0 :: ((wheelM l).map List.dropLast).getD i []).getD r [] := by rw [← wheel_step h]
      rw [h3, getD_at _ (by rw [List.length_map]; exact h1), List.getElem_map, h2]
      rw [h2] at hor
      congr 1
      have h4 : o[r] < ((wheelM l).map List.dropLast).length := by simpa [wheelM_len] using hor
      have h5 : o[r] < (wheelM l).length := by simpa [wheelM_len] using hor
      rw [getD_at _ h4, List.getElem_map, getD_at _ h5]
    rw [e, List.take_succ_cons]
    show _ = (wheelT l).getD (o.getD r 0) 0 :: wlk (wheelT l) o m (o.getD r 0)
    rw [← ih (by omega) _ hor]
    congr 1
    rw [List.dropLast_eq_take, List.take_take, wheelM_rowlen hor]
    congr 1
    omega
/-- The walk through a transform gives the rotation that stands there. -/
theorem wheel_back {l : List UInt8} {o : List Nat} (h : Stb (wheelT l) o) {r : Nat} (hr : r < l.length) : wlk (wheelT l) o l.length r = (wheelM l).getD r [] := by
  rw [← wheel_take h l.length (Nat.le_refl _) r hr, List.take_of_length_le (by rw [wheelM_rowlen hr]; exact Nat.le_refl _)]

/-! ### The place -/
/-- In a row that does not fall, x stands first at the place that counts what is less. -/
theorem count_first {x : List UInt8} : ∀ {L : List (List UInt8)}, Asc L → (∀ i, i < L.countP (fun r => decide (r < x)) → L.getD i [] < x) ∧ (∀ i, L.countP (fun r => decide (r < x)) ≤ i → i < L.length → ¬ L.getD i [] < x) := by
  intro L
  induction L with
  | nil => intro _; exact ⟨fun i hi => by simp at hi, fun i _ hi => by simp at hi⟩
  | cons a L ih =>
    intro hA
    have hA' := List.pairwise_cons.1 hA
    obtain ⟨h1, h2⟩ := ih hA'.2
    by_cases ha : a < x
    · rw [List.countP_cons_of_pos (by simpa using ha)]
      refine ⟨fun i hi => ?_, fun i hi hl => ?_⟩
      · cases i with
        | zero => exact ha
        | succ i => exact h1 i (by omega)
      · cases i with
        | zero => omega
        | succ i => exact h2 i (by omega) (by simpa using hl)
    · have all : ∀ b ∈ L, ¬ b < x := fun b hb h => ha (by
        rcases List.le_iff_lt_or_eq.1 (hA'.1 b hb) with h' | h'
        · exact List.lt_trans h' h
        · rw [h']; exact h)
      have hz : L.countP (fun r => decide (r < x)) = 0 := List.countP_eq_zero.2 fun b hb => by simpa using all b hb
      rw [List.countP_cons_of_neg (by simpa using ha), hz]
      refine ⟨fun i hi => by omega, fun i _ hl => ?_⟩
      cases i with
      | zero => exact ha
      | succ i =>
        have : i < L.length := by simpa using hl
        rw [List.getD_cons_succ, getD_at _ this]
        exact all _ (List.getElem_mem _)
theorem count_here {x : List UInt8} {L : List (List UInt8)} (hA : Asc L) (hx : x ∈ L) : L.countP (fun r => decide (r < x)) < L.length ∧ L.getD (L.countP fun r => decide (r < x)) [] = x := by
  obtain ⟨h1, h2⟩ := count_first (x := x) hA
  obtain ⟨k, hk, rfl⟩ := List.getElem_of_mem hx
  have hkc : L.countP (fun r => decide (r < L[k])) ≤ k := Nat.le_of_not_lt fun h => by
    have := h1 k h
    rw [getD_at _ hk] at this
    exact List.lt_irrefl _ this
  refine ⟨by omega, List.le_antisymm ?_ (List.not_lt.1 (h2 _ (Nat.le_refl _) (by omega)))⟩
  have := asc_at hA hkc hk
  rwa [getD_at _ hk] at this
/-- The list stands at its place, and nowhere ahead of it. -/
theorem wheelN_here {l : List UInt8} (h : 0 < l.length) : wheelN l < l.length ∧ (wheelM l).getD (wheelN l) [] = l := by
  have := count_here (wheelM_asc l) (x := l) (mem_wheelM.2 ⟨0, h, (spin_zero l).symm⟩)
  rw [wheelM_len] at this
  exact this
theorem wheelN_first (l : List UInt8) {i : Nat} (h : i < wheelN l) : (wheelM l).getD i [] ≠ l := fun e => by
  have := (count_first (x := l) (wheelM_asc l)).1 i h
  rw [e] at this
  exact List.lt_irrefl _ this
theorem wheelN_nil : wheelN [] = 0 := by
  have : wheelM [] = [] := List.length_eq_zero_iff.1 (by rw [wheelM_len]; rfl)
  simp [wheelN, this]
/-- Whatever text a walk gives: if its transform is t, the text is a row of its own order, and stands there. -/
theorem wheelN_le (l : List UInt8) : wheelN l ≤ l.length := by
  unfold wheelN
  rw [← wheelM_len]; exact List.countP_le_length
/-- No sign is lost. -/
theorem wheelT_perm (l : List UInt8) : (wheelT l).Perm l := by
  unfold wheelT
  refine ((wheelM_perm l).map _).trans ?_
  have e : (spins l).map (fun r => r.getLastD 0) = ((List.range l.length).map fun i => if i = 0 then l.length - 1 else i - 1).map fun i => l.getD i 0 := by
    unfold spins
    rw [List.map_map, List.map_map]
    refine List.map_congr_left fun i hi => ?_
    have hi' := List.mem_range.1 hi
    have hl := spin_len l i
    show (spin l i).getLastD 0 = l.getD (if i = 0 then l.length - 1 else i - 1) 0
    rw [show (spin l i).getLastD 0 = (spin l i).getD (l.length - 1) 0 by
      rw [List.getLastD_eq_getLast?, List.getLast?_eq_getElem?, hl]; rfl, spin_get (by omega) (by omega)]
    congr 1
    repeat' split
    all_goals omega
  rw [e]
  refine ((range_back _).map _).trans (List.Perm.of_eq ?_)
  apply List.ext_getElem
  · simp
  · intro i h1 h2
    simp [List.getD_eq_getElem?_getD, h2]
end Go.Proofs.Ytceipfmdgpnagaa
