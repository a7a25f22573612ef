/-
  Plain mathematics of the Z-function, without a program: how far an end goes with the beginning, what an earlier end tells of a later one, and borders by it. No condition.
-/
import Derived.Test.YtdkbgikniacekaaDoorBorder
namespace Go.Proofs.YtdkbgikniacekaaDoor

/-- Of the k signs from i on, how many go with the beginning. -/
def zt (f : Nat → UInt8) (i : Nat) : Nat → Nat
  | 0 => 0
  | k + 1 => if zt f i k = k ∧ f k = f (i + k) then k + 1 else zt f i k
/-- Of n signs: how far the end from i on goes with the beginning. -/
def zl (f : Nat → UInt8) (n i : Nat) : Nat := zt f i (n - i)

theorem zt_le (f : Nat → UInt8) (i k : Nat) : zt f i k ≤ k := by
  induction k with
  | zero => exact Nat.le_refl _
  | succ k ih => unfold zt; split <;> omega
theorem zt_go {f : Nat → UInt8} {i : Nat} (k : Nat) : ∀ j, j < zt f i k → f j = f (i + j) := by
  induction k with
  | zero => intro j hj; simp [zt] at hj
  | succ k ih =>
    intro j hj
    unfold zt at hj
    split at hj
    · rename_i h
      by_cases e : j = k
      · subst e; exact h.2
      · exact ih j (by omega)
    · exact ih j hj
theorem zt_stop {f : Nat → UInt8} {i : Nat} (k : Nat) (h : zt f i k < k) : f (zt f i k) ≠ f (i + zt f i k) := by
  induction k with
  | zero => omega
  | succ k ih =>
    unfold zt at h ⊢
    split at h
    · omega
    · rename_i hn
      rw [if_neg hn]
      by_cases e : zt f i k = k
      · rw [e]; exact fun e' => hn ⟨e, e'⟩
      · exact ih (by have := zt_le f i k; omega)
theorem zl_le (f : Nat → UInt8) (n i : Nat) : zl f n i ≤ n - i := zt_le _ _ _
theorem zl_go {f : Nat → UInt8} {n i : Nat} : ∀ j, j < zl f n i → f j = f (i + j) := zt_go _
theorem zl_max {f : Nat → UInt8} {n i m : Nat} (hm : m ≤ n - i) (h : ∀ j, j < m → f j = f (i + j)) : m ≤ zl f n i := by
  rcases Nat.lt_or_ge (zl f n i) m with hlt | hge
  · exact absurd (h _ hlt) (zt_stop _ (by unfold zl at hlt; omega))
  · exact hge
theorem zl_eq {f : Nat → UInt8} {n i m : Nat} (hm : m ≤ n - i) (h : ∀ j, j < m → f j = f (i + j)) (hs : m < n - i → f m ≠ f (i + m)) : zl f n i = m := by
  refine Nat.le_antisymm ?_ (zl_max hm h)
  rcases Nat.lt_or_ge m (zl f n i) with hlt | hge
  · exact absurd (zl_go _ hlt) (hs (by have := zl_le f n i; omega))
  · exact hge
theorem zl_zero (f : Nat → UInt8) (n : Nat) : zl f n 0 = n := zl_eq (by omega) (fun j _ => by rw [Nat.zero_add]) (fun h => absurd h (by omega))

/-- m signs from i on are known to go with the beginning. -/
def Kn (f : Nat → UInt8) (n i m : Nat) : Prop := i + m ≤ n ∧ ∀ j, j < m → f j = f (i + j)
theorem kn_zero {f : Nat → UInt8} {n i : Nat} (h : i ≤ n) : Kn f n i 0 := ⟨by omega, fun j hj => absurd hj (by omega)⟩
theorem kn_step {f : Nat → UInt8} {n i m : Nat} (h : Kn f n i m) (hlt : i + m < n) (e : f m = f (i + m)) : Kn f n i (m + 1) :=
  ⟨by omega, fun j hj => by
    by_cases h' : j = m
    · subst h'; exact e
    · exact h.2 j (by omega)⟩
theorem kn_end {f : Nat → UInt8} {n i m : Nat} (h : Kn f n i m) (hge : ¬ i + m < n) : zl f n i = m := by
  have := h.1
  exact zl_eq (by omega) h.2 (fun h' => absurd h' (by omega))
theorem kn_stop {f : Nat → UInt8} {n i m : Nat} (h : Kn f n i m) (e : f m ≠ f (i + m)) : zl f n i = m := by
  have := h.1
  exact zl_eq (by omega) h.2 (fun _ => e)
theorem kn_zl {f : Nat → UInt8} {n i : Nat} (h : i ≤ n) : Kn f n i (zl f n i) := ⟨by have := zl_le f n i; omega, zl_go⟩

/-- The part from l to r goes with the beginning; l lies before i, and is no beginning itself. -/
def Win (f : Nat → UInt8) (n i l r : Nat) : Prop := r ≤ n ∧ l ≤ r ∧ l < i ∧ (0 < r → 0 < l) ∧ ∀ j, j < r - l → f j = f (l + j)
theorem win_start (f : Nat → UInt8) (n : Nat) : Win f n 1 0 0 := ⟨by omega, by omega, by omega, by omega, fun j hj => absurd hj (by omega)⟩
theorem win_keep {f : Nat → UInt8} {n i l r : Nat} (h : Win f n i l r) : Win f n (i + 1) l r := ⟨h.1, h.2.1, by have := h.2.2.1; omega, h.2.2.2⟩
theorem win_new {f : Nat → UInt8} {n i m : Nat} (h0 : 0 < i) (h : Kn f n i m) : Win f n (i + 1) i (i + m) :=
  ⟨h.1, by omega, by omega, fun _ => h0, fun j hj => h.2 j (by omega)⟩
/-- What the copy tells. -/
theorem win_kn {f : Nat → UInt8} {n i l r : Nat} (h : Win f n i l r) (hr : i < r) : Kn f n i (min (zl f n (i - l)) (r - i)) := by
  obtain ⟨h1, h2, h3, _, h5⟩ := h
  refine ⟨by omega, fun j hj => ?_⟩
  rw [zl_go (f := f) (n := n) (i := i - l) j (by omega), h5 (i - l + j) (by omega)]
  congr 1; omega

/-- An end is a border just if it goes to the end of the text. -/
theorem zl_bd {f : Nat → UInt8} {n k : Nat} (h : k < n) : zl f n (n - k) = k ↔ Bd f n k := by
  constructor
  · intro e
    refine ⟨h, fun j hj => ?_⟩
    exact zl_go (n := n) j (by omega)
  · intro hb
    have := zl_le f n (n - k)
    have := zl_max (f := f) (n := n) (i := n - k) (m := k) (by omega) hb.2
    omega
/-- A part that begins at i and ends at m: it is a border of m signs just if the end from i on goes that far. -/
theorem zl_part {f : Nat → UInt8} {n m i : Nat} (h0 : 0 < i) (hi : i < m) (hm : m ≤ n) : m - i ≤ zl f n i ↔ Bd f m (m - i) := by
  constructor
  · intro e
    refine ⟨by omega, fun j hj => ?_⟩
    rw [zl_go (f := f) (n := n) (i := i) j (by omega)]
    congr 1; omega
  · intro hb
    refine zl_max (by omega) fun j hj => ?_
    rw [hb.2 j hj]
    congr 1; omega

/-- What 'Of' answers, the first k of it. -/
def zL (s : ByteArray) (k : Nat) : List Int := (List.range k).map fun i => ((zl (sg s) s.size i : Nat) : Int)
theorem zL_len (s : ByteArray) (k : Nat) : (zL s k).length = k := by simp [zL]
theorem zL_get (s : ByteArray) (k j : Nat) (h : j < k) : (zL s k).getD j 0 = ((zl (sg s) s.size j : Nat) : Int) := by simp [zL, h]
theorem zL_succ (s : ByteArray) (k : Nat) : zL s (k + 1) = zL s k ++ [((zl (sg s) s.size k : Nat) : Int)] := by simp [zL, List.range_succ]

/-- Of the places 1 .. k - 1, the first from which an end goes through place m - 1 (as a length), or 0: the longest border so far. -/
def bst (f : Nat → UInt8) (m : Nat) : Nat → Nat
  | 0 => 0
  | k + 1 => if bst f m k = 0 ∧ 0 < k ∧ bdB f m (m - k) then m - k else bst f m k
theorem bst_one (f : Nat → UInt8) (m : Nat) : bst f m 1 = 0 := by simp [bst]
theorem bst_lt (f : Nat → UInt8) (m k : Nat) : bst f m k ≤ m := by
  induction k with
  | zero => simp [bst]
  | succ k ih => unfold bst; split <;> omega
theorem bst_bd {f : Nat → UInt8} {m : Nat} (h : 0 < m) (k : Nat) : Bd f m (bst f m k) := by
  induction k with
  | zero => exact bd_zero h
  | succ k ih =>
    unfold bst
    split
    · rename_i hh; exact bdB_iff.1 hh.2.2
    · exact ih
theorem bst_max {f : Nat → UInt8} {m k j : Nat} (hj : Bd f m j) (h : m - j < k) : j ≤ bst f m k := by
  induction k with
  | zero => omega
  | succ k ih =>
    have hlt := hj.1
    unfold bst
    split
    · rename_i hh
      by_cases e : m - j = k
      · omega
      · have := ih (by omega); omega
    · rename_i hh
      by_cases e : m - j = k
      · by_cases e0 : bst f m k = 0
        · have hk : 0 < k := by omega
          have e2 : m - k = j := by omega
          exact absurd ⟨e0, hk, by rw [e2]; exact bdB_iff.2 hj⟩ hh
        · have hb := bst_bd (f := f) (m := m) (by omega) k
          rcases Nat.lt_or_ge (bst f m k) j with hl | hg
          · exact absurd hl (by have := bst_far f m k e0; omega)
          · exact hg
      · exact ih (by omega)
where
  bst_far (f : Nat → UInt8) (m k : Nat) : bst f m k ≠ 0 → m - k < bst f m k := by
    induction k with
    | zero => intro h; simp [bst] at h
    | succ k ih =>
      unfold bst
      split
      · intro h; omega
      · intro h; have := ih h; omega
theorem bst_end {f : Nat → UInt8} {m : Nat} (h : 0 < m) : bst f m m = lon f m := by
  refine (lon_eq (bst_bd h m) fun j hj => ?_).symm
  by_cases e : j = 0
  · omega
  · exact bst_max hj (by have := hj.1; omega)
theorem bst_yes {f : Nat → UInt8} {m k : Nat} (e : bst f m k = 0) (h0 : 0 < k) (h : Bd f m (m - k)) : bst f m (k + 1) = m - k := by
  rw [bst, if_pos ⟨e, h0, bdB_iff.2 h⟩]
theorem bst_no {f : Nat → UInt8} {m k : Nat} (h : ¬ Bd f m (m - k)) : bst f m (k + 1) = bst f m k := by
  rw [bst, if_neg fun hh => h (bdB_iff.1 hh.2.2)]
theorem bst_had {f : Nat → UInt8} {m k : Nat} (h : bst f m k ≠ 0) : bst f m (k + 1) = bst f m k := by
  rw [bst, if_neg fun hh => h hh.1]
end Go.Proofs.YtdkbgikniacekaaDoor
