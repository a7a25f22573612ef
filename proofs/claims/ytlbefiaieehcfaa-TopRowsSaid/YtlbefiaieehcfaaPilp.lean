/-
  Plain mathematics, without a program: numbers put on piles by any test; as many piles by 'not smaller' as rise strictly, by 'smaller' as do not rise. Conditions: where it is said, numbers from 0 to 1000.
-/
import Derived.Test.YtlbefiaieehcfaaRsgood
namespace Go.Proofs.Ytlbefiaieehcfaa

/-- A number put on the first pile whose top takes it, or on a new one. -/
def pilP (tk : Int → Int → Bool) : List Int → Int → List Int
  | [], x => [x]
  | t :: T, x => if tk t x then x :: T else t :: pilP tk T x
def topsP (tk : Int → Int → Bool) : List Int → List Int
  | [] => []
  | x :: h => pilP tk (topsP tk h) x
theorem pilP_len (tk : Int → Int → Bool) : ∀ (T : List Int) (x : Int), (pilP tk T x).length ≤ T.length + 1
  | [], x => Nat.le_refl _
  | t :: T, x => by
    have := pilP_len tk T x
    rw [pilP]
    split
    · simp
    · simp only [List.length_cons]; omega
theorem topsP_len (tk : Int → Int → Bool) : ∀ h : List Int, (topsP tk h).length ≤ h.length
  | [] => Nat.le_refl _
  | x :: h => by
    have h1 := pilP_len tk (topsP tk h) x
    have h2 := topsP_len tk h
    rw [topsP, List.length_cons]
    omega
/-- Where a number is put. -/
theorem pilP_at (tk : Int → Int → Bool) : ∀ (T : List Int) (x : Int) (k : Nat), k ≤ T.length → (∀ j, j < k → tk (T.getD j 0) x = false) → (k < T.length → tk (T.getD k 0) x = true) → pilP tk T x = if k < T.length then T.set k x else T ++ [x]
  | [], x, k, hk, _, _ => by
    obtain rfl : k = 0 := by simpa using hk
    rfl
  | t :: T, x, 0, _, _, h2 => by
    have : tk t x = true := h2 (by simp)
    rw [pilP, if_pos this, if_pos (by simp)]
    rfl
  | t :: T, x, k + 1, hk, h1, h2 => by
    have h0 : tk t x = false := h1 0 (by omega)
    rw [pilP, if_neg (by rw [h0]; decide), pilP_at tk T x k (by simpa using hk) (fun j hj => h1 (j + 1) (by omega)) (fun h => h2 (by simpa using h))]
    by_cases e : k < T.length
    · rw [if_pos e, if_pos (by simpa using e)]; rfl
    · rw [if_neg e, if_neg (by simpa using e)]; rfl
/-- By 'not smaller': the piles. -/
theorem topsP_ge : ∀ h : List Int, topsP (fun t x => decide (x ≤ t)) h = tops h
  | [] => rfl
  | x :: h => by
    rw [topsP, tops, topsP_ge h]
    generalize tops h = T
    induction T with
    | nil => rfl
    | cons t T ih =>
      rw [pilP, pil]
      by_cases e : t < x
      · rw [if_pos e, if_neg (by simp; omega), ih]
      · rw [if_neg e, if_pos (by simp; omega)]
/-- By 'smaller': the first row of the list turned over. -/
def ng (l : List Int) : List Int := l.map fun x => -x
theorem pilP_ng : ∀ (T : List Int) (x : Int), ng (pilP (fun t x => decide (t < x)) T x) = (put (ng T) (-x)).1
  | [], x => rfl
  | t :: T, x => by
    show _ = (put (-t :: ng T) (-x)).1
    rw [pilP, put]
    by_cases e : t < x
    · rw [if_pos (by simpa using e), if_pos (by omega)]; rfl
    · rw [if_neg (by simpa using e), if_neg (by omega)]
      show -t :: ng (pilP _ T x) = _
      rw [pilP_ng T x]
theorem topsP_ng : ∀ h : List Int, ng (topsP (fun t x => decide (t < x)) h) = row (ng h)
  | [] => rfl
  | x :: h => by
    show _ = (put (row (ng h)) (-x)).1
    rw [topsP, pilP_ng, topsP_ng h]
theorem wl_ng (v : Int) : ∀ h : List Int, wl leB (ng h) (-v) = wl geB h v
  | [] => rfl
  | x :: h => by
    show wl leB (-x :: ng h) (-v) = _
    rw [wl, wl, wl_ng v h, wl_ng x h]
    have e : leB (-x) (-v) = geB x v := by unfold leB geB; rw [Bool.eq_iff_iff]; simp
    rw [e]
theorem lg_ng : ∀ h : List Int, lg leB (ng h) = lg geB h
  | [] => rfl
  | x :: h => by
    show lg leB (-x :: ng h) = _
    rw [lg, lg, lg_ng h, wl_ng x h]
theorem topsP_lt {h : List Int} (hb : ∀ z ∈ h, 0 ≤ z) : (topsP (fun t x => decide (t < x)) h).length = lg geB h := by
  rw [← lg_ng, ← row_long (fun z hz => by
    obtain ⟨y, hy, rfl⟩ := List.mem_map.1 hz
    have := hb y hy
    omega), ← topsP_ng]
  unfold ng
  rw [List.length_map]
theorem fall_list {l : List Int} (h : GoodR l) : (topsP (fun t x => decide (t < x)) l.reverse).length = lg geB l.reverse := topsP_lt fun z hz => ((goodR_rev h).2 z hz).1
end Go.Proofs.Ytlbefiaieehcfaa
