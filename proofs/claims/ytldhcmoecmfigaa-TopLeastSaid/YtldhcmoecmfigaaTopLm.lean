/-
  Plain mathematics of what is least: the least rotation stands first in the order of the rotations; the least end of a text is its last Lyndon factor. No condition.
-/
import Derived.Test.YtldhcmoecmfigaaWsp
import Derived.Test.YtldhcmoecmfigaaLyn
import Derived.Test.YtldhcmoecmfigaaEnds
namespace Go.Proofs.Ytldhcmoecmfigaa

/-- Of lists of one length the order is that of rows. -/
theorem lt_less {a b : List UInt8} (hl : a.length = b.length) (h : a < b) : Less (fun x => a.getD x 0) (fun x => b.getD x 0) a.length := by
  rcases List.lt_iff_exists.1 h with ⟨_, h1⟩ | ⟨i, h1, h2, h3, h4⟩
  · omega
  · refine ⟨i, h1, fun l hl' => ?_, ?_⟩
    · show a.getD l 0 = b.getD l 0
      rw [getD_at _ (by omega), getD_at _ (by omega)]; exact h3 l hl'
    · show a.getD i 0 < b.getD i 0
      rw [getD_at _ h1, getD_at _ h2]; exact h4
theorem spin_ls {s : ByteArray} {i j : Nat} (hi : i ≤ s.size) (hj : j ≤ s.size) (h : spin (bs s) i < spin (bs s) j) : Ls (cy s) s.size i j := by
  have h1 := lt_less (by rw [spin_len, spin_len]) h
  rw [spin_len, bs_len] at h1
  refine less_left (fun x hx => ?_) (less_right (fun x hx => ?_) h1)
  · show (spin (bs s) i).getD x 0 = cy s (i + x)
    rw [← bs_turn, bs_sg, turn_sg s i x hi hx]
  · show (spin (bs s) j).getD x 0 = cy s (j + x)
    rw [← bs_turn, bs_sg, turn_sg s j x hj hx]
/-- The first row of the order is the least rotation. -/
theorem first_least {s : ByteArray} (hn : 0 < s.size) {b : Nat} (h : Lst (cy s) s.size b) : txt ((wheelM (bs s)).getD 0 []) = turnS s b := by
  have hb := lst_lt hn h
  have hl : 0 < (bs s).length := by rw [bs_len]; exact hn
  obtain ⟨i, hi, he⟩ := wheelM_row hl
  rw [bs_len] at hi
  rw [turn_txt, he]
  congr 1
  obtain ⟨k, hk, hke⟩ := List.getElem_of_mem (mem_wheelM.2 ⟨b, by rw [bs_len]; exact hb, rfl⟩ : spin (bs s) b ∈ wheelM (bs s))
  have hle := asc_at (wheelM_asc (bs s)) (Nat.zero_le k) hk
  rw [he, getD_at _ hk, hke] at hle
  refine List.le_antisymm hle (List.not_lt.1 fun hlt => ?_)
  exact h.2.1 i hi (spin_ls (by omega) (by omega) hlt)

/-! ### Ends -/
/-- An end is less than a later one just if a sign is. -/
theorem drop_lt {l : List UInt8} {f : Nat → UInt8} (hf : ∀ x, x < l.length → l.getD x 0 = f x) {i d : Nat} (hd : 0 < d) (h : l.drop i < l.drop (i + d)) : ∃ k, i + d + k < l.length ∧ (∀ x, x < k → f (i + x) = f (i + (d + x))) ∧ f (i + k) < f (i + (d + k)) := by
  have g : ∀ (j k : Nat) (h : k < (l.drop j).length), (l.drop j)[k] = f (j + k) := fun j k h => by
    rw [List.length_drop] at h
    rw [List.getElem_drop, ← hf _ (by omega), getD_at _ (by omega)]
  rcases List.lt_iff_exists.1 h with ⟨_, h1⟩ | ⟨k, h1, h2, h3, h4⟩
  · rw [List.length_drop, List.length_drop] at h1; omega
  · rw [g, g, Nat.add_assoc] at h4
    have h2' := h2
    rw [List.length_drop] at h2'
    refine ⟨k, by omega, fun x hx => ?_, h4⟩
    have := h3 x hx
    rwa [g, g, Nat.add_assoc] at this
theorem lt_drop {l : List UInt8} {f : Nat → UInt8} (hf : ∀ x, x < l.length → l.getD x 0 = f x) {i d k : Nat} (hk : i + d + k < l.length) (h1 : ∀ x, x < k → f (i + x) = f (i + (d + x))) (h2 : f (i + k) < f (i + (d + k))) : l.drop i < l.drop (i + d) := by
  have g : ∀ (j k : Nat) (h : k < (l.drop j).length), (l.drop j)[k] = f (j + k) := fun j k h => by
    rw [List.length_drop] at h
    rw [List.getElem_drop, ← hf _ (by omega), getD_at _ (by omega)]
  refine List.lt_iff_exists.2 (.inr ⟨k, by rw [List.length_drop]; omega, by rw [List.length_drop]; omega, fun x hx => ?_, ?_⟩)
  · rw [g, g, Nat.add_assoc]; exact h1 x hx
  · rw [g, g, Nat.add_assoc]; exact h2
/-- The least end from b on is the last factor. -/
theorem least_last {l : List UInt8} {f : Nat → UInt8} (hf : ∀ x, x < l.length → l.getD x 0 = f x) {b : Nat} {xs : List Int} (hR : Rest f l.length b xs) : ∀ i, b ≤ i → i < l.length → (∀ j, b ≤ j → j < l.length → j ≠ i → l.drop i < l.drop j) → xs ≠ [] ∧ (i : Int) = (l.length : Int) - xs.getD (xs.length - 1) 0 := by
  generalize hn : l.length = n at hR hf
  induction hR with
  | done => intro i h1 h2; omega
  | step hbn hL hR ih =>
    rename_i b' p xs'
    intro i h1 h2 h3
    have hp := hL.2.1.1
    have hpn := hL.1
    refine ⟨by simp, ?_⟩
    by_cases hi : b' + p ≤ i
    · obtain ⟨hne, hih⟩ := ih i hi h2 (fun j hj => h3 j (by omega))
      rw [hih]
      have hlen : 0 < xs'.length := List.length_pos_iff.2 hne
      congr 1
      rw [List.length_cons, Nat.add_sub_cancel]
      obtain ⟨m, hm⟩ : ∃ m, xs'.length = m + 1 := ⟨xs'.length - 1, by omega⟩
      rw [hm]
      simp
    · -- it stands in the first factor: at its beginning
      have hib : i = b' := by
        rcases Nat.lt_or_ge b' i with hlt | hge
        · exfalso
          obtain ⟨k, k1, k2, k3⟩ := hL.2.1.2 (i - b') (by omega) (by omega)
          have : l.drop b' < l.drop (b' + (i - b')) := lt_drop (by rw [hn]; exact hf) (k := k) (by rw [hn]; omega) (fun x hx => k2 x hx) k3
          rw [show b' + (i - b') = i by omega] at this
          exact lt_asym this (h3 b' (Nat.le_refl _) (by omega) (by omega))
        · omega
      subst hib
      have hLyn : Lyn (fun x => f (i + x)) (n - i) := ⟨by omega, fun d h4 h5 => by
        obtain ⟨k, k1, k2, k3⟩ := drop_lt (l := l) (by rw [hn]; exact hf) h4 (h3 (i + d) (by omega) (by omega) (by omega))
        exact ⟨k, by rw [hn] at k1; omega, fun x hx => k2 x hx, k3⟩⟩
      have hpe : p = n - i := by
        rcases Nat.lt_or_ge p (n - i) with hlt | hge
        · exact absurd hLyn (hL.2.2 (n - i) hlt (Nat.le_refl _))
        · omega
      have hx : xs' = [] := by
        cases hR with
        | done => rfl
        | step hb7 _ _ => omega
      subst hx
      simp
      omega
/-- The first place of the ends' order. -/
theorem order_first {s : ByteArray} {o : List Nat} {xs : List Int} (hn : 0 < s.size) (hO : Ord (bs s) o) (hR : Rest (sg s) s.size 0 xs) : xs ≠ [] ∧ ((o.getD 0 0 : Nat) : Int) = (s.size : Int) - xs.getD (xs.length - 1) 0 := by
  have hl := hO.len
  rw [bs_len] at hl
  have h0 : 0 < o.length := by omega
  have hmem : ∀ j, j < s.size → j ∈ o := fun j hj => hO.1.mem_iff.2 (List.mem_range.2 (by rw [bs_len]; exact hj))
  have hi : o.getD 0 0 < s.size := by
    have := List.mem_range.1 (hO.1.mem_iff.1 (show o.getD 0 0 ∈ o by rw [getD_at _ h0]; exact List.getElem_mem _))
    rwa [bs_len] at this
  have := least_last (l := bs s) (f := sg s) (fun x _ => rfl) (b := 0) (xs := xs) (by rw [bs_len]; exact hR) (o.getD 0 0) (Nat.zero_le _) (by rw [bs_len]; exact hi) (fun j _ hj hne => by
    rw [bs_len] at hj
    obtain ⟨k, hk, hke⟩ := List.getElem_of_mem (hmem j hj)
    have hk0 : 0 < k := by
      rcases Nat.eq_zero_or_pos k with e | e
      · subst e; rw [getD_at _ h0] at hne; exact absurd hke.symm hne
      · exact e
    have := List.pairwise_iff_getElem.1 hO.2 0 k h0 hk hk0
    rw [hke] at this
    rw [getD_at _ h0]
    exact this)
  rw [bs_len] at this
  exact this
end Go.Proofs.Ytldhcmoecmfigaa
