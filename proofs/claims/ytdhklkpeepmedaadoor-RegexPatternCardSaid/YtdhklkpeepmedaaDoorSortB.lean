/-
  Contract of slices.Sort at signs, for at most 12 of them: the same signs in their order, in the same place. Conditions: at most 12 signs.
-/
import Derived.Test.YtdhklkpeepmedaaDoorBase
import Derived.Test.YtdhklkpeepmedaaDoorBorder
import Derived.Lib.Tables
namespace Go.Proofs.YtdhklkpeepmedaaDoor
open Go.RowKit

/-- A sign as a value. -/
def bv (c : UInt8) : Value := .int .u8 (c.toNat : Int)
/-! ### Plain facts -/
theorem bv_set (l : List UInt8) (k : Nat) (c : UInt8) : (l.map bv).set k (bv c) = (l.set k c).map bv := by rw [List.map_set]
theorem bv_get (l : List UInt8) (k : Nat) (h : k < l.length) : (l.map bv)[k]? = some (bv (l.getD k 0)) := by
  rw [List.getElem?_map, List.getElem?_eq_getElem h]
  simp [List.getD_eq_getElem?_getD, h]
/-- Two neighbours exchanged. -/
def swp (l : List UInt8) (m : Nat) : List UInt8 := (l.set (m + 1) (l.getD m 0)).set m (l.getD (m + 1) 0)
theorem swp_perm : ∀ (l : List UInt8) (m : Nat), m + 1 < l.length → (swp l m).Perm l
  | a :: b :: l, 0, _ => by simpa [swp] using List.Perm.swap a b l
  | a :: l, m + 1, h => by
    have := swp_perm l m (by simpa using h)
    have e : swp (a :: l) (m + 1) = a :: swp l m := by simp [swp]
    rw [e]; exact this.cons a
theorem swp_get (l : List UInt8) (m : Nat) (h : m + 1 < l.length) (p : Nat) : (swp l m).getD p 0 = if p = m then l.getD (m + 1) 0 else if p = m + 1 then l.getD m 0 else l.getD p 0 := by
  unfold swp
  by_cases h1 : p = m
  · subst h1
    rw [if_pos rfl, List.getD_eq_getElem?_getD, List.getElem?_set_self (by simp; omega)]
    rfl
  · rw [if_neg h1, List.getD_eq_getElem?_getD, List.getElem?_set_ne (Ne.symm h1)]
    by_cases h2 : p = m + 1
    · subst h2
      rw [if_pos rfl, List.getElem?_set_self (by omega)]
      rfl
    · rw [if_neg h2, List.getElem?_set_ne (Ne.symm h2), ← List.getD_eq_getElem?_getD]
/-- The first i signs are in their order, but that the one at j may be smaller than those ahead of it. -/
def Srt (l : List UInt8) (i j : Nat) : Prop := ∀ p q, p < q → q < i → q ≠ j → l.getD p 0 ≤ l.getD q 0
theorem srt_swp {l : List UInt8} {i m : Nat} (h : Srt l i (m + 1)) (hi : m + 1 < i) (hl : i ≤ l.length) (hlt : l.getD (m + 1) 0 < l.getD m 0) : Srt (swp l m) i m := by
  intro p q hpq hq hqm
  rw [swp_get l m (by omega), swp_get l m (by omega)]
  by_cases e1 : q = m + 1
  · subst e1
    rw [if_neg hqm, if_pos rfl]
    by_cases e2 : p = m
    · subst e2; rw [if_pos rfl]; exact UInt8.le_of_lt hlt
    · rw [if_neg e2, if_neg (by omega)]; exact h p m (by omega) (by omega) (by omega)
  · rw [if_neg hqm, if_neg e1]
    by_cases e2 : p = m
    · subst e2; rw [if_pos rfl]; exact h (p + 1) q (by omega) hq e1
    · rw [if_neg e2]
      by_cases e3 : p = m + 1
      · subst e3; rw [if_pos rfl]; exact h m q (by omega) hq e1
      · rw [if_neg e3]; exact h p q hpq hq e1
theorem srt_done {l : List UInt8} {i j : Nat} (h : Srt l i j) (hj : ∀ m, j = m + 1 → l.getD m 0 ≤ l.getD j 0) : Srt l i i := by
  intro p q hpq hq _
  by_cases e : q = j
  · subst e
    obtain ⟨m, rfl⟩ : ∃ m, q = m + 1 := ⟨q - 1, by omega⟩
    have h1 := hj m rfl
    by_cases e2 : p = m
    · subst e2; exact h1
    · exact UInt8.le_trans (h p m (by omega) (by omega) (by omega)) h1
  · exact h p q hpq hq e
theorem srt_next {l : List UInt8} {i : Nat} (h : Srt l i i) : Srt l (i + 1) i := fun p q hpq hq hne => h p q hpq (by omega) (by omega)
/-- Sorted, as a list. -/
theorem srt_pair {l : List UInt8} {n : Nat} (h : Srt l n n) (hl : l.length = n) : l.Pairwise (· ≤ ·) := by
  rw [List.pairwise_iff_getElem]
  intro i j hi hj hij
  have := h i j hij (by omega) (by omega)
  simpa [List.getD_eq_getElem?_getD, hi, hj] using this

/-! ### The library's functions -/
theorem less_yes (x y : UInt8) (w : World) (h : x < y) : Calls Tryd.prog 49 #[.int .u8 (x.toNat : Int), .int .u8 (y.toNat : Int)] w fun e w' => e = .returned (.bool true) ∧ w' = w := by
  have h' : (x.toNat : Int) < (y.toNat : Int) := by have := UInt8.lt_iff_toNat_lt.1 h; omega
  go_enter Tryd.func49, Tryd.ntmps49
  go_wp2
  go_ret
  exact ⟨by simp, rfl⟩
theorem less_no (x y : UInt8) (w : World) (h : y ≤ x) : Calls Tryd.prog 49 #[.int .u8 (x.toNat : Int), .int .u8 (y.toNat : Int)] w fun e w' => e = .returned (.bool false) ∧ w' = w := by
  have h' : ¬ (x.toNat : Int) < (y.toNat : Int) := by have := UInt8.le_iff_toNat_le.1 h; omega
  go_enter Tryd.func49, Tryd.ntmps49
  go_wp2
  go_ret
  exact ⟨by simp, rfl⟩
/-- The slice's own row holds the signs l. Shut for the walk. -/
def RowB (w : World) (base g n c : Nat) (l : List UInt8) : Prop := w.ownsRow base 5 1 (.slice (some ⟨g, 0, none⟩) n c) n (l.map bv) ∧ l.length = n
theorem RowB.cell {w : World} {base g n c : Nat} {l : List UInt8} (h : RowB w base g n c l) (k : Nat) (hk : k < n) : w.cell? ⟨g, k, none⟩ = some (.int .u8 ((l.getD k 0).toNat : Int)) := by
  rw [h.1.cellAt k (by omega), bv_get l k (by have := h.2; omega)]; rfl
theorem RowB.swp {w : World} {base g n c m : Nat} {l : List UInt8} (h : RowB w base g n c l) (_hm : m + 1 < n) :
    RowB ((w.setCell ⟨g, m + 1, none⟩ (.int .u8 ((l.getD m 0).toNat : Int))).setCell ⟨g, m, none⟩ (.int .u8 ((l.getD (m + 1) 0).toNat : Int))) base g n c (swp l m) := by
  have := ((h.1.stored (m + 1) (bv (l.getD m 0))).1.stored m (bv (l.getD (m + 1) 0))).1
  rw [bv_set, bv_set] at this
  exact ⟨this, by have := h.2; simp [Go.Proofs.YtdhklkpeepmedaaDoor.swp]; exact this⟩

set_option maxHeartbeats 1000000 in
theorem insort_any (base g n c : Nat) (l0 : List UInt8) (w : World) (hn : n ≤ 12) (hg : base ≤ g) (h : RowB w base g n c l0) :
    Calls Tryd.prog 43 #[.slice (some ⟨g, 0, none⟩) n c, .int .i64 0, .int .i64 n] w fun e w' => e = .returned (.tuple #[]) ∧
      ∃ l, l.Perm l0 ∧ l.Pairwise (· ≤ ·) ∧ RowB w' base g n c l ∧ Below base w w' := by
  have H := hid h
  clear h
  go_enter Tryd.func43, Tryd.ntmps43
  go_wp2
  go_loopw [6] (fun x wr => ∃ (i : Nat) (l : List UInt8), 1 ≤ i ∧ i ≤ n + 1 ∧ x = .int .i64 i ∧ Hid (l.Perm l0 ∧ Srt l i i ∧ RowB wr base g n c l) ∧ Below base w wr) (fun x _ => n + 1 - (intOf x).toNat)
  case atStart => exact ⟨1, l0, by omega, by omega, by go_num, hid ⟨List.Perm.refl _, fun p q hpq hq _ => by omega, H.out⟩, Below.refl _ _⟩
  case round =>
    obtain ⟨i, l, hi1, hi2, rfl, HR, hb⟩ := hrel
    by_cases hlt : i < n
    · obtain ⟨wz, hwz⟩ : ∃ z, z = wr := ⟨_, rfl⟩
      subst hwz
      go_wp2
      go_loopw [7] (fun x wr => ∃ (j : Nat) (l : List UInt8), j ≤ i ∧ x = .int .i64 j ∧ Hid (l.Perm l0 ∧ Srt l (i + 1) j ∧ RowB wr base g n c l) ∧ Below base w wr) (fun x _ => (intOf x).toNat)
      case atStart => exact ⟨i, l, Nat.le_refl _, rfl, hid ⟨HR.out.1, srt_next HR.out.2.1, HR.out.2.2⟩, hb⟩
      case round =>
        obtain ⟨j, l, hj, rfl, HR, hb⟩ := hrel
        by_cases h0 : j = 0
        · subst h0
          have HE := hid (show l.Perm l0 ∧ Srt l (i + 1) (i + 1) ∧ RowB wr base g n c l from ⟨HR.out.1, srt_done HR.out.2.1 (fun m hm => by omega), HR.out.2.2⟩)
          clear HR
          go_wp2
          go_quiet (fail)
          go_wp2
          go_roundw
          case rel => exact ⟨i + 1, l, by omega, by omega, by go_num, hid ⟨HE.out.1, HE.out.2.1, ⟨own_drewN HE.out.2.2.1 _, HE.out.2.2.2⟩⟩, below_drewN hb _⟩
          case measure => simp [intOf]; omega
        · obtain ⟨m, rfl⟩ : ∃ m, j = m + 1 := ⟨j - 1, by omega⟩
          clear h0
          have hc1 := HR.out.2.2.cell m (by omega)
          have hc2 := HR.out.2.2.cell (m + 1) (by omega)
          have hf1 := HR.out.2.2.1.frozenAt m
          have hf2 := HR.out.2.2.1.frozenAt (m + 1)
          have hmi : ((m : Int) + 1 - 1) = m := by omega
          by_cases hless : l.getD (m + 1) 0 < l.getD m 0
          · have HL := fun W => hid (less_yes (l.getD (m + 1) 0) (l.getD m 0) W hless)
            have HE := hid (show (swp l m).Perm l0 ∧ Srt (swp l m) (i + 1) m ∧ RowB ((wr.setCell ⟨g, m + 1, none⟩ (.int .u8 ((l.getD m 0).toNat : Int))).setCell ⟨g, m, none⟩ (.int .u8 ((l.getD (m + 1) 0).toNat : Int))) base g n c (swp l m) from
              ⟨(swp_perm l m (by have := HR.out.2.2.2; omega)).trans HR.out.1, srt_swp HR.out.2.1 (by omega) (by have := HR.out.2.2.2; omega) hless, HR.out.2.2.swp (by omega)⟩)
            clear HR hless
            generalize l.getD (m + 1) 0 = x at hc2 HL HE
            generalize l.getD m 0 = y at hc1 HL HE
            go_wp2
            go_quiet ((go_at_call 49; exact Calls.quiet_of_same (HL _).out))
            go_wp2
            go_region
            go_wp2
            go_roundw
            case rel => exact ⟨m, swp l m, by omega, by go_num, hid ⟨HE.out.1, HE.out.2.1, HE.out.2.2⟩, ((below_drewN hb _).setCell (by simpa using hg) _).setCell (by simpa using hg) _⟩
            case measure => simp [intOf]
          · have HL := fun W => hid (less_no (l.getD (m + 1) 0) (l.getD m 0) W (UInt8.not_lt.1 hless))
            have HE := hid (show l.Perm l0 ∧ Srt l (i + 1) (i + 1) ∧ RowB wr base g n c l from ⟨HR.out.1, srt_done HR.out.2.1 (fun k hk => by obtain rfl : k = m := by omega
                                                                                                                                              exact UInt8.not_lt.1 hless), HR.out.2.2⟩)
            clear HR hless
            generalize l.getD (m + 1) 0 = x at hc2 HL
            generalize l.getD m 0 = y at hc1 HL
            go_wp2
            go_quiet ((go_at_call 49; exact Calls.quiet_of_same (HL _).out))
            go_wp2
            go_roundw
            case rel => exact ⟨i + 1, l, by omega, by omega, by go_num, hid ⟨HE.out.1, HE.out.2.1, ⟨own_drewN HE.out.2.2.1 _, HE.out.2.2.2⟩⟩, below_drewN hb _⟩
            case measure => simp [intOf]; omega
    · have HE := hid (show l.Perm l0 ∧ l.Pairwise (· ≤ ·) ∧ RowB wr base g n c l from ⟨HR.out.1, srt_pair (n := n) (fun p q hpq hq _ => HR.out.2.1 p q hpq (by omega) (by omega)) HR.out.2.2.2, HR.out.2.2⟩)
      clear HR
      go_wp2
      go_end0
      exact ⟨rfl, l, HE.out.1, HE.out.2.1, HE.out.2.2, hb⟩
theorem insort_none (A : Option Addr) (c : Nat) (w : World) : Calls Tryd.prog 43 #[.slice A 0 c, .int .i64 0, .int .i64 0] w fun e w' => e = .returned (.tuple #[]) ∧ w' = w := by
  go_enter Tryd.func43, Tryd.ntmps43
  go_wp2
  go_rounds 1
  go_end0
  exact ⟨rfl, rfl⟩
set_option maxHeartbeats 2000000 in
set_option maxRecDepth 100000 in
theorem pdq_few (A : Option Addr) (n c : Nat) (x : Int) (w : World) (hn : n ≤ 12) (R : World → Prop)
    (h : Calls Tryd.prog 43 #[.slice A n c, .int .i64 0, .int .i64 n] w fun e w' => e = .returned (.tuple #[]) ∧ R w') :
    Calls Tryd.prog 33 #[.slice A n c, .int .i64 0, .int .i64 n, .int .i64 x] w fun e w' => e = .returned (.tuple #[]) ∧ R w' := by
  have HC := hid h
  clear h
  go_enter Tryd.func33, Tryd.ntmps33
  go_wp2_with fail
  go_loopw [1, 2] (fun a b wr => a = .int .i64 0 ∧ b = .int .i64 n ∧ wr = w) (fun _ _ _ => 0)
  case atStart => exact ⟨rfl, rfl, rfl⟩
  case round =>
    obtain ⟨rfl, rfl, rfl⟩ := hrel
    go_wp2_with (go_at_call 43; refine HC.out.mono ?_; rintro e w1 ⟨rfl, hr⟩)
    go_wp2_with fail
    refine bodyPost_ret (results_none rfl _ _ _) rfl ?_
    exact ⟨rfl, hr⟩
set_option maxRecDepth 1000000 in
theorem len64_0 (w : World) : Calls Tryd.prog 53 #[.int .u64 0] w fun e w' => (∃ x, e = .returned (.int .i64 x)) ∧ w' = w := by
  go_enter Tryd.func53, Tryd.ntmps53
  go_wp2
  go_ret
  exact ⟨⟨_, rfl⟩, rfl⟩
set_option maxRecDepth 1000000 in
theorem len64_1 (w : World) : Calls Tryd.prog 53 #[.int .u64 1] w fun e w' => (∃ x, e = .returned (.int .i64 x)) ∧ w' = w := by
  go_enter Tryd.func53, Tryd.ntmps53
  go_wp2
  go_ret
  exact ⟨⟨_, rfl⟩, rfl⟩
set_option maxRecDepth 1000000 in
theorem len64_2 (w : World) : Calls Tryd.prog 53 #[.int .u64 2] w fun e w' => (∃ x, e = .returned (.int .i64 x)) ∧ w' = w := by
  go_enter Tryd.func53, Tryd.ntmps53
  go_wp2
  go_ret
  exact ⟨⟨_, rfl⟩, rfl⟩
set_option maxRecDepth 1000000 in
theorem len64_3 (w : World) : Calls Tryd.prog 53 #[.int .u64 3] w fun e w' => (∃ x, e = .returned (.int .i64 x)) ∧ w' = w := by
  go_enter Tryd.func53, Tryd.ntmps53
  go_wp2
  go_ret
  exact ⟨⟨_, rfl⟩, rfl⟩
set_option maxRecDepth 1000000 in
theorem len64_4 (w : World) : Calls Tryd.prog 53 #[.int .u64 4] w fun e w' => (∃ x, e = .returned (.int .i64 x)) ∧ w' = w := by
  go_enter Tryd.func53, Tryd.ntmps53
  go_wp2
  go_ret
  exact ⟨⟨_, rfl⟩, rfl⟩
set_option maxRecDepth 1000000 in
theorem len64_5 (w : World) : Calls Tryd.prog 53 #[.int .u64 5] w fun e w' => (∃ x, e = .returned (.int .i64 x)) ∧ w' = w := by
  go_enter Tryd.func53, Tryd.ntmps53
  go_wp2
  go_ret
  exact ⟨⟨_, rfl⟩, rfl⟩
set_option maxRecDepth 1000000 in
theorem len64_6 (w : World) : Calls Tryd.prog 53 #[.int .u64 6] w fun e w' => (∃ x, e = .returned (.int .i64 x)) ∧ w' = w := by
  go_enter Tryd.func53, Tryd.ntmps53
  go_wp2
  go_ret
  exact ⟨⟨_, rfl⟩, rfl⟩
set_option maxRecDepth 1000000 in
theorem len64_7 (w : World) : Calls Tryd.prog 53 #[.int .u64 7] w fun e w' => (∃ x, e = .returned (.int .i64 x)) ∧ w' = w := by
  go_enter Tryd.func53, Tryd.ntmps53
  go_wp2
  go_ret
  exact ⟨⟨_, rfl⟩, rfl⟩
set_option maxRecDepth 1000000 in
theorem len64_8 (w : World) : Calls Tryd.prog 53 #[.int .u64 8] w fun e w' => (∃ x, e = .returned (.int .i64 x)) ∧ w' = w := by
  go_enter Tryd.func53, Tryd.ntmps53
  go_wp2
  go_ret
  exact ⟨⟨_, rfl⟩, rfl⟩
set_option maxRecDepth 1000000 in
theorem len64_9 (w : World) : Calls Tryd.prog 53 #[.int .u64 9] w fun e w' => (∃ x, e = .returned (.int .i64 x)) ∧ w' = w := by
  go_enter Tryd.func53, Tryd.ntmps53
  go_wp2
  go_ret
  exact ⟨⟨_, rfl⟩, rfl⟩
set_option maxRecDepth 1000000 in
theorem len64_10 (w : World) : Calls Tryd.prog 53 #[.int .u64 10] w fun e w' => (∃ x, e = .returned (.int .i64 x)) ∧ w' = w := by
  go_enter Tryd.func53, Tryd.ntmps53
  go_wp2
  go_ret
  exact ⟨⟨_, rfl⟩, rfl⟩
set_option maxRecDepth 1000000 in
theorem len64_11 (w : World) : Calls Tryd.prog 53 #[.int .u64 11] w fun e w' => (∃ x, e = .returned (.int .i64 x)) ∧ w' = w := by
  go_enter Tryd.func53, Tryd.ntmps53
  go_wp2
  go_ret
  exact ⟨⟨_, rfl⟩, rfl⟩
set_option maxRecDepth 1000000 in
theorem len64_12 (w : World) : Calls Tryd.prog 53 #[.int .u64 12] w fun e w' => (∃ x, e = .returned (.int .i64 x)) ∧ w' = w := by
  go_enter Tryd.func53, Tryd.ntmps53
  go_wp2
  go_ret
  exact ⟨⟨_, rfl⟩, rfl⟩
theorem len64_few (n : Nat) (w : World) (hn : n ≤ 12) : Calls Tryd.prog 53 #[.int .u64 (n : Int)] w fun e w' => (∃ x, e = .returned (.int .i64 x)) ∧ w' = w := by
  have hx : n = 0 ∨ n = 1 ∨ n = 2 ∨ n = 3 ∨ n = 4 ∨ n = 5 ∨ n = 6 ∨ n = 7 ∨ n = 8 ∨ n = 9 ∨ n = 10 ∨ n = 11 ∨ n = 12 := by omega
  rcases hx with rfl | rfl | rfl | rfl | rfl | rfl | rfl | rfl | rfl | rfl | rfl | rfl | rfl
  · exact len64_0 w
  · exact len64_1 w
  · exact len64_2 w
  · exact len64_3 w
  · exact len64_4 w
  · exact len64_5 w
  · exact len64_6 w
  · exact len64_7 w
  · exact len64_8 w
  · exact len64_9 w
  · exact len64_10 w
  · exact len64_11 w
  · exact len64_12 w
theorem len_few (n : Nat) (w : World) (hn : n ≤ 12) : Calls Tryd.prog 34 #[.int .u64 (n : Int)] w fun e w' => (∃ x, e = .returned (.int .i64 x)) ∧ w' = w := by
  have HC := hid (len64_few n w hn)
  go_enter Tryd.func34, Tryd.ntmps34
  go_wp2_with (go_at_call 53; refine HC.out.mono ?_; rintro e w1 ⟨⟨x, rfl⟩, rfl⟩)
  go_ret
  exact ⟨⟨_, rfl⟩, rfl⟩
theorem sort_few (A : Option Addr) (n c : Nat) (w : World) (hn : n ≤ 12) (R : World → Prop)
    (h : Calls Tryd.prog 43 #[.slice A n c, .int .i64 0, .int .i64 n] w fun e w' => e = .returned (.tuple #[]) ∧ R w') :
    Calls Tryd.prog 23 #[.slice A n c] w fun e w' => e = .returned (.tuple #[]) ∧ R w' := by
  have HL := hid (len_few n w hn)
  have HC := fun x => hid (pdq_few A n c x w (by omega) R h)
  clear h
  go_enter Tryd.func23, Tryd.ntmps23
  go_wp2_with (first
    | (go_at_call 34; refine HL.out.mono ?_; rintro e w1 ⟨⟨x, rfl⟩, rfl⟩)
    | (go_at_call 33; refine (HC _).out.mono ?_; rintro e w1 ⟨rfl, hr⟩))
  go_end0
  exact ⟨rfl, hr⟩
end Go.Proofs.YtdhklkpeepmedaaDoor
