/-
  Contract of slices.Sort at signs, for at most 12 of them: the same signs in their order, in the same place. Conditions: at most 12 signs.
-/
import Derived.Test.YtkcocdlfhgincaaDoorTiter
import Derived.Lib.Tables
namespace Go.Proofs.YtkcocdlfhgincaaDoor
open Go.RowKit

/-! ### Plain facts -/
theorem bv_set (l : List UInt8) (k : Nat) (c : UInt8) : (l.map bv).set k (bv c) = (l.set k c).map bv := by rw [List.map_set]
theorem bv_get (l : List UInt8) (k : Nat) (h : k < l.length) : (l.map bv)[k]? = some (bv (l.getD k 0)) := by
  rw [List.getElem?_map, List.getElem?_eq_getElem h]
  simp [List.getD_eq_getElem?_getD, h]
/-- Two neighbours exchanged. -/
def swp (l : List UInt8) (m : Nat) : List UInt8 := (l.set (m + 1) (l.getD m 0)).set m (l.getD (m + 1) 0)
theorem swp_perm : ∀ (l : List UInt8) (m : Nat), m + 1 < l.length → (swp l m).Perm l
  | a :: b :: l, 0, _ => by simpa [swp] using List.Perm.swap a b l
  | a :: l, m + 1, h => by
    have := swp_perm l m (by simpa using h)
    have e : swp (a :: l) (m + 1) = a :: swp l m := by simp [swp]
    rw [e]; exact this.cons a
theorem swp_get (l : List UInt8) (m : Nat) (h : m + 1 < l.length) (p : Nat) : (swp l m).getD p 0 = if p = m then l.getD (m + 1) 0 else if p = m + 1 then l.getD m 0 else l.getD p 0 := by
  unfold swp
  by_cases h1 : p = m
  · subst h1
    rw [if_pos rfl, List.getD_eq_getElem?_getD, List.getElem?_set_self (by simp; omega)]
    rfl
  · rw [if_neg h1, List.getD_eq_getElem?_getD, List.getElem?_set_ne (Ne.symm h1)]
    by_cases h2 : p = m + 1
    · subst h2
      rw [if_pos rfl, List.getElem?_set_self (by omega)]
      rfl
    · rw [if_neg h2, List.getElem?_set_ne (Ne.symm h2), ← List.getD_eq_getElem?_getD]
/-- The first i signs are in their order, but that the one at j may be smaller than those ahead of it. -/
def Srt (l : List UInt8) (i j : Nat) : Prop := ∀ p q, p < q → q < i → q ≠ j → l.getD p 0 ≤ l.getD q 0
theorem srt_swp {l : List UInt8} {i m : Nat} (h : Srt l i (m + 1)) (hi : m + 1 < i) (hl : i ≤ l.length) (hlt : l.getD (m + 1) 0 < l.getD m 0) : Srt (swp l m) i m := by
  intro p q hpq hq hqm
  rw [swp_get l m (by omega), swp_get l m (by omega)]
  by_cases e1 : q = m + 1
  · subst e1
    rw [if_neg hqm, if_pos rfl]
    by_cases e2 : p = m
    · subst e2; rw [if_pos rfl]; exact UInt8.le_of_lt hlt
    · rw [if_neg e2, if_neg (by omega)]; exact h p m (by omega) (by omega) (by omega)
  · rw [if_neg hqm, if_neg e1]
    by_cases e2 : p = m
    · subst e2; rw [if_pos rfl]; exact h (p + 1) q (by omega) hq e1
    · rw [if_neg e2]
      by_cases e3 : p = m + 1
      · subst e3; rw [if_pos rfl]; exact h m q (by omega) hq e1
      · rw [if_neg e3]; exact h p q hpq hq e1
theorem srt_done {l : List UInt8} {i j : Nat} (h : Srt l i j) (hj : ∀ m, j = m + 1 → l.getD m 0 ≤ l.getD j 0) : Srt l i i := by
  intro p q hpq hq _
  by_cases e : q = j
  · subst e
    obtain ⟨m, rfl⟩ : ∃ m, q = m + 1 := ⟨q - 1, by omega⟩
    have h1 := hj m rfl
    by_cases e2 : p = m
    · subst e2; exact h1
    · exact UInt8.le_trans (h p m (by omega) (by omega) (by omega)) h1
  · exact h p q hpq hq e
theorem srt_next {l : List UInt8} {i : Nat} (h : Srt l i i) : Srt l (i + 1) i := fun p q hpq hq hne => h p q hpq (by omega) (by omega)
/-- Sorted, as a list. -/
theorem srt_pair {l : List UInt8} {n : Nat} (h : Srt l n n) (hl : l.length = n) : l.Pairwise (· ≤ ·) := by
  rw [List.pairwise_iff_getElem]
  intro i j hi hj hij
  have := h i j hij (by omega) (by omega)
  simpa [List.getD_eq_getElem?_getD, hi, hj] using this

/-! ### The library's functions -/
theorem less_yes (x y : UInt8) (w : World) (h : x < y) : Calls Tryd.prog 46 #[.int .u8 (x.toNat : Int), .int .u8 (y.toNat : Int)] w fun e w' => e = .returned (.bool true) ∧ w' = w := by
  have h' : (x.toNat : Int) < (y.toNat : Int) := by have := UInt8.lt_iff_toNat_lt.1 h; omega
  go_enter Tryd.func46, Tryd.ntmps46
  go_wp2
  go_ret
  exact ⟨by simp, rfl⟩
theorem less_no (x y : UInt8) (w : World) (h : y ≤ x) : Calls Tryd.prog 46 #[.int .u8 (x.toNat : Int), .int .u8 (y.toNat : Int)] w fun e w' => e = .returned (.bool false) ∧ w' = w := by
  have h' : ¬ (x.toNat : Int) < (y.toNat : Int) := by have := UInt8.le_iff_toNat_le.1 h; omega
  go_enter Tryd.func46, Tryd.ntmps46
  go_wp2
  go_ret
  exact ⟨by simp, rfl⟩
/-- The slice's own row holds the signs l. Shut for the walk. -/
def RowB (w : World) (base g n c : Nat) (l : List UInt8) : Prop := w.ownsRow base 5 1 (.slice (some ⟨g, 0, none⟩) n c) n (l.map bv) ∧ l.length = n
theorem RowB.cell {w : World} {base g n c : Nat} {l : List UInt8} (h : RowB w base g n c l) (k : Nat) (hk : k < n) : w.cell? ⟨g, k, none⟩ = some (.int .u8 ((l.getD k 0).toNat : Int)) := by
  rw [h.1.cellAt k (by omega), bv_get l k (by have := h.2; omega)]; rfl
theorem RowB.swp {w : World} {base g n c m : Nat} {l : List UInt8} (h : RowB w base g n c l) (_hm : m + 1 < n) :
    RowB ((w.setCell ⟨g, m + 1, none⟩ (.int .u8 ((l.getD m 0).toNat : Int))).setCell ⟨g, m, none⟩ (.int .u8 ((l.getD (m + 1) 0).toNat : Int))) base g n c (swp l m) := by
  have := ((h.1.stored (m + 1) (bv (l.getD m 0))).1.stored m (bv (l.getD (m + 1) 0))).1
  rw [bv_set, bv_set] at this
  exact ⟨this, by have := h.2; simp [Go.Proofs.YtkcocdlfhgincaaDoor.swp]; exact this⟩

set_option maxHeartbeats 1000000 in
theorem insort_any (base g n c : Nat) (l0 : List UInt8) (w : World) (hn : n ≤ 12) (hg : base ≤ g) (h : RowB w base g n c l0) :
    Calls Tryd.prog 40 #[.slice (some ⟨g, 0, none⟩) n c, .int .i64 0, .int .i64 n] w fun e w' => e = .returned (.tuple #[]) ∧
      ∃ l, l.Perm l0 ∧ l.Pairwise (· ≤ ·) ∧ RowB w' base g n c l ∧ Below base w w' := by
  have H := hid h
  clear h
  go_enter Tryd.func40, Tryd.ntmps40
  go_wp2
  go_loopw [6] (fun x wr => ∃ (i : Nat) (l : List UInt8), 1 ≤ i ∧ i ≤ n + 1 ∧ x = .int .i64 i ∧ Hid (l.Perm l0 ∧ Srt l i i ∧ RowB wr base g n c l) ∧ Below base w wr) (fun x _ => n + 1 - (intOf x).toNat)
  case atStart => exact ⟨1, l0, by omega, by omega, by go_num, hid ⟨List.Perm.refl _, fun p q hpq hq _ => by omega, H.out⟩, Below.refl _ _⟩
  case round =>
    obtain ⟨i, l, hi1, hi2, rfl, HR, hb⟩ := hrel
    by_cases hlt : i < n
    · obtain ⟨wz, hwz⟩ : ∃ z, z = wr := ⟨_, rfl⟩
      subst hwz
      go_wp2
      go_loopw [7] (fun x wr => ∃ (j : Nat) (l : List UInt8), j ≤ i ∧ x = .int .i64 j ∧ Hid (l.Perm l0 ∧ Srt l (i + 1) j ∧ RowB wr base g n c l) ∧ Below base w wr) (fun x _ => (intOf x).toNat)
      case atStart => exact ⟨i, l, Nat.le_refl _, rfl, hid ⟨HR.out.1, srt_next HR.out.2.1, HR.out.2.2⟩, hb⟩
      case round =>
        obtain ⟨j, l, hj, rfl, HR, hb⟩ := hrel
        by_cases h0 : j = 0
        · subst h0
          have HE := hid (show l.Perm l0 ∧ Srt l (i + 1) (i + 1) ∧ RowB wr base g n c l from ⟨HR.out.1, srt_done HR.out.2.1 (fun m hm => by omega), HR.out.2.2⟩)
          clear HR
          go_wp2
          go_quiet (fail)
          go_wp2
          go_roundw
          case rel => exact ⟨i + 1, l, by omega, by omega, by go_num, hid ⟨HE.out.1, HE.out.2.1, ⟨own_drewN HE.out.2.2.1 _, HE.out.2.2.2⟩⟩, below_drewN hb _⟩
          case measure => simp [intOf]; omega
        · obtain ⟨m, rfl⟩ : ∃ m, j = m + 1 := ⟨j - 1, by omega⟩
          clear h0
          have hc1 := HR.out.2.2.cell m (by omega)
          have hc2 := HR.out.2.2.cell (m + 1) (by omega)
          have hf1 := HR.out.2.2.1.frozenAt m
          have hf2 := HR.out.2.2.1.frozenAt (m + 1)
          have hmi : ((m : Int) + 1 - 1) = m := by omega
          by_cases hless : l.getD (m + 1) 0 < l.getD m 0
          · have HL := fun W => hid (less_yes (l.getD (m + 1) 0) (l.getD m 0) W hless)
            have HE := hid (show (swp l m).Perm l0 ∧ Srt (swp l m) (i + 1) m ∧ RowB ((wr.setCell ⟨g, m + 1, none⟩ (.int .u8 ((l.getD m 0).toNat : Int))).setCell ⟨g, m, none⟩ (.int .u8 ((l.getD (m + 1) 0).toNat : Int))) base g n c (swp l m) from
              ⟨(swp_perm l m (by have := HR.out.2.2.2; omega)).trans HR.out.1, srt_swp HR.out.2.1 (by omega) (by have := HR.out.2.2.2; omega) hless, HR.out.2.2.swp (by omega)⟩)
            clear HR hless
            generalize l.getD (m + 1) 0 = x at hc2 HL HE
            generalize l.getD m 0 = y at hc1 HL HE
            go_wp2
            go_quiet ((go_at_call 46; exact Calls.quiet_of_same (HL _).out))
            go_wp2
            go_region
            go_wp2
            go_roundw
            case rel => exact ⟨m, swp l m, by omega, by go_num, hid ⟨HE.out.1, HE.out.2.1, HE.out.2.2⟩, ((below_drewN hb _).setCell (by simpa using hg) _).setCell (by simpa using hg) _⟩
            case measure => simp [intOf]
          · have HL := fun W => hid (less_no (l.getD (m + 1) 0) (l.getD m 0) W (UInt8.not_lt.1 hless))
            have HE := hid (show l.Perm l0 ∧ Srt l (i + 1) (i + 1) ∧ RowB wr base g n c l from ⟨HR.out.1, srt_done HR.out.2.1 (fun k hk => by obtain rfl : k = m := by omega
                                                                                                                                              exact UInt8.not_lt.1 hless), HR.out.2.2⟩)
            clear HR hless
            generalize l.getD (m + 1) 0 = x at hc2 HL
            generalize l.getD m 0 = y at hc1 HL
            go_wp2
            go_quiet ((go_at_call 46; exact Calls.quiet_of_same (HL _).out))
            go_wp2
            go_roundw
            case rel => exact ⟨i + 1, l, by omega, by omega, by go_num, hid ⟨HE.out.1, HE.out.2.1, ⟨own_drewN HE.out.2.2.1 _, HE.out.2.2.2⟩⟩, below_drewN hb _⟩
            case measure => simp [intOf]; omega
    · have HE := hid (show l.Perm l0 ∧ l.Pairwise (· ≤ ·) ∧ RowB wr base g n c l from ⟨HR.out.1, srt_pair (n := n) (fun p q hpq hq _ => HR.out.2.1 p q hpq (by omega) (by omega)) HR.out.2.2.2, HR.out.2.2⟩)
      clear HR
      go_wp2
      go_end0
      exact ⟨rfl, l, HE.out.1, HE.out.2.1, HE.out.2.2, hb⟩
theorem insort_none (A : Option Addr) (c : Nat) (w : World) : Calls Tryd.prog 40 #[.slice A 0 c, .int .i64 0, .int .i64 0] w fun e w' => e = .returned (.tuple #[]) ∧ w' = w := by
  go_enter Tryd.func40, Tryd.ntmps40
  go_wp2
  go_rounds 1
  go_end0
  exact ⟨rfl, rfl⟩
set_option maxHeartbeats 2000000 in
set_option maxRecDepth 100000 in
theorem pdq_few (A : Option Addr) (n c : Nat) (x : Int) (w : World) (hn : n ≤ 12) (R : World → Prop)
    (h : Calls Tryd.prog 40 #[.slice A n c, .int .i64 0, .int .i64 n] w fun e w' => e = .returned (.tuple #[]) ∧ R w') :
    Calls Tryd.prog 38 #[.slice A n c, .int .i64 0, .int .i64 n, .int .i64 x] w fun e w' => e = .returned (.tuple #[]) ∧ R w' := by
  have HC := hid h
  clear h
  go_enter Tryd.func38, Tryd.ntmps38
  go_wp2_with fail
  go_loopw [1, 2] (fun a b wr => a = .int .i64 0 ∧ b = .int .i64 n ∧ wr = w) (fun _ _ _ => 0)
  case atStart => exact ⟨rfl, rfl, rfl⟩
  case round =>
    obtain ⟨rfl, rfl, rfl⟩ := hrel
    go_wp2_with (go_at_call 40; refine HC.out.mono ?_; rintro e w1 ⟨rfl, hr⟩)
    go_wp2_with fail
    refine bodyPost_ret (results_none rfl _ _ _) rfl ?_
    exact ⟨rfl, hr⟩
set_option maxRecDepth 1000000 in
theorem len64_0 (w : World) : Calls Tryd.prog 50 #[.int .u64 0] w fun e w' => (∃ x, e = .returned (.int .i64 x)) ∧ w' = w := by
  go_enter Tryd.func50, Tryd.ntmps50
  go_wp2
  go_ret
  exact ⟨⟨_, rfl⟩, rfl⟩
set_option maxRecDepth 1000000 in
theorem len64_1 (w : World) : Calls Tryd.prog 50 #[.int .u64 1] w fun e w' => (∃ x, e = .returned (.int .i64 x)) ∧ w' = w := by
  go_enter Tryd.func50, Tryd.ntmps50
  go_wp2
  go_ret
  exact ⟨⟨_, rfl⟩, rfl⟩
set_option maxRecDepth 1000000 in
theorem len64_2 (w : World) : Calls Tryd.prog 50 #[.int .u64 2] w fun e w' => (∃ x, e = .returned (.int .i64 x)) ∧ w' = w := by
  go_enter Tryd.func50, Tryd.ntmps50
  go_wp2
  go_ret
  exact ⟨⟨_, rfl⟩, rfl⟩
set_option maxRecDepth 1000000 in
theorem len64_3 (w : World) : Calls Tryd.prog 50 #[.int .u64 3] w fun e w' => (∃ x, e = .returned (.int .i64 x)) ∧ w' = w := by
  go_enter Tryd.func50, Tryd.ntmps50
  go_wp2
  go_ret
  exact ⟨⟨_, rfl⟩, rfl⟩
set_option maxRecDepth 1000000 in
theorem len64_4 (w : World) : Calls Tryd.prog 50 #[.int .u64 4] w fun e w' => (∃ x, e = .returned (.int .i64 x)) ∧ w' = w := by
  go_enter Tryd.func50, Tryd.ntmps50
  go_wp2
  go_ret
  exact ⟨⟨_, rfl⟩, rfl⟩
set_option maxRecDepth 1000000 in
theorem len64_5 (w : World) : Calls Tryd.prog 50 #[.int .u64 5] w fun e w' => (∃ x, e = .returned (.int .i64 x)) ∧ w' = w := by
  go_enter Tryd.func50, Tryd.ntmps50
  go_wp2
  go_ret
  exact ⟨⟨_, rfl⟩, rfl⟩
set_option maxRecDepth 1000000 in
theorem len64_6 (w : World) : Calls Tryd.prog 50 #[.int .u64 6] w fun e w' => (∃ x, e = .returned (.int .i64 x)) ∧ w' = w := by
  go_enter Tryd.func50, Tryd.ntmps50
  go_wp2
  go_ret
  exact ⟨⟨_, rfl⟩, rfl⟩
theorem len64_few (n : Nat) (w : World) (hn : n ≤ 6) : Calls Tryd.prog 50 #[.int .u64 (n : Int)] w fun e w' => (∃ x, e = .returned (.int .i64 x)) ∧ w' = w := by
  have hx : n = 0 ∨ n = 1 ∨ n = 2 ∨ n = 3 ∨ n = 4 ∨ n = 5 ∨ n = 6 := by omega
  rcases hx with rfl | rfl | rfl | rfl | rfl | rfl | rfl
  · exact len64_0 w
  · exact len64_1 w
  · exact len64_2 w
  · exact len64_3 w
  · exact len64_4 w
  · exact len64_5 w
  · exact len64_6 w
theorem len_few (n : Nat) (w : World) (hn : n ≤ 6) : Calls Tryd.prog 39 #[.int .u64 (n : Int)] w fun e w' => (∃ x, e = .returned (.int .i64 x)) ∧ w' = w := by
  have HC := hid (len64_few n w hn)
  go_enter Tryd.func39, Tryd.ntmps39
  go_wp2_with (go_at_call 50; refine HC.out.mono ?_; rintro e w1 ⟨⟨x, rfl⟩, rfl⟩)
  go_ret
  exact ⟨⟨_, rfl⟩, rfl⟩
theorem sort_few (A : Option Addr) (n c : Nat) (w : World) (hn : n ≤ 6) (R : World → Prop)
    (h : Calls Tryd.prog 40 #[.slice A n c, .int .i64 0, .int .i64 n] w fun e w' => e = .returned (.tuple #[]) ∧ R w') :
    Calls Tryd.prog 32 #[.slice A n c] w fun e w' => e = .returned (.tuple #[]) ∧ R w' := by
  have HL := hid (len_few n w hn)
  have HC := fun x => hid (pdq_few A n c x w (by omega) R h)
  clear h
  go_enter Tryd.func32, Tryd.ntmps32
  go_wp2_with (first
    | (go_at_call 39; refine HL.out.mono ?_; rintro e w1 ⟨⟨x, rfl⟩, rfl⟩)
    | (go_at_call 38; refine (HC _).out.mono ?_; rintro e w1 ⟨rfl, hr⟩))
  go_end0
  exact ⟨rfl, hr⟩
/-- slices.Sorted over a node's keys: the keys in their order, each once, in new memory. -/
theorem sorted_any (Bm b nn : Nat) (D : DataW Unit) (w : World) (hBm : Bm < w.heap.size) (hm : w.cell? ⟨Bm, 0, none⟩ = some (.map (some b))) (hown : w.ownsMap Tryd.prog 5 ptrE b nn D)
    (hfew : ∀ cs : List UInt8, cs.Nodup → (∀ c, c ∈ cs → Maps.has D (keyL c) = true) → cs.length ≤ 6) :
    Calls Tryd.prog 25 #[.func (.func 33) #[] #[.pointer (some ⟨Bm, 0, none⟩)]] w fun e w' =>
      ∃ (A : Option Addr) (c : Nat) (cs : List UInt8), e = .returned (.slice A cs.length c) ∧ cs.Nodup ∧ cs.Pairwise (· ≤ ·) ∧ (∀ c, c ∈ cs ↔ Maps.has D (keyL c) = true) ∧ cs.length ≤ 6 ∧
        (0 < cs.length → ∃ g, A = some ⟨g, 0, none⟩ ∧ w.heap.size ≤ g ∧ g < w'.heap.size ∧ ∀ j, j < cs.length → w'.cell? ⟨g, j, none⟩ = some (.int .u8 ((cs.getD j 0).toNat : Int))) ∧ Below w.heap.size w w' := by
  have HC := hid (collect_any Bm b nn D w hBm hm hown)
  have HF := hid hfew
  clear hm hown hBm hfew
  go_enter Tryd.func25, Tryd.ntmps25
  go_wp2_with (go_at_call 31; refine HC.out.mono ?_; rintro e w1 ⟨v, cs, rfl, hS, hrow, hb1⟩)
  have hle := HF.out cs hS.1 fun c hc => (hS.2 c).1 hc
  rcases hrow.2 with ⟨rfl, hz⟩ | ⟨g, cap, cur, rfl, hbase, hgb, r1, r2, r3, r4⟩
  · have hcs : cs = [] := List.eq_nil_of_length_eq_zero hz
    subst hcs
    have HQ := hid (sort_few none 0 0 w1 (by omega) (fun w' => w' = w1) (insort_none none 0 w1))
    clear hrow
    go_wp2_with (go_at_call 32; refine HQ.out.mono ?_; rintro e w2 ⟨rfl, rfl⟩)
    go_ret
    exact ⟨none, 0, [], rfl, List.nodup_nil, List.Pairwise.nil, hS.2, by simp, fun h => by simp at h, hb1⟩
  · have HQ := hid (sort_few (some ⟨g, 0, none⟩) cs.length cap w1 hle (fun w' => ∃ l, l.Perm cs ∧ l.Pairwise (· ≤ ·) ∧ RowB w' w.heap.size g cs.length cap l ∧ Below w.heap.size w1 w') (insort_any w.heap.size g cs.length cap cs w1 (by omega) hbase ⟨hrow, rfl⟩))
    have HS := hid hS
    clear hrow hS hgb r1 r2 r3 r4
    generalize hn : cs.length = n at HQ
    go_wp2_with (go_at_call 32; refine HQ.out.mono ?_; rintro e w2 ⟨rfl, l, hp, hs, hr, hb2⟩)
    go_ret
    have hl : l.length = n := hr.2
    refine ⟨_, cap, l, by rw [hl]; rfl, hp.nodup_iff.2 HS.out.1, hs, fun c => by rw [hp.mem_iff]; exact HS.out.2 c, by omega, fun h0 => ⟨g, rfl, hbase, ?_, fun j hj => hr.cell j (by omega)⟩, hb1.trans hb2⟩
    have := hr.cell 0 (by omega)
    rcases Nat.lt_or_ge g w2.heap.size with h' | h'
    · exact h'
    · simp [World.cell?, Array.getElem?_eq_none h'] at this
end Go.Proofs.YtkcocdlfhgincaaDoor
