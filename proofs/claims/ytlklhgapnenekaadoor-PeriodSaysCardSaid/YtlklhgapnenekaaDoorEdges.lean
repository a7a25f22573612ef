/-
  Contracts of package edges: slices.Reverse and All answer the borders of the document, in new memory, and leave the old one alone. Conditions: none but the sizes that a row itself sets.
-/
import Derived.Test.YtlklhgapnenekaaDoorEdgeOf
namespace Go.Proofs.YtlklhgapnenekaaDoor
open Go.RowKit

/-- A row after k exchanges of its ends. -/
def revF (n : Nat) (f : Nat → Int) (k j : Nat) : Int := if j < k ∨ n - 1 - j < k then f (n - 1 - j) else f j

theorem rev_step {n k m : Nat} {f : Nat → Int} {x y : Int} (hk : k < n) (hlt : 2 * k + 1 < n) (hm : m = n - 1 - k) (hx : f k = x) (hy : f m = y) :
    rowF n (fun j => if j = m then x else if j = k then y else revF n f k j) = rowF n (revF n f (k + 1)) :=
  rowF_congr fun j hj => by
    unfold revF
    by_cases h1 : j = m
    · rw [if_pos h1, if_pos (by omega), ← hx]; congr 1; omega
    · rw [if_neg h1]
      by_cases h2 : j = k
      · rw [if_pos h2, if_pos (by omega), ← hy]; congr 1; omega
      · rw [if_neg h2]
        by_cases h3 : j < k ∨ n - 1 - j < k
        · rw [if_pos h3, if_pos (by omega)]
        · rw [if_neg h3, if_neg (by omega)]
theorem rev_end {n k : Nat} {f : Nat → Int} (hk : 2 * k ≤ n + 1) (hlt : ¬ 2 * k + 1 < n) : rowF n (revF n f k) = rowF n fun j => f (n - 1 - j) :=
  rowF_congr fun j hj => by
    unfold revF
    by_cases h : j < k ∨ n - 1 - j < k
    · rw [if_pos h]
    · rw [if_neg h]; congr 1; omega

set_option maxHeartbeats 400000 in
theorem reverse_any (base g n c : Nat) (f : Nat → Int) (w : World) (hn : n ≤ 24) (hg : base ≤ g) (h : w.ownsRow base 3 1 (.slice (some ⟨g, 0, none⟩) n c) n (rowF n f)) :
    Calls Tryd.prog 15 #[.slice (some ⟨g, 0, none⟩) n c] w fun e w' => e = .returned (.tuple #[]) ∧
      w'.ownsRow base 3 1 (.slice (some ⟨g, 0, none⟩) n c) n (rowF n fun j => f (n - 1 - j)) ∧ Below base w w' := by
  have H := hid h
  clear h
  go_enter Tryd.func15, Tryd.ntmps15
  go_wp2
  go_loopw [2, 3] (fun i j wr => ∃ k : Nat, 2 * k ≤ n + 1 ∧ i = .int .i64 k ∧ j = .int .i64 ((n : Int) - 1 - k) ∧ Hid (wr.ownsRow base 3 1 (.slice (some ⟨g, 0, none⟩) n c) n (rowF n (revF n f k))) ∧ Below base w wr) (fun i _ _ => n - (intOf i).toNat)
  case atStart => exact ⟨0, by omega, rfl, by go_num, hid (by rw [rowF_congr (g := f) (fun j _ => by simp [revF])]; exact H.out), Below.refl _ _⟩
  case round =>
    obtain ⟨k, hk, rfl, rfl, HO, hb⟩ := hrel
    by_cases hlt : 2 * k + 1 < n
    · have hc1 : wr.cell? ⟨g, k, none⟩ = some (.int .i64 (f k)) := by
        rw [HO.out.cellAt k (by omega), rowF_get _ _ _ (by omega)]; simp [revF, show ¬ (n - 1 - k < k) by omega]
      have hc2 : wr.cell? ⟨g, n - 1 - k, none⟩ = some (.int .i64 (f (n - 1 - k))) := by
        rw [HO.out.cellAt _ (by omega), rowF_get _ _ _ (by omega)]; simp [revF, show ¬ (n - 1 - k < k) by omega, show ¬ (n - 1 - (n - 1 - k) < k) by omega]
      have hf1 := HO.out.frozenAt k
      have hf2 := HO.out.frozenAt (n - 1 - k)
      obtain ⟨m, hm⟩ : ∃ m : Nat, m = n - 1 - k := ⟨_, rfl⟩
      have hm2 : ((n : Int) - 1 - k) = (m : Int) := by omega
      have hkm : k < m := by omega
      have hmn : m < n := by omega
      rw [← hm] at hc2 hf2
      rw [hm2]
      have HM := hid hm
      clear hm hm2
      generalize hx : f k = x at hc1
      generalize hy : f m = y at hc2
      have hst := ((HO.out.stored k (.int .i64 y)).1.stored m (.int .i64 x)).1
      rw [rowF_set, rowF_set, rev_step (by omega) hlt HM.out hx hy] at hst
      have HST := hid hst
      clear hst hx hy HO
      go_wp2
      go_region
      go_wp2
      go_roundw
      case rel =>
        have hm := HM.out
        exact ⟨k + 1, by omega, by go_num, by go_num, HST, ((hb.setCell (by simpa using hg) _).setCell (by simpa using hg) _).drew⟩
      case measure => simp [intOf]; omega
    · go_wp2
      go_end0
      exact ⟨rfl, by rw [← rev_end hk hlt]; exact HO.out, hb⟩
theorem reverse_nil (w : World) : Calls Tryd.prog 15 #[.slice none 0 0] w fun e w' => e = .returned (.tuple #[]) ∧ w' = w := by
  go_enter Tryd.func15, Tryd.ntmps15
  go_wp2
  go_rounds 1
  go_end0
  exact ⟨rfl, rfl⟩

theorem reverse_list (base : Nat) (v : Value) (xs : List Int) (w : World) (hn : xs.length ≤ 24) (h : OwnI w base 3 v xs) :
    Calls Tryd.prog 15 #[v] w fun e w' => e = .returned (.tuple #[]) ∧ OwnI w' base 3 v xs.reverse ∧ Below base w w' := by
  rcases h.2 with ⟨rfl, h0⟩ | ⟨g, cap, cur, rfl, hg, _⟩
  · have hx : xs = [] := List.eq_nil_of_length_eq_zero h0
    subst hx
    exact (reverse_nil w).mono fun e w' ⟨he, hw⟩ => ⟨he, by rw [hw]; exact h, by rw [hw]; exact Below.refl _ _⟩
  · unfold OwnI at h
    rw [rowF_of_list] at h
    refine (reverse_any base g xs.length cap _ w hn hg h).mono fun e w' ⟨he, ho, hb⟩ => ⟨he, ?_, hb⟩
    unfold OwnI
    rw [← rowF_rev, List.length_reverse]; exact ho

theorem all_long (s : ByteArray) (w : World) (h : 24 < s.size) (hs : s.size ≤ maxLen) :
    Calls Tryd.prog 11 #[.string s] w fun e w' => e = .returned (.tuple #[.slice none 0 0, .iface 34 (.int .i64 4)]) ∧ w' = w := by
  have hq := of_long s w h hs
  have HQ := hid hq
  clear hq
  unfold maxLen at hs
  go_enter Tryd.func11, Tryd.ntmps11
  go_wp2_with fail
  refine HQ.out.mono ?_
  rintro e w' ⟨rfl, rfl⟩
  go_wp2
  go_ret2
  exact ⟨rfl, rfl⟩

set_option maxHeartbeats 800000 in
theorem all_any (s : ByteArray) (w : World) (h : s.size ≤ 24) :
    Calls Tryd.prog 11 #[.string s] w fun e w' => ∃ v, e = .returned (.tuple #[v, .nilIface]) ∧
      OwnI w' w.heap.size 3 v (allL s) ∧ Below w.heap.size w w' := by
  obtain ⟨i0, hi, hz0, hz1, hz2⟩ := info_parts int_info
  have HQ := hid (of_any s w h)
  by_cases h0 : s.size = 0
  · have HE : Hid (allL s = []) := hid (by simp [allL, h0, eds])
    have h0' : ((s.size : Int) == 0) = true := by simp [h0]
    clear h0
    go_enter Tryd.func11, Tryd.ntmps11
    go_wp2_with fail
    refine HQ.out.mono ?_
    rintro e w1 ⟨rfl, hown, hb⟩
    go_wp2
    go_ret2
    exact ⟨_, rfl, by rw [HE.out]; exact OwnI.nil _ _ _, hb⟩
  · have h0' : ((s.size : Int) == 0) = false := beq_eq_false_iff_ne.2 (by omega)
    go_enter Tryd.func11, Tryd.ntmps11
    go_wp2_with fail
    refine HQ.out.mono ?_
    rintro e w1 ⟨rfl, hown, hb⟩
    have hsz : w.heap.size < w1.heap.size := (World.ownsRow.lt hown w.heap.size rfl).2
    have HC : Hid (∀ j, j < s.size → w1.cell? ⟨w.heap.size, j, none⟩ = some (.int .i64 (lon (sg s) (j + 1) : Nat))) := hid (by
      intro j hj
      unfold OwnI at hown
      rw [ofL_len] at hown
      rw [hown.cellAt j (by omega)]; simp [ofL, hj])
    have hc0 := HC.out (s.size - 1) (by omega)
    rw [show s.size - 1 + 1 = s.size by omega] at hc0
    have hl0 := lon_lt (f := sg s) (m := s.size) (by omega)
    have HG := hid (got_start (sg s) s.size)
    generalize lon (sg s) s.size = l0 at hc0 hl0 HG
    clear hown HQ
    go_wp2
    go_loopw [6, 7] (fun v t wr => ∃ (l : Nat) (cs : List Int), l < s.size ∧ t = .int .i64 l ∧ Hid (Got (sg s) s.size l cs) ∧ OwnI wr (w.heap.size + 1) 3 v cs ∧ Below (w.heap.size + 1) w1 wr) (fun _ t _ => (intOf t).toNat)
    case atStart => exact ⟨l0, [], hl0, rfl, HG, OwnI.nil _ _ _, Below.refl _ _⟩
    case round =>
      obtain ⟨l, cs, hl, rfl, HG, HO, hbw⟩ := hrel
      clear hc0 hl0
      have hlen := got_len HG.out
      have hsz2 := hbw.size
      by_cases hl0 : l = 0
      · subst hl0
        have HE := hid (got_end HG.out)
        have HR := hid (reverse_list _ _ cs wr (by omega) HO)
        go_wp2_with fail
        refine HR.out.mono ?_
        rintro e w2 ⟨rfl, hown, hb2⟩
        go_wp2
        go_ret2
        refine ⟨_, rfl, ?_, ?_⟩
        · have hx := HE.out
          rw [hx] at hown
          exact hown.base (by omega)
        · exact hb.trans ((hbw.trans hb2).mono (by omega))
      · have hpos : 0 < l := by omega
        have hcell : wr.cell? ⟨w.heap.size, l - 1, none⟩ = some (.int .i64 (lon (sg s) l : Nat)) := by
          rw [hbw.cell (by simp)]
          have := HC.out (l - 1) (by omega)
          rwa [show l - 1 + 1 = l by omega] at this
        have hll := lon_lt (f := sg s) hpos
        have HG2 := hid (got_step HG.out hpos)
        generalize lon (sg s) l = l' at hcell hll HG2
        clear hl0 HG
        go_wp2_with (at_builtin; refine wpList_append_int _ rfl (.tmp 32) (.tmp 34) 23 rfl (w.heap.size + 1) 3 i0 Tryd.underlying23 hi hz0 hz1 hz2 _ cs rfl HO (l : Int) rfl (by omega) (by omega) ?_)
        intro v' w2 hown2 hb2
        have hcell2 : w2.cell? ⟨w.heap.size, l - 1, none⟩ = some (.int .i64 (l' : Nat)) := by rw [hb2.cell (by simp)]; exact hcell
        clear hcell HO
        go_wp2
        go_roundw
        case rel => exact ⟨l', cs ++ [(l : Int)], by omega, rfl, HG2, hown2, hbw.trans hb2⟩
        case measure => simp [intOf]; omega
end Go.Proofs.YtlklhgapnenekaaDoor
