/-
  Contracts of huff.Check and huff.single. Conditions of single: at most ten weights, and one.
-/
import Derived.Test.YtjllgehhdhcobaaDoorBase
import Derived.Test.YtjllgehhdhcobaaDoorHst
import Derived.Test.YtjllgehhdhcobaaDoorHdel
namespace Go.Proofs.YtjllgehhdhcobaaDoor
open Go.RowKit

set_option maxHeartbeats 1000000 in
theorem hcheck_any (A : Option Addr) (n c : Nat) (l : List Int) (w : World) (hl : IsInts w w.heap.size A n l) :
    Calls Tryd.prog 6 #[.slice A n c] w fun e w' => ((GoodH l ∧ e = .returned .nilIface) ∨ ∃ k, BadH l k ∧ e = .returned (.iface 36 (.int .i64 k))) ∧ w' = w := by
  have HN := hid hl.1
  have HL := hid hl
  have hlen := hl.1
  by_cases h0 : n = 0
  · have HB : Hid (BadH l 5) := hid (.inl ⟨by omega, rfl⟩)
    subst h0
    clear HN HL hl hlen
    go_enter Tryd.func6, Tryd.ntmps6
    go_wp2_with fail
    go_ret
    exact ⟨.inr ⟨5, HB.out, rfl⟩, rfl⟩
  · by_cases h10 : n ≤ 10
    · clear hl hlen
      have n1 : ¬ ((n : Int) = 0) := by omega
      have n2 : ¬ (10 < (n : Int)) := by omega
      go_enter Tryd.func6, Tryd.ntmps6
      go_wp2_with fail
      go_loopw [15] (fun x wr => ∃ i : Nat, i ≤ n ∧ x = .int .i64 i ∧ Hid (∀ j, j < i → 0 ≤ l.getD j 0 ∧ l.getD j 0 ≤ 1000) ∧ wr = w) (fun x _ => n - (intOf x).toNat)
      case atStart => exact ⟨0, by omega, rfl, hid (fun j hj => absurd hj (by omega)), rfl⟩
      case round =>
        obtain ⟨i, hin, rfl, HO, hw⟩ := hrel
        subst wr
        by_cases hlt : i < n
        · obtain ⟨g, off, rfl, hg, hc⟩ := HL.out.2 (by omega)
          have c1 := hc i hlt
          clear hc
          by_cases hr : 0 ≤ l.getD i 0 ∧ l.getD i 0 ≤ 1000
          · have HO2 : Hid (∀ j, j < i + 1 → 0 ≤ l.getD j 0 ∧ l.getD j 0 ≤ 1000) := hid (fun j hj => by
              rcases Nat.lt_or_ge j i with h | h
              · exact HO.out j h
              · obtain rfl : j = i := by omega
                exact hr)
            generalize l.getD i 0 = X at c1 hr
            have r1 : ¬ (X < 0) := by omega
            have r2 : ¬ (1000 < X) := by omega
            clear hr HO
            go_wp2_with fail
            go_roundw
            case rel => exact ⟨i + 1, by omega, by go_num, HO2, by first | rfl | trivial⟩
            case measure => simp [intOf]; omega
          · have HB : Hid (BadH l 1) := hid (.inr (.inr ⟨by have := HN.out; omega, by have := HN.out; omega, ⟨i, by have := HN.out; omega, hr⟩, rfl⟩))
            generalize l.getD i 0 = X at c1 hr
            have hX : X < 0 ∨ (¬ X < 0 ∧ 1000 < X) := by omega
            clear hr HO
            rcases hX with r1 | ⟨r1, r2⟩
            · go_wp2_with fail
              go_ret
              exact ⟨.inr ⟨1, HB.out, rfl⟩, by first | rfl | trivial⟩
            · go_wp2_with fail
              go_ret
              exact ⟨.inr ⟨1, HB.out, rfl⟩, by first | rfl | trivial⟩
        · obtain rfl : i = n := by omega
          have HG : Hid (GoodH l) := hid (goodH_of (by have := HN.out; omega) (by have := HN.out; omega) (fun j hj => HO.out j (by have := HN.out; omega)))
          clear HO
          go_wp2_with fail
          go_ret
          exact ⟨.inl ⟨HG.out, rfl⟩, by first | rfl | trivial⟩
    · have HB : Hid (BadH l 4) := hid (.inr (.inl ⟨by omega, rfl⟩))
      have n1 : ¬ ((n : Int) = 0) := by omega
      have n2 : 10 < (n : Int) := by omega
      clear HN HL hl hlen
      go_enter Tryd.func6, Tryd.ntmps6
      go_wp2_with fail
      go_ret
      exact ⟨.inr ⟨4, HB.out, rfl⟩, rfl⟩

/-- The heaps as they are made, up to place i. -/
structure Sg (w wr : World) (T n : Nat) (l : List Int) (i : Nat) (ts : List Tr) : Prop where
  len : ts.length = i
  map : ts.map hp = heaps l i
  at_ : TreesAt wr T 46 n ts
  leaf : Leaves wr (fun b => b = T) ts
  new : ∀ t ∈ ts, w.heap.size ≤ t.2.1.1

set_option maxRecDepth 100000 in
set_option maxHeartbeats 1000000 in
theorem single_any (A : Option Addr) (n c : Nat) (l : List Int) (w : World) (hl : IsInts w w.heap.size A n l) (h0 : 0 < n) (h10 : n ≤ 10) :
    Calls Tryd.prog 15 #[.slice A n c] w fun e w' => ∃ (T : Nat) (ts : List Tr), e = .returned (.slice (some ⟨T, 0, none⟩) n n) ∧ w.heap.size ≤ T ∧ Sg w w' T n l n ts ∧ Below w.heap.size w w' := by
  obtain ⟨i0, hi, hz0, hz1, hz2⟩ := info_parts tree_info
  obtain ⟨g, off, rfl, hg, hc⟩ := hl.2 h0
  have HC := hid hc
  clear hl hc
  go_enter Tryd.func15, Tryd.ntmps15
  go_wp2_with (at_make; refine wpList_make_full _ rfl _ _ 43 rfl w.heap.size 46 i0 (.agg #[.int .i64 0, .slice none 0 0]) 2 Tryd.underlying43 hi hz0 hz1 _ _ _ _ n rfl rfl rfl rfl (by rw [hz2]; omega) (by unfold maxLen; omega) (Nat.le_refl _) ?_)
  intro w1 hown hgr
  have hb1 : Below w.heap.size w w1 := (Below.refl _ _).grown hgr (Nat.le_refl _) (by intro k hk; cases hk)
  have hT := (TreesAt.made hown).1
  have HS : Hid (Sg w w1 w.heap.size n l 0 []) := hid ⟨rfl, rfl, hT, (fun t ht => absurd ht (by simp)), (fun t ht => absurd ht (by simp))⟩
  have hTlt := hT.lt
  clear hown hgr hT
  obtain ⟨T, hTe⟩ : ∃ T, T = w.heap.size := ⟨_, rfl⟩
  have HT := hid (show w.heap.size ≤ T by omega)
  rw [← hTe] at HS hTlt
  rw [show (.slice (some ⟨w.heap.size, 0, none⟩) n n : Value) = .slice (some ⟨T, 0, none⟩) n n by rw [hTe]]
  have hgT : g ≠ T := by omega
  clear hTe
  go_wp2_with fail
  go_loopw [11] (fun x wr => ∃ i : Nat, i ≤ n ∧ x = .int .i64 i ∧ Hid (∃ ts, Sg w wr T n l i ts) ∧ Below w.heap.size w wr) (fun x _ => n - (intOf x).toNat)
  case atStart => exact ⟨0, by omega, rfl, hid ⟨_, HS.out⟩, hb1⟩
  case round =>
    clear HS hb1 hTlt
    obtain ⟨i, hin, rfl, HO, hb⟩ := hrel
    obtain ⟨ts, hS⟩ := HO.out
    clear HO
    by_cases hlt : i < n
    · have c1 := (hb.cell (p := ⟨g, off + i, none⟩) hg).trans (HC.out i hlt)
      have hTr : T < wr.heap.size := hS.at_.lt
      have hgr : g < wr.heap.size := by have := hb.size; omega
      obtain ⟨m1, m2, m3, hO⟩ := hS.at_.more hS.len hlt (l.getD i 0, (wr.heap.size, 1), [i])
      have f0 := m2 (i * 2)
      have f1 := m2 (i * 2 + 1)
      obtain ⟨u0, u0e⟩ := Option.isSome_iff_exists.1 (m1 0 (by omega))
      obtain ⟨u1, u1e⟩ := Option.isSome_iff_exists.1 (m1 1 (by omega))
      rw [Nat.add_zero] at u0e
      have e0 : sv (l.getD i 0, (wr.heap.size, 1), [i]) = .slice (some ⟨wr.heap.size, 0, none⟩) 1 1 := rfl
      rw [e0] at m3 hO
      have HN : Hid (Sg w (((wr.setCell ⟨T, i * 2, none⟩ (.int .i64 (l.getD i 0))).setCell ⟨T, i * 2 + 1, none⟩ (.slice (some ⟨wr.heap.size, 0, none⟩) 1 1)).alloc (.cells #[.int .i64 (i : Int)] 3)) T n l (i + 1) (ts ++ [(l.getD i 0, (wr.heap.size, 1), [i])])) := by
        have hA := Chg.alloc (fun b => b = T) ((wr.setCell ⟨T, i * 2, none⟩ (.int .i64 (l.getD i 0))).setCell ⟨T, i * 2 + 1, none⟩ (.slice (some ⟨wr.heap.size, 0, none⟩) 1 1)) (.cells #[.int .i64 (i : Int)] 3)
        have hOc := Chg.of_only (S := fun b => b = T) hO rfl
        have hnew := BlkAt.new ((wr.setCell ⟨T, i * 2, none⟩ (.int .i64 (l.getD i 0))).setCell ⟨T, i * 2 + 1, none⟩ (.slice (some ⟨wr.heap.size, 0, none⟩) 1 1)) 3 [.int .i64 (i : Int)] wr.heap.size hO.size
        refine ⟨by rw [List.length_append, hS.len]; rfl, by rw [List.map_append, hS.map, heaps_succ]; rfl, m3.below ((Below.refl _ _).alloc (Nat.le_refl _) _) (Nat.le_refl _), (hS.leaf.chg (hOc.trans hA)).snoc ⟨by simp, by simp, ?_, hnew.lt, ?_⟩, ?_⟩
        · show ¬ wr.heap.size = T
          omega
        · intro j hj
          obtain rfl : j = 0 := by simpa using hj
          exact hnew.cell rfl
        · intro t ht
          rcases List.mem_append.1 ht with ht | ht
          · exact hS.new t ht
          · obtain rfl : t = _ := by simpa using ht
            exact hb.size
      have HB : Hid (Below w.heap.size w (((wr.setCell ⟨T, i * 2, none⟩ (.int .i64 (l.getD i 0))).setCell ⟨T, i * 2 + 1, none⟩ (.slice (some ⟨wr.heap.size, 0, none⟩) 1 1)).alloc (.cells #[.int .i64 (i : Int)] 3))) :=
        hid ((hb.trans (hO.below HT.out)).alloc (by have := hb.size; have := hO.size; omega) _)
      clear hS m1 m2 m3 hO
      generalize l.getD i 0 = X at c1 HN HB
      go_wp2_with fail
      go_roundw
      case rel => exact ⟨i + 1, by omega, by go_num, hid ⟨_, HN.out⟩, HB.out⟩
      case measure => simp [intOf]; omega
    · obtain rfl : i = n := by omega
      have HS := hid hS
      clear hS
      go_wp2_with fail
      go_ret
      exact ⟨T, ts, rfl, HT.out, HS.out, hb⟩
end Go.Proofs.YtjllgehhdhcobaaDoor
