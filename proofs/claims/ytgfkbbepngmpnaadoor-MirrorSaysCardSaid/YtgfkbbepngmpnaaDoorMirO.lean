/-
  Contracts of package mirror: Odd and Even answer how many palindromes have each place in their middle, in new memory, and Longest the longest one; the old memory is left alone. Conditions: none but the sizes that a row itself sets.
-/
import Derived.Test.YtgfkbbepngmpnaaDoorMir
namespace Go.Proofs.YtgfkbbepngmpnaaDoor
open Go.RowKit

/-- A table of counts, filled up to k. -/
def cntF (c : Nat → Nat) (k j : Nat) : Int := if j < k then ((c j : Nat) : Int) else 0
theorem cnt_start (c : Nat → Nat) (n : Nat) : rowF n (fun _ => 0) = rowF n (cntF c 0) := rowF_congr fun j _ => by simp [cntF]
theorem cnt_step (c : Nat → Nat) (n k : Nat) : rowF n (fun j => if j = k then ((c k : Nat) : Int) else cntF c k j) = rowF n (cntF c (k + 1)) :=
  rowF_congr fun j _ => by
    unfold cntF
    by_cases h : j = k
    · subst h; simp
    · by_cases h' : j < k
      · simp [h, h', show j < k + 1 by omega]
      · simp [h, h', show ¬ j < k + 1 by omega]
theorem cnt_end {c : Nat → Nat} {n k : Nat} (h : ¬ k < n) : rowF n (cntF c k) = rowF n (cntF c n) :=
  rowF_congr fun j hj => by simp [cntF, hj, show j < k by omega]
theorem cnt_row {c : Nat → Nat} {n base : Nat} {e : TypeId} {v : Value} {w : World} (h : w.ownsRow base e 1 v n (rowF n (cntF c n))) : OwnI w base e v ((List.range n).map fun i => ((c i : Nat) : Int)) := by
  unfold OwnI
  have he : rowF n (cntF c n) = ((List.range n).map fun i => ((c i : Nat) : Int)).map (Value.int .i64) := by
    rw [rowF_of_list]
    simp only [List.length_map, List.length_range]
    exact rowF_congr fun j hj => by simp [cntF, hj, List.getD_eq_getElem?_getD]
  rw [← he, List.length_map, List.length_range]; exact h
theorem own_n {w : World} {base n : Nat} {e : TypeId} {v : Value} {xs : List Int} (h : OwnI w base e v xs) (hn : xs.length = n) : ∃ A c, v = .slice A n c ∧ IsInts w w.heap.size A n xs := by
  subst hn
  obtain ⟨A, c, h1, _, h2⟩ := IsInts.of_own h
  exact ⟨A, c, h1, h2⟩
/-- What reads as a list does so where all that lay there is kept. -/
theorem IsInts.up {w w' : World} {A : Option Addr} {n : Nat} {xs : List Int} (h : IsInts w w.heap.size A n xs) (hb : Below w.heap.size w w') : IsInts w' w'.heap.size A n xs :=
  (h.below hb).keep hb.size fun _ _ _ => rfl
theorem Below.on {B : Nat} {a b c : World} (h : Below B a b) (h' : Below b.heap.size b c) (hB : B ≤ a.heap.size) : Below B a c := h.trans (h'.mono (Nat.le_trans hB h.size))

set_option maxHeartbeats 400000 in
theorem odd_long (s : ByteArray) (w : World) (h : 24 < s.size) (hs : s.size ≤ maxLen) :
    Calls Tryd.prog 7 #[.string s] w fun e w' => e = .returned (.tuple #[.slice none 0 0, .iface 40 (.int .i64 4)]) ∧ Below w.heap.size w w' := by
  have HQ := hid (measure_long s w h hs)
  unfold maxLen at hs
  go_enter Tryd.func7, Tryd.ntmps7
  go_wp2_with fail
  refine HQ.out.mono ?_
  rintro e w1 ⟨rfl, hb1⟩
  have hs1 := hb1.size
  clear HQ
  go_wp2_with (refine wpList_alloc_arr rfl 37 rfl 49 wz ?_)
  intro w2 hA2 hb2 _
  go_wp2_with (refine wpList_store_arr rfl 37 _ _ rfl 49 w1.heap.size _ _ rfl rfl hA2 wi ?_)
  intro w3 hA3 hb3 _ _
  clear hA2 hA3
  go_wp2
  go_ret2
  exact ⟨rfl, hb1.trans ((hb2.trans hb3).mono hs1)⟩

set_option maxHeartbeats 800000 in
theorem odd_any (s : ByteArray) (w : World) (h : s.size ≤ 24) :
    Calls Tryd.prog 7 #[.string s] w fun e w' => ∃ v, e = .returned (.tuple #[v, .nilIface]) ∧ OwnI w' w.heap.size 3 v (oddL (sg s) s.size s.size) ∧ Below w.heap.size w w' := by
  obtain ⟨i0, hi, hz0, hz1, hz2⟩ := info_parts int_info
  have HQ := hid (measure_any s w h)
  go_enter Tryd.func7, Tryd.ntmps7
  go_wp2_with fail
  refine HQ.out.mono ?_
  rintro e w1 ⟨rfl, hb1⟩
  have hs1 := hb1.size
  clear HQ
  go_wp2_with (refine wpList_alloc_arr rfl 37 rfl 49 wz ?_)
  intro w2 hA2 hb2 hs2
  go_wp2_with (refine wpList_store_arr rfl 37 _ _ rfl 49 w1.heap.size _ _ rfl rfl hA2 wi ?_)
  intro w3 hA3 hc3 _ es3
  have HA0 := hid hA3
  have hb3 := hb1.trans ((hb2.trans hc3).mono hs1)
  have hs3 : w1.heap.size < w3.heap.size := by omega
  clear hA2 hA3 hs2 hb1 hb2 es3 hc3
  generalize w1.heap.size = g at hs1 hs3 HA0 ⊢
  go_wp2_with (at_make; refine wpList_make_full _ rfl _ _ 23 rfl w3.heap.size 3 i0 (.int .i64 0) 1 Tryd.underlying23 hi hz0 hz1 _ _ _ _ s.size rfl rfl rfl rfl (by rw [hz2]; omega) (by unfold maxLen; omega) (Nat.le_refl _) ?_)
  intro w4 hown hgrow
  rw [rowF_made, cnt_start (oddN (sg s) s.size)] at hown
  have hc4 : Below w3.heap.size w3 w4 := (Below.refl _ _).grown hgrow (Nat.le_refl _) (by simp)
  have HA := hid (HA0.out.below hc4 hs3)
  have hb4 := hb3.trans (hc4.mono (by omega))
  have hgb : w.heap.size ≤ w3.heap.size := by omega
  have HO := hid hown
  clear hgrow hi hz0 hz1 hz2 hown hb3 hc4 HA0
  generalize w3.heap.size = b at hs3 HO hgb ⊢
  go_wp2
  go_loopw [21] (fun c wr => ∃ k : Nat, c = .int .i64 k ∧ k ≤ s.size ∧ Hid (Arr wr g 37 49 (tabF s 49)) ∧ Hid (wr.ownsRow b 3 1 (.slice (some ⟨b, 0, none⟩) s.size s.size) s.size (rowF s.size (cntF (oddN (sg s) s.size) k))) ∧ Below w.heap.size w wr) (fun c _ => s.size - (intOf c).toNat)
  case atStart => exact ⟨0, rfl, by omega, HA, HO, hb4⟩
  case round =>
    clear HA HO hb4
    obtain ⟨k, rfl, hk, HA, HO, hb⟩ := hrel
    by_cases hlt : k < s.size
    · have hold := HO.out.cellAt k (by omega)
      rw [rowF_get _ _ _ hlt] at hold
      have hfr := HO.out.frozenAt k
      have hst := HO.out.stored k (.int .i64 (oddN (sg s) s.size k : Nat))
      rw [rowF_set, cnt_step] at hst
      have HN := hid hst.1
      have hx := HA.out.cell (2 * k + 1) (by omega)
      rw [tab_in (by omega) (by omega)] at hx
      have hwz := wid_le (sg s) (n := s.size) (c := 2 * k + 1) (by omega)
      have hq : ((wid (sg s) s.size (2 * k + 1) : Nat) + 1 : Int) / 2 = ((oddN (sg s) s.size k : Nat) : Int) := by unfold oddN; omega
      have HAn : Hid (Arr (wr.setCell ⟨b, k, none⟩ (.int .i64 (oddN (sg s) s.size k : Nat))) g 37 49 (tabF s 49)) := hid (HA.out.keeps (heap_setCell_other _ _ _ _ (by simp; omega)))
      have hbn : Below w.heap.size w (wr.setCell ⟨b, k, none⟩ (.int .i64 (oddN (sg s) s.size k : Nat))) := hb.setCell (by simp; omega) _
      generalize wid (sg s) s.size (2 * k + 1) = z at hwz hx hq
      generalize hcz : oddN (sg s) s.size k = o at HN HAn hbn hq
      have g1 : (2 * (k : Int) + 1).toNat = 2 * k + 1 := by omega
      have g2 : (0 : Int) ≤ 2 * (k : Int) + 1 := by omega
      have g3 : 2 * (k : Int) + 1 < 49 := by omega
      clear hst HA HO hcz hb
      go_wp2
      go_roundw
      case rel => exact ⟨k + 1, by go_num, by omega, HAn, HN, hbn⟩
      case measure => simp [intOf]; omega
    · have HF := HO.out
      rw [cnt_end hlt] at HF
      have HF := hid HF
      clear HO HA
      go_wp2
      go_ret2
      exact ⟨_, rfl, (cnt_row HF.out).base hgb, hb⟩

set_option maxHeartbeats 400000 in
theorem even_long (s : ByteArray) (w : World) (h : 24 < s.size) (hs : s.size ≤ maxLen) :
    Calls Tryd.prog 10 #[.string s] w fun e w' => e = .returned (.tuple #[.slice none 0 0, .iface 40 (.int .i64 4)]) ∧ Below w.heap.size w w' := by
  have HQ := hid (measure_long s w h hs)
  unfold maxLen at hs
  go_enter Tryd.func10, Tryd.ntmps10
  go_wp2_with fail
  refine HQ.out.mono ?_
  rintro e w1 ⟨rfl, hb1⟩
  have hs1 := hb1.size
  clear HQ
  go_wp2_with (refine wpList_alloc_arr rfl 37 rfl 49 wz ?_)
  intro w2 hA2 hb2 _
  go_wp2_with (refine wpList_store_arr rfl 37 _ _ rfl 49 w1.heap.size _ _ rfl rfl hA2 wi ?_)
  intro w3 hA3 hb3 _ _
  clear hA2 hA3
  go_wp2
  go_ret2
  exact ⟨rfl, hb1.trans ((hb2.trans hb3).mono hs1)⟩

set_option maxHeartbeats 800000 in
theorem even_any (s : ByteArray) (w : World) (h : s.size ≤ 24) :
    Calls Tryd.prog 10 #[.string s] w fun e w' => ∃ v, e = .returned (.tuple #[v, .nilIface]) ∧ OwnI w' w.heap.size 3 v (evenL (sg s) s.size s.size) ∧ Below w.heap.size w w' := by
  obtain ⟨i0, hi, hz0, hz1, hz2⟩ := info_parts int_info
  have HQ := hid (measure_any s w h)
  go_enter Tryd.func10, Tryd.ntmps10
  go_wp2_with fail
  refine HQ.out.mono ?_
  rintro e w1 ⟨rfl, hb1⟩
  have hs1 := hb1.size
  clear HQ
  go_wp2_with (refine wpList_alloc_arr rfl 37 rfl 49 wz ?_)
  intro w2 hA2 hb2 hs2
  go_wp2_with (refine wpList_store_arr rfl 37 _ _ rfl 49 w1.heap.size _ _ rfl rfl hA2 wi ?_)
  intro w3 hA3 hc3 _ es3
  have HA0 := hid hA3
  have hb3 := hb1.trans ((hb2.trans hc3).mono hs1)
  have hs3 : w1.heap.size < w3.heap.size := by omega
  clear hA2 hA3 hs2 hb1 hb2 es3 hc3
  generalize w1.heap.size = g at hs1 hs3 HA0 ⊢
  go_wp2_with (at_make; refine wpList_make_full _ rfl _ _ 23 rfl w3.heap.size 3 i0 (.int .i64 0) 1 Tryd.underlying23 hi hz0 hz1 _ _ _ _ s.size rfl rfl rfl rfl (by rw [hz2]; omega) (by unfold maxLen; omega) (Nat.le_refl _) ?_)
  intro w4 hown hgrow
  rw [rowF_made, cnt_start (evenN (sg s) s.size)] at hown
  have hc4 : Below w3.heap.size w3 w4 := (Below.refl _ _).grown hgrow (Nat.le_refl _) (by simp)
  have HA := hid (HA0.out.below hc4 hs3)
  have hb4 := hb3.trans (hc4.mono (by omega))
  have hgb : w.heap.size ≤ w3.heap.size := by omega
  have HO := hid hown
  clear hgrow hi hz0 hz1 hz2 hown hb3 hc4 HA0
  generalize w3.heap.size = b at hs3 HO hgb ⊢
  go_wp2
  go_loopw [21] (fun c wr => ∃ k : Nat, c = .int .i64 k ∧ k ≤ s.size ∧ Hid (Arr wr g 37 49 (tabF s 49)) ∧ Hid (wr.ownsRow b 3 1 (.slice (some ⟨b, 0, none⟩) s.size s.size) s.size (rowF s.size (cntF (evenN (sg s) s.size) k))) ∧ Below w.heap.size w wr) (fun c _ => s.size - (intOf c).toNat)
  case atStart => exact ⟨0, rfl, by omega, HA, HO, hb4⟩
  case round =>
    clear HA HO hb4
    obtain ⟨k, rfl, hk, HA, HO, hb⟩ := hrel
    by_cases hlt : k < s.size
    · have hold := HO.out.cellAt k (by omega)
      rw [rowF_get _ _ _ hlt] at hold
      have hfr := HO.out.frozenAt k
      have hst := HO.out.stored k (.int .i64 (evenN (sg s) s.size k : Nat))
      rw [rowF_set, cnt_step] at hst
      have HN := hid hst.1
      have hx := HA.out.cell (2 * k) (by omega)
      rw [tab_in (by omega) (by omega)] at hx
      have hwz := wid_le (sg s) (n := s.size) (c := 2 * k) (by omega)
      have hq : ((wid (sg s) s.size (2 * k) : Nat) : Int) / 2 = ((evenN (sg s) s.size k : Nat) : Int) := by unfold evenN; omega
      have HAn : Hid (Arr (wr.setCell ⟨b, k, none⟩ (.int .i64 (evenN (sg s) s.size k : Nat))) g 37 49 (tabF s 49)) := hid (HA.out.keeps (heap_setCell_other _ _ _ _ (by simp; omega)))
      have hbn : Below w.heap.size w (wr.setCell ⟨b, k, none⟩ (.int .i64 (evenN (sg s) s.size k : Nat))) := hb.setCell (by simp; omega) _
      generalize wid (sg s) s.size (2 * k) = z at hwz hx hq
      generalize hcz : evenN (sg s) s.size k = o at HN HAn hbn hq
      have g1 : (2 * (k : Int)).toNat = 2 * k := by omega
      have g2 : (0 : Int) ≤ 2 * (k : Int) := by omega
      have g3 : 2 * (k : Int) < 49 := by omega
      clear hst HA HO hcz hb
      go_wp2
      go_roundw
      case rel => exact ⟨k + 1, by go_num, by omega, HAn, HN, hbn⟩
      case measure => simp [intOf]; omega
    · have HF := HO.out
      rw [cnt_end hlt] at HF
      have HF := hid HF
      clear HO HA
      go_wp2
      go_ret2
      exact ⟨_, rfl, (cnt_row HF.out).base hgb, hb⟩

set_option maxHeartbeats 400000 in
theorem longest_long (s : ByteArray) (w : World) (h : 24 < s.size) (hs : s.size ≤ maxLen) :
    Calls Tryd.prog 11 #[.string s] w fun e w' => e = .returned (.tuple #[.int .i64 0, .int .i64 0, .iface 40 (.int .i64 4)]) ∧ Below w.heap.size w w' := by
  have HQ := hid (measure_long s w h hs)
  unfold maxLen at hs
  go_enter Tryd.func11, Tryd.ntmps11
  go_wp2_with fail
  refine HQ.out.mono ?_
  rintro e w1 ⟨rfl, hb1⟩
  have hs1 := hb1.size
  clear HQ
  go_wp2_with (refine wpList_alloc_arr rfl 37 rfl 49 wz ?_)
  intro w2 hA2 hb2 _
  go_wp2_with (refine wpList_store_arr rfl 37 _ _ rfl 49 w1.heap.size _ _ rfl rfl hA2 wi ?_)
  intro w3 hA3 hb3 _ _
  clear hA2 hA3
  go_wp2
  go_ret3
  exact ⟨rfl, hb1.trans ((hb2.trans hb3).mono hs1)⟩

set_option maxHeartbeats 800000 in
theorem longest_any (s : ByteArray) (w : World) (h : s.size ≤ 24) :
    Calls Tryd.prog 11 #[.string s] w fun e w' => ∃ a m : Nat, e = .returned (.tuple #[.int .i64 a, .int .i64 m, .nilIface]) ∧ Lgst (sg s) s.size a m ∧ Below w.heap.size w w' := by
  have HQ := hid (measure_any s w h)
  go_enter Tryd.func11, Tryd.ntmps11
  go_wp2_with fail
  refine HQ.out.mono ?_
  rintro e w1 ⟨rfl, hb1⟩
  have hs1 := hb1.size
  clear HQ
  go_wp2_with (refine wpList_alloc_arr rfl 37 rfl 49 wz ?_)
  intro w2 hA2 hb2 hs2
  go_wp2_with (refine wpList_store_arr rfl 37 _ _ rfl 49 w1.heap.size _ _ rfl rfl hA2 wi ?_)
  intro w3 hA3 hc3 _ es3
  have HA := hid hA3
  have hb3 := hb1.trans ((hb2.trans hc3).mono hs1)
  clear hA2 hA3 hs2 es3 hb1 hb2 hc3
  generalize w1.heap.size = g at hs1 HA ⊢
  go_wp2_with (refine wpList_load_arr rfl 37 _ rfl 49 3 g rfl _ HA.out Tryd.underlying37 wi ?_)
  go_loopw [2, 3, 17] (fun x y c wr => ∃ a m k : Nat, x = .int .i64 a ∧ y = .int .i64 m ∧ c = .int .i64 k ∧ k ≤ 49 ∧ Hid (Mid (sg s) s.size k a m) ∧ wr = w3) (fun _ _ c _ => 49 - (intOf c).toNat)
  case atStart => exact ⟨0, 0, 0, rfl, rfl, rfl, by omega, hid (mid_start _ _), rfl⟩
  case round =>
    obtain ⟨a, m, k, rfl, rfl, rfl, hk, HM, rfl⟩ := hrel
    by_cases hlt : k < 49
    · have hix : ∀ W : World, Sem.run Tryd.prog (Instr.index 37 (aggF 49 (tabF s 49)) (.int .i64 (k : Int))) W = .ok (.int .i64 (widT (sg s) s.size k : Nat)) W := fun W => by
        rw [run_index_arr W 37 49 3 (tabF s 49) k Tryd.underlying37 Tryd.isAgg3 Tryd.sizeOf3 hlt, tab_any s k hlt]
      have hwz := widT_le (sg s) s.size k
      have hml := mid_le HM.out
      by_cases hgt : m < widT (sg s) s.size k
      · have HN := hid (mid_yes HM.out hgt)
        generalize widT (sg s) s.size k = z at hix hwz hgt HN
        have hq : ((k : Int) - (z : Int)) / 2 = (((k - z) / 2 : Nat) : Int) := by omega
        generalize (k - z) / 2 = o at hq HN
        clear HM
        go_wp2
        go_roundw
        case rel => exact ⟨o, z, k + 1, by first | rfl | (rw [hq]; rfl) | go_num, rfl, by go_num, by omega, HN, by first | rfl | trivial⟩
        case measure => simp [intOf]; omega
      · have HN := hid (mid_no HM.out hgt)
        generalize widT (sg s) s.size k = z at hix hwz hgt
        clear HM
        go_wp2
        go_roundw
        case rel => exact ⟨a, m, k + 1, rfl, rfl, by go_num, by omega, HN, by first | rfl | trivial⟩
        case measure => simp [intOf]; omega
    · have HL := hid (mid_end HM.out (by omega))
      clear HM
      go_wp2
      go_ret3
      exact ⟨a, m, rfl, HL.out, hb3⟩
end Go.Proofs.YtgfkbbepngmpnaaDoor
