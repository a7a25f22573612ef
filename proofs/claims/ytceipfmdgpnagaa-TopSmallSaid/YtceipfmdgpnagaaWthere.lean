/-
  Contract of wheel.There: the last signs of a text's rotations in their order, and the place of the text among them; the old memory stays as it was. Conditions: none but the sizes that a row itself sets.
-/
import Derived.Test.YtceipfmdgpnagaaWapp
import Derived.Test.YtceipfmdgpnagaaWbin
import Derived.Test.YtceipfmdgpnagaaBase
import Derived.Test.YtceipfmdgpnagaaByteI
import Derived.Laws.IdiomStrings
import Derived.Deep.OwnRows
namespace Go.Proofs.Ytceipfmdgpnagaa
open Go.RowKit Go.Shelf Go.Proofs Go.Sort

/-- A row of signs. -/
def rowB (n : Nat) (f : Nat → UInt8) : List Value := (List.range n).map fun j => Value.int .u8 ((f j).toNat : Int)
theorem rowB_get (n : Nat) (f : Nat → UInt8) (j : Nat) (h : j < n) : (rowB n f)[j]? = some (.int .u8 ((f j).toNat : Int)) := by simp [rowB, h]
theorem rowB_set (n : Nat) (f : Nat → UInt8) (k : Nat) (x : UInt8) : (rowB n f).set k (.int .u8 (x.toNat : Int)) = rowB n (fun j => if j = k then x else f j) := by
  apply List.ext_getElem?
  intro j
  by_cases hj : j < n
  · by_cases hk : j = k
    · subst hk; simp [rowB, hj]
    · simp [rowB, hj, hk, Ne.symm hk]
  · simp [rowB, hj]
theorem rowB_congr {n : Nat} {f g : Nat → UInt8} (h : ∀ j, j < n → f j = g j) : rowB n f = rowB n g :=
  List.map_congr_left fun j hj => by rw [h j (List.mem_range.1 hj)]
theorem rowB_made (n : Nat) : (madeCells #[Value.int .u8 0] n).toList = rowB n (fun _ => 0) := by
  rw [toList_madeCells_one]
  apply List.ext_getElem?
  intro j
  by_cases hj : j < n <;> simp [rowB, hj]
theorem rowB_step (t : List UInt8) (k j : Nat) : (if j < k + 1 then t.getD j 0 else 0) = if j = k then t.getD k 0 else if j < k then t.getD j 0 else 0 := by
  by_cases e : j = k
  · subst e; simp
  · by_cases h : j < k
    · rw [if_pos (by omega), if_neg e, if_pos h]
    · rw [if_neg (by omega), if_neg e, if_neg h]
/-- The last sign of a row. -/
theorem wheelT_at {l : List UInt8} {k : Nat} (h : k < l.length) : (wheelT l).getD k 0 = ((wheelM l).getD k []).getD (l.length - 1) 0 := by
  have hl := wheelM_rowlen h
  rw [getD_at _ (by rw [wheelT_len]; exact h)]
  simp only [wheelT, List.getElem_map]
  rw [← getD_at [] (show k < (wheelM l).length by rw [wheelM_len]; exact h)]
  rw [List.getLastD_eq_getLast?, List.getLast?_eq_getElem?, hl]
  rfl

theorem there_long (s : ByteArray) (w : World) (h : 24 < s.size) (hs : s.size ≤ maxLen) :
    Calls Try.prog 12 #[.string s] w fun e w' => e = .returned (.tuple #[.string ByteArray.empty, .int .i64 0, .iface 43 (.int .i64 4)]) ∧ w' = w := by
  unfold maxLen at hs
  go_enter Try.func12, Try.ntmps12
  go_wp2
  go_ret3
  exact ⟨rfl, rfl⟩

set_option maxRecDepth 100000 in
set_option maxHeartbeats 2000000 in
theorem there_any (s : ByteArray) (w : World) (h : s.size ≤ 24) :
    Calls Try.prog 12 #[.string s] w fun e w' => e = .returned (.tuple #[.string (txt (wheelT (bs s))), .int .i64 (wheelN (bs s) : Nat), .nilIface]) ∧ Below w.heap.size w w' := by
  obtain ⟨i0, hi, hz0, hz1, hz2⟩ := info_parts byteI
  have hb0 : Below w.heap.size w (w.alloc (.cells #[.string s] 9)) := (Below.refl _ _).alloc (Nat.le_refl _) _
  have H1 := hid (rots_any s w)
  have H2 := hid (wsorted_any s h w.heap.size (w.alloc (.cells #[.string s] 9)) (by simp) (by simp))
  go_enter Try.func12, Try.ntmps12
  go_wp2_with fail
  refine H1.out.mono ?_
  rintro e wA ⟨rfl, hwA⟩
  subst wA
  go_wp2_with fail
  refine H2.out.mono ?_
  rintro e W1 ⟨v, rfl, hrow, hb1⟩
  have hbw : Below w.heap.size w W1 := hb0.trans (hb1.mono (by simp))
  have hread : ∃ A c, v = .slice A s.size c ∧ (0 < s.size → ∃ g off, A = some ⟨g, off, none⟩ ∧ g < W1.heap.size ∧ ∀ j, j < s.size → W1.cell? ⟨g, off + j, none⟩ = some (encStr ((wheelM (bs s)).getD j []))) := by
    rcases hrow.2 with ⟨rfl, hz⟩ | ⟨gb, cap, cur, rfl, hbase, hgb, r1, r2, r3, r4⟩
    · exact ⟨none, 0, by rw [hz], fun h => by omega⟩
    · refine ⟨_, _, rfl, fun _ => ⟨gb, 0, rfl, (Array.getElem?_eq_some_iff.1 hgb).1, fun j hj => ?_⟩⟩
      have hjm : j < (wheelM (bs s)).length := by rw [wheelM_len, bs_len]; exact hj
      rw [Nat.zero_add, hrow.cellAt j (by omega), getD_at _ hjm]
      simp [hjm]
  obtain ⟨A, c, rfl, hcells⟩ := hread
  have HC := hid hcells
  clear hcells hrow H1 H2 hb0 hb1
  go_wp2_with (at_make; refine wpList_make_full _ rfl _ _ 48 rfl W1.heap.size 5 i0 (.int .u8 0) 1 Try.underlying48 hi hz0 hz1 _ _ _ _ s.size rfl rfl rfl rfl (by rw [hz2]; omega) (by unfold maxLen; omega) (by simp) ?_)
  intro w1 hown hgrow
  rw [rowB_made] at hown
  have hb2 : Below W1.heap.size W1 w1 := (Below.refl _ _).grown hgrow (by simp) (by simp)
  clear hgrow hi hz0 hz1 hz2
  go_wp2_with fail
  go_loopw [23] (fun i wr => ∃ k : Nat, k ≤ s.size ∧ i = .int .i64 k ∧ wr.ownsRow W1.heap.size 5 1 (.slice (some ⟨W1.heap.size, 0, none⟩) s.size s.size) s.size (rowB s.size fun j => if j < k then (wheelT (bs s)).getD j 0 else 0) ∧ Below W1.heap.size W1 wr) (fun i _ => s.size - (intOf i).toNat)
  case atStart => exact ⟨0, by omega, rfl, by rw [rowB_congr (g := fun _ => 0) (fun j _ => by simp)]; exact hown, hb2⟩
  case round =>
    obtain ⟨k, hk, rfl, ho, hb⟩ := hrel
    by_cases hlt : k < s.size
    · obtain ⟨g, off, rfl, hg, hcell⟩ := HC.out (by omega)
      have hcr : wr.cell? ⟨g, off + k, none⟩ = some (.string (txt ((wheelM (bs s)).getD k []))) := (hb.cell (p := ⟨g, off + k, none⟩) hg).trans (hcell k hlt)
      have hls : k < (bs s).length := by rw [bs_len]; exact hlt
      have hY : (txt ((wheelM (bs s)).getD k [])).size = s.size := by rw [txt_size, wheelM_rowlen hls, bs_len]
      have hwt := wheelT_at hls
      rw [bs_len] at hwt
      have hYb : ∀ (hj : s.size - 1 < (txt ((wheelM (bs s)).getD k [])).size), (txt ((wheelM (bs s)).getD k []))[s.size - 1] = (wheelT (bs s)).getD k 0 := fun hj => by
        rw [hwt, ← sg_eq _ _ hj, ← bs_sg, bs_txt]
      have HYB := hid hYb
      generalize txt ((wheelM (bs s)).getD k []) = Y at hcr hY HYB
      have hcell2 : wr.cell? ⟨W1.heap.size, k, none⟩ = some (.int .u8 0) := by rw [ho.cellAt k (by omega), rowB_get _ _ _ hlt]; simp
      have hfr := ho.frozenAt k
      have HO := hid ho
      have hYs : Y.size ≤ 24 := by omega
      have hY0 : 0 < Y.size := by omega
      have HYS := hid hY
      have i1 : ((Y.size : Int) - 1).toNat = Y.size - 1 := by omega
      have i2 : (0 : Int) ≤ (Y.size : Int) - 1 := by omega
      have i3 : (Y.size : Int) - 1 < (Y.size : Int) := by omega
      clear ho hown hYb hcell hwt hls hY
      go_wp2_with fail
      have hst := HO.out.stored k (.int .u8 (((wheelT (bs s)).getD k 0).toNat : Int))
      rw [rowB_set] at hst
      have hval : Y[Y.size - 1] = (wheelT (bs s)).getD k 0 := by
        have hq := HYS.out
        have := HYB.out (by omega)
        rw [← this]
        congr 1
        omega
      rw [hval]
      go_roundw
      case rel => exact ⟨k + 1, by omega, by go_num, by rw [rowB_congr (g := fun j => if j = k then (wheelT (bs s)).getD k 0 else if j < k then (wheelT (bs s)).getD j 0 else 0) (fun j _ => rowB_step _ k j)]; exact hst.1, hb.setCell (by simp) _⟩
      case measure => simp [intOf]; omega
    · obtain rfl : k = s.size := by omega
      rw [rowB_congr (g := fun j => (wheelT (bs s)).getD j 0) (fun j hj => by simp [hj])] at ho
      have hlt2 : (wheelT (bs s)).length = s.size := by rw [wheelT_len, bs_len]
      have hcv := run_convert_bytes_back (P := Try.prog) wr 48 9 5 ⟨W1.heap.size, 0, none⟩ s.size (wheelT (bs s)) Try.underlying48 Try.underlying5 Try.underlying9 (fun j hj => by
        rw [hlt2] at hj
        rw [show Addr.add ⟨W1.heap.size, 0, none⟩ j = ⟨W1.heap.size, j, none⟩ by by_cases h : j = 0 <;> simp [Addr.add, h], ho.cellAt j (by omega), rowB_get _ _ _ hj, getD_at _ (by rw [hlt2]; exact hj)])
      rw [hlt2] at hcv
      have HB := hid (wbin_any (wheelM (bs s)) (wheelM_asc _) A s.size c (by omega) (by rw [wheelM_len, bs_len]) s wr (fun h0 => by
        obtain ⟨g, off, e, hg, hcell⟩ := HC.out h0
        exact ⟨g, off, e, fun j hj => (hb.cell (p := ⟨g, off + j, none⟩) hg).trans (hcell j hj)⟩))
      have HBL := hid (hbw.trans (hb.mono hbw.size))
      clear ho hown hb hbw hb2 HC
      change Sem.run _ _ _ = .ok (Value.string (txt (wheelT (bs s)))) _ at hcv
      have HN : Hid (((wheelM (bs s)).countP fun r => decide (r < bs s)) = wheelN (bs s)) := hid rfl
      rw [HN.out] at HB
      obtain ⟨X, hX⟩ : ∃ X, X = txt (wheelT (bs s)) := ⟨_, rfl⟩
      rw [← hX] at hcv
      have HX := hid hX
      clear hX
      go_wp2_with fail
      refine HB.out.mono ?_
      rintro e w2 ⟨⟨fv, rfl⟩, hw2⟩
      subst w2
      go_wp2_with fail
      go_ret3
      exact ⟨by rw [← HX.out]; rfl, HBL.out⟩
end Go.Proofs.Ytceipfmdgpnagaa
