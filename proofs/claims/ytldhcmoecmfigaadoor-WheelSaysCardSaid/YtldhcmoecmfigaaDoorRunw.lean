/-
  Contract of letterbeckref2.Unwheel: the text that the walk along the stable order of the signs gives, and whether the given text is its transform. Conditions: a text of at most 24 bytes, a place of it.
-/
import Derived.Test.YtldhcmoecmfigaaDoorRwheelT
import Derived.Test.YtldhcmoecmfigaaDoorTail
import Derived.Deep.OwnRows
import Derived.OwnWalkIn
import Derived.TacticsInMore
import Derived.Maps.AppendAt
namespace Go.Proofs.YtldhcmoecmfigaaDoor
open Go.RowKit Go.Proofs

/-! ### The stable order: there is one, and only one -/
theorem u8_irr' (a : UInt8) : ¬ a < a := by rw [UInt8.lt_iff_toNat_lt]; omega
theorem stb_one {t : List UInt8} {o o' : List Nat} (h : Stb t o) (h' : Stb t o') : o = o' := by
  refine List.Perm.eq_of_pairwise (le := fun a b => t.getD a 0 < t.getD b 0 ∨ (t.getD a 0 = t.getD b 0 ∧ a < b)) (fun a b _ _ h1 h2 => ?_) h.2 h'.2 (h.1.trans h'.1.symm)
  exfalso
  rw [UInt8.lt_iff_toNat_lt] at h1 h2
  rcases h1 with h1 | ⟨e1, h1⟩ <;> rcases h2 with h2 | ⟨e2, h2⟩
  · omega
  · rw [e2] at h1; omega
  · rw [e1] at h2; omega
  · omega
theorem stb_ex (t : List UInt8) : ∃ o, Stb t o := by
  let le : Nat → Nat → Bool := fun a b => decide ((t.getD a 0).toNat < (t.getD b 0).toNat ∨ ((t.getD a 0).toNat = (t.getD b 0).toNat ∧ a ≤ b))
  have hp : ((List.range t.length).mergeSort le).Perm (List.range t.length) := List.mergeSort_perm _ _
  have hw := List.pairwise_mergeSort (le := le) (fun a b c h1 h2 => by simp only [le, decide_eq_true_eq] at *; omega) (fun a b => by simp only [le, Bool.or_eq_true, decide_eq_true_eq]; omega) (List.range t.length)
  have hn : ((List.range t.length).mergeSort le).Nodup := hp.nodup_iff.2 List.nodup_range
  refine ⟨_, hp, (hw.and hn).imp ?_⟩
  rintro a b ⟨h1, h2⟩
  simp only [le, decide_eq_true_eq] at h1
  rcases h1 with h1 | ⟨h1, h3⟩
  · exact .inl (UInt8.lt_iff_toNat_lt.2 h1)
  · exact .inr ⟨UInt8.toNat_inj.1 h1, by omega⟩

/-! ### A row of texts of the call's own -/
def rowT (n : Nat) (f : Nat → ByteArray) : List Value := (List.range n).map fun j => Value.string (f j)
theorem rowT_get (n : Nat) (f : Nat → ByteArray) (j : Nat) (h : j < n) : (rowT n f)[j]? = some (.string (f j)) := by simp [rowT, h]
theorem rowT_set (n : Nat) (f : Nat → ByteArray) (k : Nat) (x : ByteArray) : (rowT n f).set k (.string x) = rowT n (fun j => if j = k then x else f j) := by
  apply List.ext_getElem?
  intro j
  by_cases hj : j < n
  · by_cases hk : j = k
    · subst hk; simp [rowT, hj]
    · simp [rowT, hj, hk, Ne.symm hk]
  · simp [rowT, hj]
theorem rowT_congr {n : Nat} {f g : Nat → ByteArray} (h : ∀ j, j < n → f j = g j) : rowT n f = rowT n g :=
  List.map_congr_left fun j hj => by rw [h j (List.mem_range.1 hj)]
theorem rowT_made (n : Nat) : (madeCells #[Value.string ByteArray.empty] n).toList = rowT n (fun _ => ByteArray.empty) := by
  rw [toList_madeCells_one]
  apply List.ext_getElem?
  intro j
  by_cases hj : j < n <;> simp [rowT, hj]
/-- A sign ahead of each of the first i rows. -/
def nextT (t : ByteArray) (o : List Nat) (m i : Nat) : List ByteArray := (List.range i).map fun j => txt ((bs t).getD j 0 :: wlk (bs t) o m j)
theorem nextT_succ (t : ByteArray) (o : List Nat) (m i : Nat) : nextT t o m (i + 1) = nextT t o m i ++ [txt ((bs t).getD i 0 :: wlk (bs t) o m i)] := by simp [nextT, List.range_succ]
theorem nextT_len (t : ByteArray) (o : List Nat) (m i : Nat) : (nextT t o m i).length = i := by simp [nextT]
theorem nextT_at (t : ByteArray) (o : List Nat) (m : Nat) {i j : Nat} (h : j < i) : wat (nextT t o m i) j = txt ((bs t).getD j 0 :: wlk (bs t) o m j) := by simp [wat, nextT, List.getD_eq_getElem?_getD, h]
theorem next_join (t : ByteArray) (o : List Nat) (m : Nat) {i : Nat} (h : i < t.size) : t.extract i (i + 1) ++ txt (wlk (bs t) o m i) = txt ((bs t).getD i 0 :: wlk (bs t) o m i) := by
  apply bs_inj
  rw [wb_app, wb_ext, bs_txt, bs_txt]
  have hl : i < (bs t).length := by rw [bs_len]; exact h
  rw [List.drop_take, show i + 1 - i = 1 by omega, List.drop_eq_getElem_cons hl, getD_at _ hl]
  rfl
/-- Sorting what the signs ahead make gives the next rows. -/
theorem next_rows {t : ByteArray} {o : List Nat} (hO : Stb (bs t) o) (m : Nat) {os : List Nat} (h : Sl (nextT t o m t.size) os) (hl : os.length = t.size) {j : Nat} (hj : j < t.size) : os.getD j 0 < t.size ∧ wat (nextT t o m t.size) (os.getD j 0) = txt (wlk (bs t) o (m + 1) j) := by
  obtain ⟨h1, h2⟩ := sl_rows h (by rw [nextT_len]; exact hl)
  have hjo : j < os.length := by omega
  have hlt : os.getD j 0 < t.size := by
    have := h.1 (os.getD j 0) (by rw [getD_at _ hjo]; exact List.getElem_mem _)
    rwa [nextT_len] at this
  refine ⟨hlt, bs_inj ?_⟩
  have e : (nextT t o m t.size).map bs = (List.range (bs t).length).map fun i => (bs t).getD i 0 :: (wrows (bs t) o m).getD i [] := by
    unfold nextT
    rw [List.map_map, bs_len]
    refine List.map_congr_left fun i hi => ?_
    have hi' := List.mem_range.1 hi
    rw [wrows_at _ _ _ (by rw [bs_len]; exact hi')]
    exact bs_txt _
  rw [e] at h2
  have h3 := wrows_sort hO m h1 h2
  have h4 : (os.map fun i => bs (wat (nextT t o m t.size) i)).getD j [] = (wrows (bs t) o (m + 1)).getD j [] := by rw [h3]
  rw [wrows_at _ _ _ (by rw [bs_len]; exact hj), getD_at _ (by rw [List.length_map]; exact hjo), List.getElem_map, ← getD_at 0 hjo] at h4
  rw [h4, bs_txt]
theorem row_step (t : List UInt8) (o : List Nat) (m k j : Nat) : (if j < k + 1 then txt (wlk t o (m + 1) j) else txt (wlk t o m j)) = if j = k then txt (wlk t o (m + 1) k) else if j < k then txt (wlk t o (m + 1) j) else txt (wlk t o m j) := by
  by_cases e : j = k
  · subst e; simp
  · by_cases h : j < k
    · rw [if_pos (by omega), if_neg e, if_pos h]
    · rw [if_neg (by omega), if_neg e, if_neg h]
/-- A slice of texts of the call's own: where it lies, and how it reads. -/
theorem ownS_at {w : World} {base : Nat} {e : TypeId} {v : Value} {ws : List ByteArray} {n : Nat} (h : OwnS w base e v ws) (hn : ws.length = n) : ∃ A c, v = .slice A n c ∧ (0 < n → ∃ g, A = some ⟨g, 0, none⟩ ∧ base ≤ g ∧ g < w.heap.size ∧ ∀ j, j < n → w.cell? ⟨g, j, none⟩ = some (.string (wat ws j))) := by
  subst hn
  unfold OwnS at h
  rcases h.2 with ⟨rfl, h0⟩ | ⟨g, cap, cur, rfl, hg, hh, hnc, hcm, hcs, htk⟩
  · exact ⟨none, 0, by rw [h0], fun h => absurd h (by omega)⟩
  · refine ⟨_, _, rfl, fun _ => ⟨g, rfl, hg, (Array.getElem?_eq_some_iff.1 hh).1, fun j hj => ?_⟩⟩
    rw [h.cellAt j (by omega)]
    simp [hj, wat, List.getD_eq_getElem?_getD]
theorem ownI_at {w : World} {base : Nat} {e : TypeId} {v : Value} {o : List Nat} {n : Nat} (h : OwnI w base e v (o.map fun i : Nat => (i : Int))) (hn : o.length = n) : ∃ A c, v = .slice A n c ∧ (0 < n → ∃ g, A = some ⟨g, 0, none⟩ ∧ base ≤ g ∧ g < w.heap.size ∧ ∀ j, j < n → w.cell? ⟨g, j, none⟩ = some (.int .i64 (o.getD j 0 : Nat))) := by
  subst hn
  unfold OwnI at h
  rw [List.length_map] at h
  rcases h.2 with ⟨rfl, h0⟩ | ⟨g, cap, cur, rfl, hg, hh, hnc, hcm, hcs, htk⟩
  · exact ⟨none, 0, by rw [h0], fun h => absurd h (by omega)⟩
  · refine ⟨_, _, rfl, fun _ => ⟨g, rfl, hg, (Array.getElem?_eq_some_iff.1 hh).1, fun j hj => ?_⟩⟩
    rw [h.cellAt j (by omega)]
    simp [hj, List.getD_eq_getElem?_getD]

theorem row_kept {w w' : World} {base : Nat} {e : TypeId} {size : Nat} {v : Value} {n : Nat} {xs : List Value} (h : w.ownsRow base e size v n xs) (hk : ∀ g, v.ownBlock = some g → w'.heap[g]? = w.heap[g]?) : w'.ownsRow base e size v n xs := by
  refine ⟨h.1, ?_⟩
  rcases h.2 with h' | ⟨g, cap, cur, rfl, h2, h3, h4⟩
  · exact .inl h'
  · exact .inr ⟨g, cap, cur, rfl, h2, (hk g rfl).trans h3, h4⟩

set_option maxRecDepth 100000 in
set_option maxHeartbeats 4000000 in
theorem runwheel_any (t : ByteArray) (o : List Nat) (hO : Stb (bs t) o) (r : Nat) (w : World) (h : t.size ≤ 24) (hr : (0 < t.size → r < t.size) ∧ (t.size = 0 → r = 0)) :
    Calls Tryd.prog 9 #[.string t, .int .i64 r] w fun e w' => e = .returned (.tuple #[.string (txt (wlk (bs t) o t.size r)), .bool (decide (wheelT (wlk (bs t) o t.size r) = bs t))]) ∧ Below w.heap.size w w' := by
  obtain ⟨i0, hi, hz0, hz1, hz2⟩ := info_parts strR_info
  have HST := hid hO
  have HRR := hid hr
  clear hO hr
  go_enter Tryd.func9, Tryd.ntmps9
  go_wp2_with (at_make; refine wpList_make_full _ rfl _ _ 36 rfl w.heap.size 9 i0 (.string ByteArray.empty) 1 Tryd.underlying36 hi hz0 hz1 _ _ _ _ t.size rfl rfl rfl rfl (by rw [hz2]; omega) (by unfold maxLen; omega) (by simp) ?_)
  intro w1 hown hgrow
  rw [rowT_made] at hown
  have hb1 : Below w.heap.size w w1 := (Below.refl _ _).grown hgrow (by simp) (by simp)
  clear hgrow
  go_wp2_with fail
  go_loopw [7] (fun x wr => ∃ m : Nat, m ≤ t.size ∧ x = .int .i64 m ∧ Hid (wr.ownsRow w.heap.size 9 1 (.slice (some ⟨w.heap.size, 0, none⟩) t.size t.size) t.size (rowT t.size fun j => txt (wlk (bs t) o m j))) ∧ Below w.heap.size w wr) (fun x _ => t.size - (intOf x).toNat)
  case atStart => exact ⟨0, by omega, rfl, hid (by rw [rowT_congr (f := fun j => txt (wlk (bs t) o 0 j)) (g := fun _ => ByteArray.empty) (fun j _ => rfl)]; exact hown), hb1⟩
  case round =>
    obtain ⟨m, hm, rfl, HROW, hbr⟩ := hrel
    clear hown hb1
    by_cases hlt : m < t.size
    · obtain ⟨wz, hwz⟩ : ∃ z, z = wr := ⟨_, rfl⟩
      subst hwz
      have hBz : w.heap.size < wz.heap.size := (HROW.out.lt _ rfl).2
      go_wp2_with fail
      go_loopw [8, 9] (fun v x wr => ∃ (i : Nat) (vv : Value), i ≤ t.size ∧ x = .int .i64 i ∧ vv = v ∧ Hid (OwnS wr wz.heap.size 9 vv (nextT t o m i)) ∧ Below wz.heap.size wz wr) (fun _ x _ => t.size - (intOf x).toNat)
      case atStart => exact ⟨0, _, by omega, rfl, rfl, hid (OwnS.nil _ _ _), Below.refl _ _⟩
      case round =>
        obtain ⟨i, vv, hi1, rfl, rfl, HV, hbi⟩ := hrel
        by_cases hli : i < t.size
        · have hcr : wr.cell? ⟨w.heap.size, i, none⟩ = some (.string (txt (wlk (bs t) o m i))) := by
            rw [hbi.cell (p := ⟨w.heap.size, i, none⟩) hBz, HROW.out.cellAt i (by omega), rowT_get _ _ _ hli]
          have hcut : ∀ W : World, Sem.run Tryd.prog (Instr.slice 9 (.string t) (some (.int .i64 (i : Int))) (some (.int .i64 ((i : Int) + 1))) none) W = .ok (.string (t.extract i (i + 1))) W := fun W =>
            run_slice_string W 9 t .i64 .i64 (i : Int) ((i : Int) + 1) Tryd.underlying9 (by omega) (by omega) (by omega)
          have hwr : IntKind.i64.wrap ((i : Int) + 1) = (i : Int) + 1 := IntWalk.i64_in _ (by omega)
          have hus : (t.extract i (i + 1)).size ≤ 1 := by rw [ByteArray.size_extract]; omega
          have hvs : (txt (wlk (bs t) o m i)).size ≤ 24 := by rw [txt_size, wlk_len]; omega
          have hadd := fun w => run_string_add_sum (P := Tryd.prog) w (t.extract i (i + 1)) (txt (wlk (bs t) o m i)) (by omega)
          have HS := hid (nextT_succ t o m i)
          rw [next_join t o m hli] at hadd
          have hl := nextT_len t o m i
          have hv := HV.out
          generalize txt ((bs t).getD i 0 :: wlk (bs t) o m i) = X at hadd HS
          generalize t.extract i (i + 1) = X1 at hcut hadd
          generalize txt (wlk (bs t) o m i) = X2 at hcr hadd
          generalize nextT t o m i = ws at HS hl hv
          clear HV hus hvs
          go_wp2_with fail
          refine (wpIn_wide (n := 1)).1 ?_
          refine wpIn_region_float (C := fun w' => ∃ q, w' = wr.drewN q) (lets_wide _) 11 30 _ _ _ (by kernel_rfl) rfl rfl rfl rfl (by kernel_rfl) ⟨1, rfl⟩ ?_
          simp only [List.take_succ_cons, List.take_zero, List.drop_succ_cons, List.drop_zero]
          repeat (quiet_step (fail))
          refine wpQuiet_nil ?_
          rintro _ ⟨q, rfl⟩
          obtain ⟨W1, hW1⟩ : ∃ z, z = wr.drewN q := ⟨_, rfl⟩
          have hv1 := hv.drewN q
          rw [← hW1] at hv1
          have hb2 : Below wz.heap.size wz W1 := by rw [hW1]; exact below_drewN hbi q
          rw [← hW1]
          clear hW1 hv hcr hcut hadd hbi
          have hrow : W1.ownsRow wz.heap.size 9 1 _ ws.length (ws.map Value.string) := hv1
          have fin : ∀ (tmp : Obj) (v' : Value) (w3 : World), w3.ownsRow wz.heap.size 9 1 v' (ws.length + 1) (ws.map Value.string ++ [.string X]) → (W1.alloc tmp).grownBy w3 (Value.ownBlock vv) → OwnS w3 wz.heap.size 9 v' (ws ++ [X]) ∧ Below wz.heap.size wz w3 := fun tmp v' w3 hown' hgrow =>
            ⟨OwnS.mk_ (by rw [List.length_append, List.map_append]; exact hown'), hb2.trans (((Below.refl wz.heap.size W1).alloc hb2.size tmp).grown hgrow (by have := hb2.size; simp; omega) fun b hb => (World.ownsRow.lt hv1 b hb).1)⟩
          clear hv1
          refine ⟨?_, ?_⟩
          · gi_wp2_with (gi_at_builtin; refine wpListIn_append_own _ rfl _ _ 36 rfl wz.heap.size 9 i0 (.string ByteArray.empty) 1 16 Tryd.underlying36 hi hz0 hz1 hz2 rfl (by decide) _ _ _ rfl (hrow.alloc _) ⟨W1.heap.size, 0, none⟩ 1 1 [.string X] rfl rfl (cell_one_new _ _ _) (by simp [Value.oneCell']) (by unfold maxLen; omega) (by omega) (by have := hb2.size; simp; omega) ?_; intro v' w3 hown' hgrow _; have HF := hid (fin _ _ _ hown' hgrow); clear hown' hgrow)
            go_wp2_with fail
            go_roundw
            case rel => exact ⟨i + 1, v', by omega, by go_num, rfl, hid (by rw [HS.out]; exact HF.out.1), HF.out.2⟩
            case measure => simp [intOf]; omega
          · gi_wp2_with (gi_at_builtin; refine wpListIn_append_own _ rfl _ _ 36 rfl wz.heap.size 9 i0 (.string ByteArray.empty) 1 16 Tryd.underlying36 hi hz0 hz1 hz2 rfl (by decide) _ _ _ rfl (hrow.alloc _) ⟨W1.heap.size, 0, none⟩ 1 1 [.string X] rfl rfl (cell_one_new _ _ _) (by simp [Value.oneCell']) (by unfold maxLen; omega) (by omega) (by have := hb2.size; simp; omega) ?_; intro v' w3 hown' hgrow _; have HF := hid (fin _ _ _ hown' hgrow); clear hown' hgrow)
            go_wp2_with fail
            go_roundw
            case rel => exact ⟨i + 1, v', by omega, by go_num, rfl, hid (by rw [HS.out]; exact HF.out.1), HF.out.2⟩
            case measure => simp [intOf]; omega
        · obtain rfl : i = t.size := by omega
          obtain ⟨A, c, rfl, hrd⟩ := ownS_at HV.out (nextT_len t o m t.size)
          have hIS : IsStrs wr wr.heap.size A t.size (nextT t o m t.size) := ⟨nextT_len _ _ _ _, fun h0 => by
            obtain ⟨g, e, _, hg, hc⟩ := hrd h0
            exact ⟨g, 0, e, hg, fun j hj => by rw [Nat.zero_add]; exact hc j hj⟩⟩
          have H2 := hid (rsort_any A t.size c (nextT t o m t.size) wr (by omega) (fun i hi => by rw [nextT_at t o m hi, txt_size, List.length_cons, wlk_len]; omega) hIS)
          have HRD := hid hrd
          clear hIS hrd HV
          obtain ⟨wx, hwx⟩ : ∃ z, z = wr := ⟨_, rfl⟩
          subst hwx
          go_wp2_with fail
          refine H2.out.mono ?_
          rintro e wy ⟨v2, os, rfl, ⟨hSl, hol⟩, hO2, hb2⟩
          rw [nextT_len] at hol
          obtain ⟨A2, c2, rfl, hrd2⟩ := ownI_at hO2 hol
          have HNX := hid (fun j (hj : j < t.size) => next_rows HST.out m hSl hol hj)
          have HRD2 := hid hrd2
          have hbz := hbi.size
          have hbxy := hb2.size
          have HROWY : Hid (wy.ownsRow w.heap.size 9 1 (.slice (some ⟨w.heap.size, 0, none⟩) t.size t.size) t.size (rowT t.size fun j => txt (wlk (bs t) o m j))) := hid (row_kept HROW.out (fun g e => by
            obtain rfl : w.heap.size = g := by simpa [Value.ownBlock] using e
            rw [hb2.block _ (by omega), hbi.block _ hBz]))
          have HNXT : Hid (0 < t.size → ∃ g, A = some ⟨g, 0, none⟩ ∧ w.heap.size < g ∧ ∀ j, j < t.size → wy.cell? ⟨g, j, none⟩ = some (.string (wat (nextT t o m t.size) j))) := hid fun h0 => by
            obtain ⟨g, e, hg0, hg, hc⟩ := HRD.out h0
            exact ⟨g, e, by omega, fun j hj => (hb2.cell (p := ⟨g, j, none⟩) hg).trans (hc j hj)⟩
          have HBY := hid (show Below w.heap.size w wy from hbr.trans ((hbi.mono (by omega)).trans (hb2.mono (by omega))))
          clear hSl hol hO2 hrd2 hb2 hbi hbr HRD H2 HROW
          go_wp2_with fail
          go_loopw [11] (fun x wr => ∃ k : Nat, k ≤ t.size ∧ x = .int .i64 k ∧ Hid (wr.ownsRow w.heap.size 9 1 (.slice (some ⟨w.heap.size, 0, none⟩) t.size t.size) t.size (rowT t.size fun j => if j < k then txt (wlk (bs t) o (m + 1) j) else txt (wlk (bs t) o m j))) ∧ Hid (∀ b, b ≠ w.heap.size → wr.heap[b]? = wy.heap[b]?) ∧ Below w.heap.size w wr) (fun x _ => t.size - (intOf x).toNat)
          case atStart => exact ⟨0, by omega, rfl, hid (by rw [rowT_congr (f := fun j => if j < 0 then txt (wlk (bs t) o (m + 1) j) else txt (wlk (bs t) o m j)) (g := fun j => txt (wlk (bs t) o m j)) (fun j _ => by simp)]; exact HROWY.out), hid (fun _ _ => rfl), HBY.out⟩
          case round =>
            obtain ⟨k, hk, rfl, HRW, HKP, hbk⟩ := hrel
            by_cases hlk : k < t.size
            · obtain ⟨g1, rfl, hg1, hc1⟩ := HNXT.out (by omega)
              obtain ⟨g2, rfl, hg2, hg2', hc2⟩ := HRD2.out (by omega)
              obtain ⟨hos, hnx⟩ := HNX.out k hlk
              have kc : ∀ g j, g ≠ w.heap.size → wr.cell? ⟨g, j, none⟩ = wy.cell? ⟨g, j, none⟩ := fun g j hg => by simp only [World.cell?, HKP.out g hg]
              have hx2 : wr.cell? ⟨g2, k, none⟩ = some (.int .i64 (os.getD k 0 : Nat)) := (kc g2 k (by omega)).trans (hc2 k hlk)
              have hx1 : wr.cell? ⟨g1, os.getD k 0, none⟩ = some (.string (txt (wlk (bs t) o (m + 1) k))) := by rw [← hnx]; exact (kc g1 _ (by omega)).trans (hc1 _ hos)
              have hcell : ∃ z, wr.cell? ⟨w.heap.size, k, none⟩ = some (.string z) := ⟨_, by rw [HRW.out.cellAt k (by omega), rowT_get _ _ _ hlk]⟩
              obtain ⟨z, hcell⟩ := hcell
              have hfr := HRW.out.frozenAt k
              have hst := HRW.out.stored k (.string (txt (wlk (bs t) o (m + 1) k)))
              rw [rowT_set] at hst
              have HSTO := hid hst.1
              have HK2 : Hid (∀ b, b ≠ w.heap.size → (wr.setCell ⟨w.heap.size, k, none⟩ (.string (txt (wlk (bs t) o (m + 1) k)))).heap[b]? = wy.heap[b]?) := hid fun b hb => by rw [Below.heap_setCell _ _ _ b hb]; exact HKP.out b hb
              have hbk2 := hbk.setCell (p := ⟨w.heap.size, k, none⟩) (Nat.le_refl _) (.string (txt (wlk (bs t) o (m + 1) k)))
              have HB2 := hid hbk2
              clear hst hbk2 kc hc1 hc2 hnx
              obtain ⟨X, hX⟩ : ∃ X, X = txt (wlk (bs t) o (m + 1) k) := ⟨_, rfl⟩
              rw [← hX] at hx1 HK2 HB2
              have HX := hid hX
              clear hX
              generalize os.getD k 0 = y at hx1 hx2 hos
              go_wp2_with fail
              go_roundw
              case rel => exact ⟨k + 1, by omega, by go_num, hid (by rw [rowT_congr (g := fun j => if j = k then txt (wlk (bs t) o (m + 1) k) else if j < k then txt (wlk (bs t) o (m + 1) j) else txt (wlk (bs t) o m j)) (fun j _ => row_step _ _ m k j), HX.out]; exact HSTO.out), HK2, HB2.out⟩
              case measure => simp [intOf]; omega
            · obtain rfl : k = t.size := by omega
              have HRE : Hid (wr.ownsRow w.heap.size 9 1 (.slice (some ⟨w.heap.size, 0, none⟩) t.size t.size) t.size (rowT t.size fun j => txt (wlk (bs t) o (m + 1) j))) := hid (by
                have := HRW.out
                rw [rowT_congr (g := fun j => txt (wlk (bs t) o (m + 1) j)) (fun j hj => by rw [if_pos hj])] at this
                exact this)
              go_wp2_with fail
              go_roundw
              case rel => exact ⟨m + 1, by omega, by go_num, HRE, hbk⟩
              case measure => simp [intOf]; omega
    · obtain rfl : m = t.size := by omega
      by_cases h0 : 0 < t.size
      · have hrl := HRR.out.1 h0
        have hcr : wr.cell? ⟨w.heap.size, r, none⟩ = some (.string (txt (wlk (bs t) o t.size r))) := by rw [HROW.out.cellAt r (by omega), rowT_get _ _ _ hrl]
        have hus : (txt (wlk (bs t) o t.size r)).size ≤ 24 := by rw [txt_size, wlk_len]; exact h
        have H3 := fun W => hid (rwheel_any (txt (wlk (bs t) o t.size r)) W hus)
        rw [bs_txt] at H3
        have hnn : wheelN (wlk (bs t) o t.size r) ≤ 24 := Nat.le_trans (wheelN_le _) (by rw [wlk_len]; exact h)
        have hdec : ((txt (wheelT (wlk (bs t) o t.size r))).toList == t.toList) = decide (wheelT (wlk (bs t) o t.size r) = bs t) := by
          by_cases e : wheelT (wlk (bs t) o t.size r) = bs t
          · rw [decide_eq_true e]; exact same_yes (by rw [e, txt_bs])
          · rw [decide_eq_false e]; exact same_no (fun e' => e (by have := congrArg bs e'; rwa [bs_txt] at this))
        have HD := hid hdec
        obtain ⟨U, hU⟩ : ∃ U, U = txt (wlk (bs t) o t.size r) := ⟨_, rfl⟩
        rw [← hU] at hcr H3
        have HU := hid hU
        generalize wheelN (wlk (bs t) o t.size r) = N at H3 hnn
        obtain ⟨T, hT⟩ : ∃ T, T = txt (wheelT (wlk (bs t) o t.size r)) := ⟨_, rfl⟩
        rw [← hT] at H3
        have HT := hid hT
        clear hU hT hus hdec HROW
        go_wp2_with fail
        refine (H3 _).out.mono ?_
        rintro e w5 ⟨rfl, hb5⟩
        have HB5 := hid (hbr.trans (hb5.mono hbr.size))
        clear hb5 H3
        go_wp2_with fail
        go_ret2
        exact ⟨by rw [← HD.out, ← HU.out, ← HT.out]; rfl, HB5.out⟩
      · have hz : t.size = 0 := by omega
        have hus : (ByteArray.empty).size ≤ 24 := by decide
        have H3 := fun W => hid (rwheel_any ByteArray.empty W hus)
        have hbe : bs ByteArray.empty = [] := rfl
        have hbt := bs_zero hz
        have hw0 : wlk (bs t) o t.size r = [] := by rw [hz]; rfl
        have hT0 : wheelT [] = [] := List.length_eq_zero_iff.1 (by rw [wheelT_len]; rfl)
        rw [hbe, wheelN_nil, hT0] at H3
        have hq : ((txt []).toList == t.toList) = true := same_yes (bs_inj (by rw [bs_txt, hbt]))
        have HD : Hid (txt (wlk (bs t) o t.size r) = ByteArray.empty ∧ decide (wheelT (wlk (bs t) o t.size r) = bs t) = true) := hid ⟨by rw [hw0]; rfl, decide_eq_true (by rw [hw0, hT0, hbt])⟩
        generalize txt [] = T at H3 hq
        clear hz hus hbe hbt hw0 hT0 HROW
        go_wp2_with fail
        refine (H3 _).out.mono ?_
        rintro e w5 ⟨rfl, hb5⟩
        have HB5 := hid (hbr.trans (hb5.mono hbr.size))
        clear hb5 H3
        go_wp2_with fail
        go_ret2
        exact ⟨by rw [HD.out.1, HD.out.2]; rfl, HB5.out⟩
end Go.Proofs.YtldhcmoecmfigaaDoor
