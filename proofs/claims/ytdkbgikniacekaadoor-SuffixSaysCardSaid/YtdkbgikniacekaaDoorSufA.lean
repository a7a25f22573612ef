/-
  Contract of suffix.Alike: what neighbours in the order of a text's ends begin with alike, in new memory; the old memory stays as it was. Conditions: none but the sizes that a row itself sets.
-/
import Derived.Test.YtdkbgikniacekaaDoorSufN
import Derived.RangeFuncNested
import Derived.Maps.AppendAt
namespace Go.Proofs.YtdkbgikniacekaaDoor
open Go.RowKit Go.Shelf Go.Proofs

attribute [local go_sem] Oper.semAt_some

theorem salike_long (s : ByteArray) (w : World) (h : 24 < s.size) (hs : s.size ≤ maxLen) :
    Calls Tryd.prog 12 #[.string s] w fun e w' => e = .returned (.tuple #[.slice none 0 0, .iface 41 (.int .i64 4)]) ∧ Below w.heap.size w w' := by
  have H1 := fun W => hid (order_long s W h hs)
  unfold maxLen at hs
  go_enter Tryd.func12, Tryd.ntmps12
  go_wp2_with fail
  refine (H1 _).out.mono ?_
  rintro e w1 ⟨rfl, hb1⟩
  have hb0 : Below w.heap.size w (w.alloc (.cells #[.string s] 9)) := (Below.refl _ _).alloc (Nat.le_refl _) _
  clear H1
  go_wp2
  go_ret2
  exact ⟨rfl, hb0.trans (hb1.mono (by simp))⟩

/-- What the ends at two places begin with alike. -/
def lcN (s : ByteArray) (x : Plc s × Plc s) : Int := (lc ((bs s).drop x.1.1) ((bs s).drop x.2.1) : Nat)
theorem prsN_nb (s : ByteArray) (o : List Nat) (m : Nat) (h : ∀ i, i < m + 1 → o.getD i 0 ≤ s.size) : (prsN s o m).map (lcN s) = nbTo (bs s) o m := by
  unfold prsN nbTo
  rw [List.map_map]
  refine List.map_congr_left fun k hk => ?_
  have hk' := List.mem_range.1 hk
  show lcN s (toP s (o.getD k 0), toP s (o.getD (k + 1) 0)) = _
  unfold lcN lcp
  rw [toP_val (h k (by omega)), toP_val (h (k + 1) (by omega))]

set_option maxRecDepth 100000 in
set_option maxHeartbeats 4000000 in
theorem salike_in (s : ByteArray) (w : World) (h : s.size ≤ 24) :
    CallsIn Fence.wide 9 Tryd.prog 12 #[.string s] w fun e w' => ∃ v o, e = .returned (.tuple #[v, .nilIface]) ∧ Ord (bs s) o ∧ OwnI w' w.heap.size 3 v (nbTo (bs s) o (s.size - 1)) ∧ Below w.heap.size w w' := by
  obtain ⟨i0, hi, hz0, hz1, hz2⟩ := info_parts int_info
  refine callsIn_of_wp_marks Tryd.func12 rfl trivial ?_ rfl
  simp only [Tryd.ntmps12, List.size_toArray, List.length_cons, List.length_nil, Nat.reduceAdd, Nat.reduceSub, Array.replicate_succ, Array.replicate_zero, List.push_toArray, List.append_toArray, List.nil_append, List.cons_append]
  gi_wp2_with fail
  refine ⟨trivial, (callsIn_wide.2 (order_any s _ h)).mono ?_⟩
  rintro e w2 ⟨A, c, o, rfl, hO, hI, hb2⟩
  have hb0 : Below w.heap.size w (w.alloc (.cells #[.string s] 9)) := (Below.refl _ _).alloc (Nat.le_refl _) _
  have hcs2 : w2.cell? ⟨w.heap.size, 0, none⟩ = some (.string s) := (hb2.cell (p := ⟨w.heap.size, 0, none⟩) (by simp)).trans (by simp)
  have hbw2 : Below w.heap.size w w2 := hb0.trans (hb2.mono (by simp))
  have hw2 : w.heap.size < w2.heap.size := by have := hb2.size; simp at this; omega
  have HO := hid hO
  have HI := hid hI
  clear hO hI hb2 hb0
  gi_wp2_with fail
  refine ⟨trivial, (callsIn_wide.2 (neigh_any _ _ _ _)).mono ?_⟩
  rintro e w3 ⟨rfl, hw3⟩
  subst w3
  gi_wp2_with fail
  have bO := Boxed.new w2 23 (.slice none 0 0)
  have bN := Boxed.new (w2.alloc (.cells #[.slice none 0 0] 23)) 23 (.slice A s.size c)
  rw [World.size_alloc] at bN
  have hB4 : Below w2.heap.size w2 ((w2.alloc (.cells #[.slice none 0 0] 23)).alloc (.cells #[.slice A s.size c] 23)) := ((Below.refl _ w2).alloc (Nat.le_refl _) _).alloc (by simp) _
  have hol : o.length = s.size := by rw [HO.out.len, bs_len]
  have hos : ∀ i ∈ o, i ≤ s.size := fun i hi => by have := HO.out.mem.1 hi; rw [bs_len] at this; omega
  refine wpIn_rangeFunc_ownG rfl (by omega) (gf := 27) (lb := #[.pointer (some ⟨w2.heap.size + 1, 0, none⟩)]) rfl trivial (enters_of Tryd.func27 (by kernel_rfl) rfl)
    (neigh_stops s o (9 - 1) (by omega) (w2.heap.size + 1) w2.heap.size s.size c A (by omega) hol hos _ (by simp) (by simp; omega) bN.cell (HI.out.keep (Nat.le_refl _) fun b o hb => hB4.cell (p := ⟨b, o, none⟩) hb)) KpN.trans (kpN_b (by simp; omega) (by simp)) (Below.refl _ _) (fun _ => rfl)
    (fun pre W => (∃ v, Boxed W w2.heap.size 23 v ∧ W.ownsRow w2.heap.size 3 1 v (pre.map (lcN s)).length ((pre.map (lcN s)).map (Value.int .i64)) ∧ True) ∧ (Boxed W (w2.heap.size + 1) 23 (.slice A s.size c) ∧ Below w2.heap.size w2 W))
    (fun _ _ _ => False)
    (OwnFrom.and (Own.from (holdsRow_own w2.heap.size w2.heap.size 23 3 1 (fun pre : List (Plc s × Plc s) => (pre.map (lcN s)).length) (fun pre => (pre.map (lcN s)).map (Value.int .i64)) (fun _ _ => True)) _) (OwnFrom.and (Own.from (boxed_own _ _ _) _) (ownFrom_below (Nat.le_refl _) (by simp; omega))))
    (fun _ _ _ _ _ hs _ _ => hs)
    ⟨⟨_, bO.alloc _, World.ownsRow_nil _ _ _ _, trivial⟩, bN, hB4⟩
    (fun x => { tmps := #[.string s, .pointer (some ⟨w.heap.size, 0, none⟩), .slice none 0 0, .nilIface, .slice A s.size c, .nilIface, .pointer (some ⟨w2.heap.size, 0, none⟩), .int .i64 (x.1.1 : Int), .int .i64 (x.2.1 : Int), .tuple #[.slice A s.size c, .nilIface], .string s, .tuple #[.slice A s.size c, .nilIface], .slice A s.size c, .nilIface, .nilIface, .bool false, undef, .slice A s.size c, .func (.func 27) #[] #[.pointer (some ⟨w2.heap.size + 1, 0, none⟩)], .int .i64 (x.1.1 : Int), .int .i64 (x.2.1 : Int), undef, undef, undef, undef, undef, undef, undef, undef, undef, undef, undef], defers := [] }) ?assign ?body ?done ?stop
  case assign =>
    intro l x W K hK
    unfold encN
    gi_wp2
    exact hK
  case body =>
    rintro l pre x W ⟨⟨v, hv, hrow, _⟩, hbn, hB⟩ hlt
    have hcs : W.cell? ⟨w.heap.size, 0, none⟩ = some (.string s) := (hB.cell (p := ⟨w.heap.size, 0, none⟩) hw2).trans hcs2
    have hx1 := x.1.2
    have hx2 := x.2.2
    have hc1 : ∀ W : World, Sem.run Tryd.prog (Instr.slice 9 (.string s) (some (.int .i64 (x.1.1 : Int))) none none) W = .ok (.string (s.extract x.1.1 s.size)) W := fun W =>
      run_slice_string_l W 9 s Tryd.underlying9 .i64 (x.1.1 : Int) (by omega) (by omega)
    have hc2 : ∀ W : World, Sem.run Tryd.prog (Instr.slice 9 (.string s) (some (.int .i64 (x.2.1 : Int))) none none) W = .ok (.string (s.extract x.2.1 s.size)) W := fun W =>
      run_slice_string_l W 9 s Tryd.underlying9 .i64 (x.2.1 : Int) (by omega) (by omega)
    have HC := fun W => hid (scommon_any (s.extract x.1.1 s.size) (s.extract x.2.1 s.size) W (by rw [ByteArray.size_extract]; omega) (by rw [ByteArray.size_extract]; omega))
    rw [alikeN_lc, bs_drop, bs_drop] at HC
    have HL : Hid (((lc ((bs s).drop x.1.1) ((bs s).drop x.2.1) : Nat) : Int) = lcN s x) := hid rfl
    generalize ((lc ((bs s).drop x.1.1) ((bs s).drop x.2.1) : Nat) : Int) = L at HC HL
    generalize s.extract x.1.1 s.size = t1 at hc1 HC
    generalize s.extract x.2.1 s.size = t2 at hc2 HC
    generalize (x.1.1 : Int) = x1 at hc1
    generalize (x.2.1 : Int) = x2 at hc2
    have hcv := hv.cell
    have hlen : (pre.map (lcN s)).length < 1000 := by simpa using hlt
    have HP : Hid ((pre ++ [x]).map (lcN s) = pre.map (lcN s) ++ [L]) := hid (by rw [List.map_append, HL.out]; rfl)
    generalize pre.map (lcN s) = ys at hrow hlen HP
    clear hx1 hx2 hlt
    gi_wp2
    refine wpIn_region_float (C := fun w' => ∃ q, w' = W.drewN q) (lets_round _ l) 8 21 _ _ undef (by kernel_rfl) rfl rfl rfl rfl (by kernel_rfl) ⟨1, rfl⟩ ?_
    simp only [List.take_succ_cons, List.take_zero, List.drop_succ_cons, List.drop_zero]
    repeat (quiet_step ((go_at_call 21; exact Calls.quiet_of (HC _).out)))
    refine wpQuiet_nil ?_
    rintro _ ⟨q, rfl⟩
    obtain ⟨W1, hW1⟩ : ∃ z, z = W.drewN q := ⟨_, rfl⟩
    have hv1 : Boxed W1 w2.heap.size 23 v := by rw [hW1]; exact hv
    have hrow1 : W1.ownsRow w2.heap.size 3 1 v ys.length (ys.map (Value.int .i64)) := by rw [hW1]; exact hrow
    have hbn1 : Boxed W1 (w2.heap.size + 1) 23 (.slice A s.size c) := by rw [hW1]; exact hbn
    have hB1 : Below w2.heap.size w2 W1 := by rw [hW1]; exact below_drewN hB q
    have hca : ∀ o : Obj, (W1.alloc o).cell? ⟨w2.heap.size, 0, none⟩ = some v := fun o => (hv1.alloc o).cell
    have fin : ∀ (tmp : Obj) (v' : Value) (w3 : World), w3.ownsRow w2.heap.size 3 1 v' (ys.length + 1) (ys.map (Value.int .i64) ++ [.int .i64 L]) → (W1.alloc tmp).grownBy w3 v.ownBlock →
        KeepsFrom ((w2.alloc (.cells #[.slice none 0 0] 23)).alloc (.cells #[.slice A s.size c] 23)).heap.size W (w3.setCell ⟨w2.heap.size, 0, none⟩ v') ∧ KpN w2.heap.size (w2.heap.size + 1) W (w3.setCell ⟨w2.heap.size, 0, none⟩ v') ∧
        ((∃ v2, Boxed (w3.setCell ⟨w2.heap.size, 0, none⟩ v') w2.heap.size 23 v2 ∧ (w3.setCell ⟨w2.heap.size, 0, none⟩ v').ownsRow w2.heap.size 3 1 v2 ((pre ++ [x]).map (lcN s)).length (((pre ++ [x]).map (lcN s)).map (Value.int .i64)) ∧ True) ∧
          Boxed (w3.setCell ⟨w2.heap.size, 0, none⟩ v') (w2.heap.size + 1) 23 (.slice A s.size c) ∧ Below w2.heap.size w2 (w3.setCell ⟨w2.heap.size, 0, none⟩ v')) := by
      intro tmp v' w3 hown' hgrow
      obtain ⟨hv3, hv4, hr4, hk4, hb4⟩ := hv1.appended (by decide) hrow1 hB1.size (Nat.le_refl _) hown' hgrow
      have hbn3 : Boxed (w3.setCell ⟨w2.heap.size, 0, none⟩ v') (w2.heap.size + 1) 23 (.slice A s.size c) := ((hbn1.alloc tmp).kept hgrow (hbn1.not_row (by decide) hrow1)).other (by omega) _
      rw [hW1] at hk4 hb4
      refine ⟨(KeepsOthers.trans (show KeepsOthers W (W.drewN q) from ⟨Nat.le_refl _, fun _ _ h _ => h⟩) hk4).from _, fun b hb => ?_, ⟨_, hv4, ?_, trivial⟩, hbn3, hB1.trans (by rw [hW1]; exact hb4)⟩
      · rcases hb with hb | rfl
        · exact hb4.block b hb
        · exact Eq.trans (show _ = _ from hbn3) (show _ = W.heap[w2.heap.size + 1]? from Eq.symm hbn)
      · rw [HP.out, List.length_append, List.map_append]; exact hr4
    have hcv1 := hv1.cell
    rw [← hW1]
    clear hW1 hv hrow hbn hB hcv hcs hc1 hc2 HC hcs2 bO bN hB4
    refine ⟨?_, ?_⟩
    · gi_wp2_with (gi_at_builtin; refine wpListIn_append_own _ rfl _ _ 23 rfl w2.heap.size 3 i0 (.int .i64 0) 1 8 Tryd.underlying23 hi hz0 hz1 hz2 rfl (by decide) _ _ _ rfl (hrow1.alloc _) ⟨W1.heap.size, 0, none⟩ 1 1 [.int .i64 L] rfl rfl (cell_one_new _ _ _) (by simp [Value.oneCell']) (by unfold maxLen; omega) (by omega) (by have := hB1.size; simp; omega) ?_; intro v' w1 hown' hgrow _; obtain ⟨g', cap', rfl⟩ := ownsRow_succ hown'; have HF := hid (fin _ _ _ hown' hgrow); have hcc := (hv1.appended (by decide) hrow1 hB1.size (Nat.le_refl _) hown' hgrow).1.cell; have hff := (hv1.appended (by decide) hrow1 hB1.size (Nat.le_refl _) hown' hgrow).1.frozen; clear hown' hgrow)
      exact HF.out
    · gi_wp2_with (gi_at_builtin; refine wpListIn_append_own _ rfl _ _ 23 rfl w2.heap.size 3 i0 (.int .i64 0) 1 8 Tryd.underlying23 hi hz0 hz1 hz2 rfl (by decide) _ _ _ rfl (hrow1.alloc _) ⟨W1.heap.size, 0, none⟩ 1 1 [.int .i64 L] rfl rfl (cell_one_new _ _ _) (by simp [Value.oneCell']) (by unfold maxLen; omega) (by omega) (by have := hB1.size; simp; omega) ?_; intro v' w1 hown' hgrow _; obtain ⟨g', cap', rfl⟩ := ownsRow_succ hown'; have HF := hid (fin _ _ _ hown' hgrow); have hcc := (hv1.appended (by decide) hrow1 hB1.size (Nat.le_refl _) hown' hgrow).1.cell; have hff := (hv1.appended (by decide) hrow1 hB1.size (Nat.le_refl _) hown' hgrow).1.frozen; clear hown' hgrow)
      exact HF.out
  case done =>
    rintro D ys W hD hS ⟨⟨v, hv, hrow, _⟩, hbn, hB⟩ hK
    have hc := hv.cell
    gi_wp2
    refine ⟨by simp, .inl ⟨_, _, rfl, run_takeDeferred hK, ?_⟩⟩
    subst hS
    have hbs := bs_len s
    rw [prsN_nb s o (s.size - 1) (fun i hi => by
      by_cases h0 : s.size = 0
      · have : o = [] := List.length_eq_zero_iff.1 (by rw [hol]; exact h0)
        subst this; simp
      · exact hos _ (getN_mem (by rw [hol]; omega)))] at hrow
    exact ⟨_, results_tmp2 rfl _ _ _, v, o, rfl, HO.out, OwnI.base (b := w2.heap.size) (ownsRow_putObj hrow _ hK rfl) (by omega), hbw2.trans ((hB.trans (belowK_b (w := w2) (Nat.le_refl _) W D _ _ (by simp at hD; omega) hK rfl rfl)).mono (by omega))⟩
  case stop =>
    rintro D c pre W _ _ h _
    exact h.elim
theorem salike_any (s : ByteArray) (w : World) (h : s.size ≤ 24) :
    Calls Tryd.prog 12 #[.string s] w fun e w' => ∃ v o, e = .returned (.tuple #[v, .nilIface]) ∧ Ord (bs s) o ∧ OwnI w' w.heap.size 3 v (nbTo (bs s) o (s.size - 1)) ∧ Below w.heap.size w w' :=
  callsIn_wide.1 (salike_in s w h)
end Go.Proofs.YtdkbgikniacekaaDoor
