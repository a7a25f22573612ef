/-
  Contracts of slices.AppendSeq, slices.Collect and slices.Sorted at texts, over the iterator of a text's rotations: the rotations in their order, in new memory; the old memory stays as it was. Conditions: at most 24 signs.
-/
import Derived.Test.YtceipfmdgpnagaaWrot
namespace Go.Proofs.Ytceipfmdgpnagaa
open Go.RowKit Go.Shelf Go.Proofs Go.Sort

attribute [local go_sem] Oper.semAt_some

theorem strg_info : (Try.prog.info? 9).map (fun i => (i.zero, i.size, i.bytes)) = some (some (.string ByteArray.empty), 1, 16) := by kernel_rfl

set_option maxRecDepth 100000 in
set_option maxHeartbeats 2000000 in
theorem wapp_in (s : ByteArray) (hs : s.size ≤ 24) (B : Nat) (w : World) (hBl : B < w.heap.size) (hB : w.cell? ⟨B, 0, none⟩ = some (.string s)) :
    CallsIn Fence.wide 5 Try.prog 37 #[.slice none 0 0, .func (.func 29) #[] #[.pointer (some ⟨B, 0, none⟩)]] w fun e w' =>
      ∃ (v : Value), e = .returned v ∧ w'.ownsRow w.heap.size 9 1 v (spins (bs s)).length ((spins (bs s)).map encStr) ∧ Below w.heap.size w w' := by
  obtain ⟨i0, hi, hz0, hz1, hz2⟩ := info_parts strg_info
  refine callsIn_of_wp_marks Try.func37 rfl trivial ?_ rfl
  simp only [Try.ntmps37, List.size_toArray, List.length_cons, List.length_nil, Nat.reduceAdd, Nat.reduceSub, Array.replicate_succ, Array.replicate_zero, List.push_toArray, List.append_toArray, List.nil_append, List.cons_append]
  gi_wp2
  have bO := Boxed.new w 50 (.slice none 0 0)
  have hB0 : Below w.heap.size w (w.alloc (.cells #[.slice none 0 0] 50)) := (Below.refl _ w).alloc (Nat.le_refl _) _
  refine wpIn_rangeFunc_ownG rfl (by omega) (gf := 29) (lb := #[.pointer (some ⟨B, 0, none⟩)]) rfl trivial (enters_of Try.func29 (by kernel_rfl) rfl)
    (rot_stops s hs (5 - 1) (by omega) B w.heap.size hBl _ (by simp) ((hB0.cell (p := ⟨B, 0, none⟩) hBl).trans hB)) KpB.trans (kpB_b (by simp)) (Below.refl _ _) (fun _ => rfl)
    (fun pre W => (∃ v, Boxed W w.heap.size 50 v ∧ W.ownsRow w.heap.size 9 1 v pre.length (pre.map encStr) ∧ True) ∧ Below w.heap.size w W)
    (fun _ _ _ => False)
    (OwnFrom.and (Own.from (holdsRow_own w.heap.size w.heap.size 50 9 1 (fun pre : List (List UInt8) => pre.length) (fun pre => pre.map encStr) (fun _ _ => True)) _) (ownFrom_below (Nat.le_refl _) (by simp)))
    (fun _ _ _ _ _ hs _ _ => hs)
    ⟨⟨_, bO, World.ownsRow_nil _ _ _ _, trivial⟩, hB0⟩
    (fun x => { tmps := #[.slice none 0 0, .func (.func 29) #[] #[.pointer (some ⟨B, 0, none⟩)], .pointer (some ⟨w.heap.size, 0, none⟩), undef, .slice none 0 0, encStr x, .func (.func 29) #[] #[.pointer (some ⟨B, 0, none⟩)], encStr x, undef, undef, undef, undef, undef], defers := [] }) ?assign ?body ?done ?stop
  case assign =>
    intro l x W K hK
    gi_wp2
    exact hK
  case body =>
    rintro l pre x W ⟨⟨v, hv, hrow, _⟩, hB⟩ hlt
    have hc := hv.cell
    gi_wp2_with (gi_at_builtin; refine wpListIn_append_own _ rfl _ _ 50 rfl w.heap.size 9 i0 (.string ByteArray.empty) 1 16 Try.underlying50 hi hz0 hz1 hz2 rfl (by decide) _ _ _ rfl (hrow.alloc _) ⟨W.heap.size, 0, none⟩ 1 1 [encStr x] rfl rfl (cell_one_new _ _ _) (by simp [Value.oneCell']) (by unfold maxLen; omega) (by omega) (by have := hB.size; simp; omega) ?_; intro v' w1 hown' hgrow _; obtain ⟨g', cap', rfl⟩ := ownsRow_succ hown'; obtain ⟨hv1, hv2, hr2, hk2, hb2⟩ := hv.appended (by decide) hrow hB.size (Nat.le_refl _) hown' hgrow; have hc1 := hv1.cell; have hf1 := hv1.frozen)
    have hr3 := hr2
    rw [show pre.map encStr ++ [encStr x] = (pre ++ [x]).map encStr by rw [List.map_append]; rfl] at hr3
    have hl : (pre ++ [x]).length = pre.length + 1 := by simp
    exact ⟨hk2.from _, fun b hb => hb2.block b hb, ⟨_, hv2, by rw [hl]; exact hr3, trivial⟩, hB.trans hb2⟩
  case done =>
    rintro D ys W hD hS ⟨⟨v, hv, hrow, _⟩, hB⟩ hK
    have hc := hv.cell
    gi_wp2
    refine ⟨by simp, .inl ⟨_, _, rfl, run_takeDeferred hK, ?_⟩⟩
    subst hS
    exact ⟨_, results_tmp rfl _ _ _, v, rfl, ownsRow_putObj hrow _ hK rfl, hB.trans (belowK_b (w := w) (Nat.le_refl _) W D _ _ (by simp at hD; omega) hK rfl rfl)⟩
  case stop =>
    rintro D c pre W _ _ h _
    exact h.elim
theorem wcollect_any (s : ByteArray) (hs : s.size ≤ 24) (B : Nat) (w : World) (hBl : B < w.heap.size) (hB : w.cell? ⟨B, 0, none⟩ = some (.string s)) :
    Calls Try.prog 27 #[.func (.func 29) #[] #[.pointer (some ⟨B, 0, none⟩)]] w fun e w' =>
      ∃ (v : Value), e = .returned v ∧ w'.ownsRow w.heap.size 9 1 v (spins (bs s)).length ((spins (bs s)).map encStr) ∧ Below w.heap.size w w' := by
  have HC := hid (callsIn_wide.1 (wapp_in s hs B w hBl hB))
  clear hB hBl
  go_enter Try.func27, Try.ntmps27
  go_wp2_with (go_at_call 37; refine HC.out.mono ?_; rintro e w1 ⟨v, rfl, hrow, hb1⟩)
  go_ret
  exact ⟨v, rfl, hrow, hb1⟩
/-- slices.Sorted over a text's rotations. -/
theorem wsorted_any (s : ByteArray) (hs : s.size ≤ 24) (B : Nat) (w : World) (hBl : B < w.heap.size) (hB : w.cell? ⟨B, 0, none⟩ = some (.string s)) :
    Calls Try.prog 18 #[.func (.func 29) #[] #[.pointer (some ⟨B, 0, none⟩)]] w fun e w' =>
      ∃ (v : Value), e = .returned v ∧ w'.ownsRow w.heap.size 9 1 v s.size ((wheelM (bs s)).map encStr) ∧ Below w.heap.size w w' := by
  have HC := hid (wcollect_any s hs B w hBl hB)
  have hlen : (spins (bs s)).length = s.size := by rw [spins_len, bs_len]
  rw [hlen] at HC
  clear hB hBl
  go_enter Try.func18, Try.ntmps18
  go_wp2_with fail
  refine HC.out.mono ?_
  rintro e W ⟨v, rfl, hrow, hb⟩
  have HR := hid hrow
  rcases hrow.2 with ⟨rfl, hz⟩ | ⟨gb, cap, cur, rfl, hbase, hgb, r1, r2, r3, r4⟩
  · have cN := hid (show Calls Try.prog 28 #[.slice none 0 0] W fun e w' => e = .returned (.tuple #[]) ∧ w' = W from AnyM.slices_Sort_string_none sortStr none 0 W)
    clear hrow HC
    go_wp2_with fail
    refine cN.out.mono ?_
    rintro e w' ⟨rfl, hw'⟩
    subst w'
    go_wp2_with fail
    go_ret
    have h0 : wheelM (bs s) = [] := List.length_eq_zero_iff.1 (by rw [wheelM_len, bs_len]; exact hz)
    have h1 : spins (bs s) = [] := List.length_eq_zero_iff.1 (by rw [hlen]; exact hz)
    have h2 := HR.out
    rw [h1] at h2
    rw [h0]
    exact ⟨_, rfl, h2, hb⟩
  · have hH : Holds encStr W gb 0 (spins (bs s)).toArray := holds_of_block hgb (by simpa [hlen] using r4)
    have hgl : gb < W.heap.size := (Array.getElem?_eq_some_iff.1 hgb).1
    have cS := hid (show Calls Try.prog 28 #[.slice (some ⟨gb, 0, none⟩) s.size cap] W fun e w' => e = .returned (.tuple #[]) ∧ ∃ k os, w' = grow (putRow encStr (Sort.ahead W k) gb 0 ((spins (bs s)).mergeSort fun x y => decide (x ≤ y)).toArray) os from by
      have := AnyM.slices_Sort_string sortStr gb 0 cap (spins (bs s)) W hH hgl (by rw [hlen]; omega)
      rw [hlen] at this
      exact this)
    have HG := hid (And.intro hbase (And.intro hgb (And.intro r1 (And.intro r2 r3))))
    clear hrow HC hH hgl hbase hgb r1 r2 r3 r4
    go_wp2_with fail
    refine cS.out.mono ?_
    rintro e w' ⟨rfl, nn, os, hw'⟩
    subst w'
    go_wp2_with fail
    go_ret
    obtain ⟨hbase, hgb, r1, r2, r3⟩ := HG.out
    refine ⟨_, rfl, ?_, hb.grown (grownBy_sorted _) hb.size (fun j hj => by cases hj; exact hbase)⟩
    have := ownsRow_sorted (n := nn) (os := os) (ss := spins (bs s)) (ts := wheelM (bs s)) (by rw [wheelM_len, spins_len]) hbase hgb (by rw [hlen]; exact r1) r2 r3
    rw [hlen] at this
    exact this
end Go.Proofs.Ytceipfmdgpnagaa
