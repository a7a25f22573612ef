/-
  Contracts of maps.Keys at a node's map, of its iterator, of slices.AppendSeq and slices.Collect over it: the map's keys, each once, in some order, in new memory. No condition but that the map is there.
-/
import Derived.Test.YtkcocdlfhgincaaDoorTsize
import Derived.RangeFuncBox
import Derived.RangeFuncLeaves
import Derived.RangeFuncWrites
import Derived.Shelf.Abstract
import Derived.OwnWalkIn
import Derived.TacticsInMore
import Derived.LoopNIn
import Derived.LoopIn
import Derived.Maps.AppendAt
import Derived.Sort.MapsRangeIn
namespace Go.Proofs.YtkcocdlfhgincaaDoor
open Go.RowKit Go.Maps Go.Shelf Go.Proofs

attribute [local go_sem] Oper.semAt_some

/-- A sign as a value. -/
def bv (c : UInt8) : Value := .int .u8 (c.toNat : Int)
/-- cs are the keys of the map D that have come: each once; left: those that are still to come. -/
def Met (D : DataW Unit) (left : Lit → Bool) (cs : List UInt8) : Prop := cs.Nodup ∧ ∀ c, c ∈ cs ↔ (Maps.has D (keyL c) = true ∧ left (keyL c) = false)
theorem met_start (D : DataW Unit) : Met D (Maps.has D) [] := ⟨List.nodup_nil, fun c => by cases Maps.has D (keyL c) <;> simp⟩
theorem met_step {D : DataW Unit} {left : Lit → Bool} {cs : List UInt8} (h : Met D left cs) {c : UInt8} (hh : Maps.has D (keyL c) = true) (hl : left (keyL c) = true) : Met D (fun z => left z && !z.sameKey (keyL c)) (cs ++ [c]) := by
  have hnew : c ∉ cs := fun hc => by have := ((h.2 c).1 hc).2; rw [hl] at this; cases this
  refine ⟨List.nodup_append.2 ⟨h.1, by simp, fun a ha b hb => by simp at hb; subst hb; exact fun e => hnew (e ▸ ha)⟩, fun d => ?_⟩
  rw [List.mem_append, List.mem_singleton, h.2 d]
  simp only [keyL_same]
  by_cases e : d = c
  · subst e; simp [hh]
  · simp [e]
theorem met_room {D : DataW Unit} {left : Lit → Bool} {cs : List UInt8} (h : Met D left cs) {c : UInt8} (hl : left (keyL c) = true) : cs.length < 256 := by
  have hnew : c ∉ cs := fun hc => by have := ((h.2 c).1 hc).2; rw [hl] at this; cases this
  have hn : ((c :: cs).map UInt8.toNat).Nodup := List.pairwise_map.2 (List.Pairwise.imp (fun {a b} (h : a ≠ b) e => h (UInt8.toNat_inj.1 e)) (List.nodup_cons.2 ⟨hnew, h.1⟩))
  have := nodup_len 256 _ hn fun i hi => by
    obtain ⟨d, _, rfl⟩ := List.mem_map.1 hi
    exact d.toNat_lt
  simp at this; omega

theorem keys_any (mb : Option Nat) (w : World) :
    Calls Tryd.prog 26 #[.map mb] w fun e w' => e = .returned (.func (.func 33) #[] #[.pointer (some ⟨w.heap.size, 0, none⟩)]) ∧ w' = w.alloc (.cells #[.map mb] 51) := by
  have hmf : ∀ (fn : Fn) (first cap : Array Value) (w : World), (Instr.makeFunc fn first cap).run Tryd.prog w = .ok (.func fn first cap) w := fun _ _ _ _ => rfl
  go_enter Tryd.func26, Tryd.ntmps26
  go_wp2
  go_ret
  exact ⟨rfl, rfl⟩

set_option maxRecDepth 100000 in
set_option maxHeartbeats 1000000 in
theorem iter_in (n : Nat) (hn : 1 ≤ n) (l Bm b nn : Nat) (D : DataW Unit) (J Jx : List UInt8 → World → Prop)
    (hY : ∀ pre x W, J pre W → pre.length < 256 → YieldAt Fence.wide (n - 1) Tryd.prog l #[bv x] W fun e W' => (e = .returned (.bool true) ∧ J (pre ++ [x]) W' ∧ KeepsWalks W W') ∨ (e = .returned (.bool false) ∧ Jx (pre ++ [x]) W'))
    (W : World) (hJ : AbidesFrom W.heap.size J) (hm : W.cell? ⟨Bm, 0, none⟩ = some (.map (some b))) (hown : W.ownsMap Tryd.prog 5 ptrE b nn D) (h0 : J [] W) :
    CallsIn Fence.wide n Tryd.prog 33 #[.func (.yield l) #[] #[], .pointer (some ⟨Bm, 0, none⟩)] W fun e W' => (∃ v, e = .returned v) ∧
      ((∃ cs, (cs.Nodup ∧ ∀ c, c ∈ cs ↔ Maps.has D (keyL c) = true) ∧ J cs W') ∨ (∃ pre, True ∧ Jx pre W')) := by
  refine callsIn_of_wp Tryd.func33 rfl trivial ?_ rfl
  simp only [Tryd.ntmps33, List.size_toArray, List.length_cons, List.length_nil, Nat.reduceAdd, Nat.reduceSub, Array.replicate_succ, Array.replicate_zero, List.push_toArray, List.append_toArray, List.nil_append, List.cons_append]
  gi_wp2_with (first
    | (gi_at_range; refine wpListIn_range_own _ rfl _ 51 rfl 5 44 byte_keyed Tryd.underlying51 ptrE b nn _ rfl hown ?_; intro w0 hrg0 hg0 hs0)
    | gi_in)
  go_frame
  gi_loopw [3] (fun _ wr => ∃ (left : Lit → Bool) (cnt : Nat) (cs : List UInt8), wr.ranges Tryd.prog 5 ptrE b W.heap.size nn D left cnt ∧ Met D left cs ∧ J cs wr) (fun _ wr => wr.rangeLeft b W.heap.size)
  case atStart => exact ⟨_, _, [], hrg0, met_start D, hJ [] W w0 none h0 hg0 (fun r e => by cases e)⟩
  case round =>
    obtain ⟨left, cnt, cs, hrg, hC, hJs⟩ := hrel
    gi_wp2_with (first
      | (gi_at_next; refine wpListIn_next_ranges _ rfl _ rfl 5 byte_keyed ptrE (Value.int .u8) id (fun key kl hk => by obtain ⟨x, hx, _⟩ := Maps.keyOf_int_inv Tryd.underlying5 hk; exact ⟨x, hx⟩) (fun v _ _ => ⟨v, rfl⟩) b W.heap.size nn _ _ _ rfl hrg ?_ ?_)
      | gi_in)
    · intro hc0 hl0
      gi_wp2
      go_end0
      exact ⟨⟨_, rfl⟩, .inl ⟨cs, ⟨hC.1, fun x => by rw [hC.2 x, hl0]; simp⟩, hJs⟩⟩
    · intro x v kl yd yp w2 cnt2 hkey hlk hv hat hrg2 hlt hg2 hs2 hen
      obtain ⟨x', ex, rfl, hwx⟩ := Maps.keyOf_int_inv Tryd.underlying5 hkey
      obtain rfl : x = x' := by simpa using ex
      obtain ⟨c, rfl⟩ := byte_of hwx
      have hJ2 : J cs w2 := hJ cs wr w2 (some W.heap.size) hJs hg2 (fun r e => by cases e; exact ⟨Nat.le_refl _, hrg.iter_walk⟩)
      obtain ⟨fn, tmps, assign, body, hy, hR⟩ := hY cs c w2 hJ2 (met_room hC hlk)
      unfold bv at hy
      have hC2 := met_step hC (has_true_of_atKey hat) hlk
      clear hs2
      gi_wp2
      refine hR.mono ?_
      rintro e W3 (⟨rfl, hJ3, hk3⟩ | ⟨rfl, hJx3⟩)
      · gi_wp2
        have hrg3 := hrg2.of_walks hk3
        go_roundw
        case rel => exact ⟨_, cnt2, cs ++ [c], hrg3, hC2, hJ3⟩
        case measure => rw [hrg3.left_eq, hrg.left_eq]; exact hlt
      · gi_wp2
        refine bodyPost_ret (results_none rfl _ _ _) rfl ?_
        exact ⟨⟨_, rfl⟩, .inr ⟨_, trivial, hJx3⟩⟩
theorem iter_stops (n : Nat) (hn : 1 ≤ n) (Bm b nn : Nat) (D : DataW Unit) (w : World) (hBm : Bm < w.heap.size) (hm : w.cell? ⟨Bm, 0, none⟩ = some (.map (some b))) (hown : w.ownsMap Tryd.prog 5 ptrE b nn D) :
    SeqStopsK Fence.wide n Tryd.prog 33 #[.pointer (some ⟨Bm, 0, none⟩)] (fun x : UInt8 => #[bv x]) KeepsWalks (fun cs => cs.Nodup ∧ ∀ c, c ∈ cs ↔ Maps.has D (keyL c) = true) (fun _ => True) 256 w := fun l J Jx W hW hJ _ hY h0 =>
  iter_in n hn l Bm b nn D J Jx hY W hJ ((hW.cell (p := ⟨Bm, 0, none⟩) hBm).trans hm) (ownsMap_block hown (hW.block b hown.lt)) h0

theorem byte_info : (Tryd.prog.info? 5).map (fun i => (i.zero, i.size, i.bytes)) = some (some (.int .u8 0), 1, 1) := by kernel_rfl

set_option maxRecDepth 100000 in
set_option maxHeartbeats 2000000 in
theorem append_in (Bm b nn : Nat) (D : DataW Unit) (w : World) (hBm : Bm < w.heap.size) (hm : w.cell? ⟨Bm, 0, none⟩ = some (.map (some b))) (hown : w.ownsMap Tryd.prog 5 ptrE b nn D) :
    CallsIn Fence.wide 5 Tryd.prog 37 #[.slice none 0 0, .func (.func 33) #[] #[.pointer (some ⟨Bm, 0, none⟩)]] w fun e w' =>
      ∃ (v : Value) (cs : List UInt8), e = .returned v ∧ (cs.Nodup ∧ ∀ c, c ∈ cs ↔ Maps.has D (keyL c) = true) ∧ w'.ownsRow w.heap.size 5 1 v cs.length (cs.map bv) ∧ Below w.heap.size w w' := by
  obtain ⟨i0, hi, hz0, hz1, hz2⟩ := info_parts byte_info
  refine callsIn_of_wp_marks Tryd.func37 rfl trivial ?_ rfl
  simp only [Tryd.ntmps37, List.size_toArray, List.length_cons, List.length_nil, Nat.reduceAdd, Nat.reduceSub, Array.replicate_succ, Array.replicate_zero, List.push_toArray, List.append_toArray, List.nil_append, List.cons_append]
  gi_wp2
  have bO := Boxed.new w 58 (.slice none 0 0)
  have hB0 : Below w.heap.size w (w.alloc (.cells #[.slice none 0 0] 58)) := (Below.refl _ w).alloc (Nat.le_refl _) _
  refine wpIn_rangeFunc_ownG rfl (by omega) (gf := 33) (lb := #[.pointer (some ⟨Bm, 0, none⟩)]) rfl trivial (enters_of Tryd.func33 (by kernel_rfl) rfl)
    (iter_stops (5 - 1) (by omega) Bm b nn D _ (by simp; omega) ((hB0.cell (p := ⟨Bm, 0, none⟩) hBm).trans hm) (hown.alloc _)) walksK_t walksK_b (Below.refl _ _) (fun _ => rfl)
    (fun pre W => (∃ v, Boxed W w.heap.size 58 v ∧ W.ownsRow w.heap.size 5 1 v pre.length (pre.map bv) ∧ True) ∧ Below w.heap.size w W)
    (fun _ _ _ => False)
    (OwnFrom.and (Own.from (holdsRow_own w.heap.size w.heap.size 58 5 1 (fun pre : List UInt8 => pre.length) (fun pre => pre.map bv) (fun _ _ => True)) _) (ownFrom_below (Nat.le_refl _) (by simp)))
    (fun _ _ _ _ _ hs _ _ => hs)
    ⟨⟨_, bO, World.ownsRow_nil _ _ _ _, trivial⟩, hB0⟩
    (fun x => { tmps := #[.slice none 0 0, .func (.func 33) #[] #[.pointer (some ⟨Bm, 0, none⟩)], .pointer (some ⟨w.heap.size, 0, none⟩), undef, .slice none 0 0, .int .u8 (x.toNat : Int), .func (.func 33) #[] #[.pointer (some ⟨Bm, 0, none⟩)], .int .u8 (x.toNat : Int), undef, undef, undef, undef, undef], defers := [] }) ?assign ?body ?done ?stop
  case assign =>
    intro l x W K hK
    gi_wp2
    exact hK
  case body =>
    rintro l pre x W ⟨⟨v, hv, hrow, _⟩, hB⟩ hlt
    have hc := hv.cell
    gi_wp2_with (gi_at_builtin; refine wpListIn_append_own _ rfl _ _ 58 rfl w.heap.size 5 i0 (.int .u8 0) 1 1 Tryd.underlying58 hi hz0 hz1 hz2 rfl (by decide) _ _ _ rfl (hrow.alloc _) ⟨W.heap.size, 0, none⟩ 1 1 [.int .u8 (x.toNat : Int)] rfl rfl (cell_one_new _ _ _) (by simp [Value.oneCell']) (by unfold maxLen; omega) (by omega) (by have := hB.size; simp; omega) ?_; intro v' w1 hown' hgrow _; obtain ⟨g', cap', rfl⟩ := ownsRow_succ hown'; obtain ⟨hv1, hv2, hr2, hk2, hb2⟩ := hv.appended (by decide) hrow hB.size (Nat.le_refl _) hown' hgrow; have hc1 := hv1.cell; have hf1 := hv1.frozen)
    have hr3 := hr2
    rw [show pre.map bv ++ [Value.int .u8 (x.toNat : Int)] = (pre ++ [x]).map bv by rw [List.map_append]; rfl] at hr3
    have hl : (pre ++ [x]).length = pre.length + 1 := by simp
    exact ⟨hk2.from _, hk2.walks, ⟨_, hv2, by rw [hl]; exact hr3, trivial⟩, hB.trans hb2⟩
  case done =>
    rintro D ys W hD hS ⟨⟨v, hv, hrow, _⟩, hB⟩ hK
    have hc := hv.cell
    gi_wp2
    refine ⟨by simp, .inl ⟨_, _, rfl, run_takeDeferred hK, ?_⟩⟩
    exact ⟨_, results_tmp rfl _ _ _, v, ys, rfl, hS, ownsRow_putObj hrow _ hK rfl, hB.trans (belowK_b (w := w) (Nat.le_refl _) W D _ _ (by simp at hD; omega) hK rfl rfl)⟩
  case stop =>
    rintro D c pre W _ _ h _
    exact h.elim
theorem collect_any (Bm b nn : Nat) (D : DataW Unit) (w : World) (hBm : Bm < w.heap.size) (hm : w.cell? ⟨Bm, 0, none⟩ = some (.map (some b))) (hown : w.ownsMap Tryd.prog 5 ptrE b nn D) :
    Calls Tryd.prog 31 #[.func (.func 33) #[] #[.pointer (some ⟨Bm, 0, none⟩)]] w fun e w' =>
      ∃ (v : Value) (cs : List UInt8), e = .returned v ∧ (cs.Nodup ∧ ∀ c, c ∈ cs ↔ Maps.has D (keyL c) = true) ∧ w'.ownsRow w.heap.size 5 1 v cs.length (cs.map bv) ∧ Below w.heap.size w w' := by
  have HC := hid (callsIn_wide.1 (append_in Bm b nn D w hBm hm hown))
  clear hm hown hBm
  go_enter Tryd.func31, Tryd.ntmps31
  go_wp2_with (go_at_call 37; refine HC.out.mono ?_; rintro e w1 ⟨v, cs, rfl, hS, hrow, hb1⟩)
  go_ret
  exact ⟨v, cs, rfl, hS, hrow, hb1⟩
end Go.Proofs.YtkcocdlfhgincaaDoor
