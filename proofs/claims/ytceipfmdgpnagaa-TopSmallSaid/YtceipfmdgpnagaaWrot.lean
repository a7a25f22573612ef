/-
  Contracts of wheel.rotations, of the iterator that it hands back (the rotations of a text, for every loop body that keeps the text), of slices.AppendSeq, slices.Collect and slices.Sorted over it: the rotations in their order, in new memory. Conditions: at most 24 signs.
-/
import Derived.Test.YtceipfmdgpnagaaWsp
import Derived.Test.YtceipfmdgpnagaaMem
import Derived.Test.YtceipfmdgpnagaaTail
import Derived.Test.YtceipfmdgpnagaaSortL
import Derived.Shelf.SortM.SortNone
import Derived.Sort.OwnSorted
import Derived.RangeFuncBox
import Derived.RangeFuncLeaves
import Derived.RangeFuncWrites
import Derived.RangeFuncNested
import Derived.Shelf.Abstract
import Derived.OwnWalkIn
import Derived.TacticsInMore
import Derived.LoopNIn
import Derived.LoopIn
import Derived.Maps.AppendAt
namespace Go.Proofs.Ytceipfmdgpnagaa
open Go.RowKit Go.Shelf Go.Proofs Go.Sort

attribute [local go_sem] Oper.semAt_some

theorem rots_any (s : ByteArray) (w : World) :
    Calls Try.prog 19 #[.string s] w fun e w' => e = .returned (.func (.func 29) #[] #[.pointer (some ⟨w.heap.size, 0, none⟩)]) ∧ w' = w.alloc (.cells #[.string s] 9) := by
  have hmf : ∀ (fn : Fn) (first cap : Array Value) (w : World), (Instr.makeFunc fn first cap).run Try.prog w = .ok (.func fn first cap) w := fun _ _ _ _ => rfl
  go_enter Try.func19, Try.ntmps19
  go_wp2
  go_ret
  exact ⟨rfl, rfl⟩

/-- What a round keeps: the blocks below n₀. -/
def KpB (n₀ : Nat) (W W' : World) : Prop := ∀ b, b < n₀ → W'.heap[b]? = W.heap[b]?
theorem KpB.refl (n₀ : Nat) (W : World) : KpB n₀ W W := fun _ _ => rfl
theorem KpB.trans {n₀ : Nat} {A B C : World} (h : KpB n₀ A B) (k : KpB n₀ B C) : KpB n₀ A C := fun b hb => (k b hb).trans (h b hb)
theorem KpB.cell {n₀ : Nat} {W W' : World} (h : KpB n₀ W W') {b o : Nat} (hb : b < n₀) : W'.cell? ⟨b, o, none⟩ = W.cell? ⟨b, o, none⟩ := by
  simp only [World.cell?, h b hb]
theorem kpB_b {n₀ B : Nat} (hn : n₀ ≤ B) (W : World) (l : Nat) (o o' : Obj) (hl : B ≤ l) (_ : W.heap[l]? = some o) (_ : o.isCells = false) (_ : o.isWalk = false) : KpB n₀ W (W.putObj l o') := fun b hb => by
  show (W.heap.setIfInBounds l o')[b]? = _
  rw [Array.getElem?_setIfInBounds_ne (by omega)]

/-- The first m rotations. -/
def spinTo (l : List UInt8) (m : Nat) : List (List UInt8) := (List.range m).map (spin l)
theorem spinTo_succ (l : List UInt8) (m : Nat) : spinTo l (m + 1) = spinTo l m ++ [spin l m] := by simp [spinTo, List.range_succ]
theorem spinTo_len (l : List UInt8) (m : Nat) : (spinTo l m).length = m := by simp [spinTo]

set_option maxRecDepth 100000 in
set_option maxHeartbeats 2000000 in
theorem rot_in (s : ByteArray) (hs : s.size ≤ 24) (m : Nat) (hm : 1 ≤ m) (l B n₀ : Nat) (hBn : B < n₀) (J Jx : List (List UInt8) → World → Prop)
    (hY : ∀ pre x W, J pre W → pre.length < 1000 → YieldAt Fence.wide (m - 1) Try.prog l #[encStr x] W fun e W' => (e = .returned (.bool true) ∧ J (pre ++ [x]) W' ∧ KpB n₀ W W') ∨ (e = .returned (.bool false) ∧ Jx (pre ++ [x]) W'))
    (W : World) (hJ : AbidesFrom W.heap.size J) (hB : W.cell? ⟨B, 0, none⟩ = some (.string s)) (h0 : J [] W) :
    CallsIn Fence.wide m Try.prog 29 #[.func (.yield l) #[] #[], .pointer (some ⟨B, 0, none⟩)] W fun e W' => (∃ v, e = .returned v) ∧
      ((∃ xs, xs = spins (bs s) ∧ J xs W') ∨ (∃ pre, True ∧ Jx pre W')) := by
  refine callsIn_of_wp Try.func29 rfl trivial ?_ rfl
  simp only [Try.ntmps29, List.size_toArray, List.length_cons, List.length_nil, Nat.reduceAdd, Nat.reduceSub, Array.replicate_succ, Array.replicate_zero, List.push_toArray, List.append_toArray, List.nil_append, List.cons_append]
  gi_wp2
  gi_loopw [6] (fun i wr => ∃ k : Nat, k ≤ s.size ∧ i = .int .i64 k ∧ Hid (J (spinTo (bs s) k) wr) ∧ Hid (KpB n₀ W wr)) (fun i _ => s.size - (intOf i).toNat)
  case atStart => exact ⟨0, Nat.zero_le _, rfl, hid h0, hid (KpB.refl _ _)⟩
  case round =>
    obtain ⟨k, hk, rfl, HJ, HK⟩ := hrel
    have hBr : wr.cell? ⟨B, 0, none⟩ = some (.string s) := (HK.out.cell hBn).trans hB
    by_cases hlt : k < s.size
    · have hc1 : ∀ W : World, Sem.run Try.prog (Instr.slice 9 (.string s) (some (.int .i64 (k : Int))) none none) W = .ok (.string (s.extract k s.size)) W := fun W =>
        run_slice_string_l W 9 s Try.underlying9 .i64 (k : Int) (by omega) (by omega)
      have hc2 : ∀ W : World, Sem.run Try.prog (Instr.slice 9 (.string s) none (some (.int .i64 (k : Int))) none) W = .ok (.string (s.extract 0 k)) W := fun W =>
        run_slice_string_h W 9 s Try.underlying9 .i64 (k : Int) (by omega) (by omega)
      have hadd := fun w => run_string_add_sum (P := Try.prog) w (s.extract k s.size) (s.extract 0 k) (by rw [ByteArray.size_extract, ByteArray.size_extract]; omega)
      have HX : Hid (s.extract k s.size ++ s.extract 0 k = txt (spin (bs s) k)) := hid (turn_txt s k)
      generalize s.extract k s.size ++ s.extract 0 k = X at hadd HX
      generalize s.extract k s.size = X1 at hc1 hadd
      generalize s.extract 0 k = X2 at hc2 hadd
      have HJ2 : Hid (∀ q, J (spinTo (bs s) k) (wr.drewN q)) := hid fun q => hJ _ wr _ none HJ.out ⟨rfl, rfl, rfl, Nat.le_refl _, fun _ _ _ => rfl⟩ (fun r e => by cases e)
      have HS := hid (spinTo_succ (bs s) k)
      have HLN := hid (spinTo_len (bs s) k)
      clear HJ
      gi_wp2
      refine wpIn_region_tail (C := fun w' => ∃ q, w' = wr.drewN q) (lets_wide _) 8 (by kernel_rfl) (by kernel_rfl) ⟨1, rfl⟩ ?_
      simp only [List.take_succ_cons, List.take_zero, List.drop_succ_cons, List.drop_zero]
      repeat (quiet_step (fail))
      refine wpQuiet_nil ?_
      rintro _ ⟨q, rfl⟩
      obtain ⟨fn, tmps, assign, body, hy, hR⟩ := hY _ (spin (bs s) k) (wr.drewN q) (HJ2.out q) (by rw [HLN.out]; omega)
      rw [show encStr (spin (bs s) k) = .string X by rw [HX.out]; rfl] at hy
      have HKq : Hid (KpB n₀ W (wr.drewN q)) := HK
      gi_wp2
      refine hR.mono ?_
      rintro e W3 (⟨rfl, hJ3, hk3⟩ | ⟨rfl, hJx3⟩)
      · gi_wp2
        go_roundw
        case rel => exact ⟨k + 1, by omega, by go_num, hid (by rw [HS.out]; exact hJ3), hid (HKq.out.trans hk3)⟩
        case measure => simp [intOf]; omega
      · gi_wp2
        refine bodyPost_ret (results_none rfl _ _ _) rfl ?_
        exact ⟨⟨_, rfl⟩, .inr ⟨_, trivial, hJx3⟩⟩
    · obtain rfl : k = s.size := by omega
      gi_wp2
      go_end0
      exact ⟨⟨_, rfl⟩, .inl ⟨_, rfl, by have := HJ.out; unfold spins; rw [bs_len]; exact this⟩⟩
theorem rot_stops (s : ByteArray) (hs : s.size ≤ 24) (m : Nat) (hm : 1 ≤ m) (B n₀ : Nat) (hBn : B < n₀) (w : World) (hn : n₀ ≤ w.heap.size) (hB : w.cell? ⟨B, 0, none⟩ = some (.string s)) :
    SeqStopsK Fence.wide m Try.prog 29 #[.pointer (some ⟨B, 0, none⟩)] (fun x : List UInt8 => #[encStr x]) (KpB n₀) (fun xs => xs = spins (bs s)) (fun _ => True) 1000 w := fun l J Jx W hW hJ _ hY h0 =>
  rot_in s hs m hm l B n₀ hBn J Jx hY W hJ ((hW.cell (p := ⟨B, 0, none⟩) (show B < w.heap.size by omega)).trans hB) h0
end Go.Proofs.Ytceipfmdgpnagaa
