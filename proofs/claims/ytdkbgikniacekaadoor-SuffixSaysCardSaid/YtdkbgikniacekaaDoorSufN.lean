/-
  Contracts of suffix.neighbours at ints and of the iterator that it hands back: each element of a list but the last one, with the next one, for every loop body that keeps the list. No condition but that the list is there.
-/
import Derived.Test.YtdkbgikniacekaaDoorSufO
import Derived.Test.YtdkbgikniacekaaDoorTail
import Derived.RangeFuncBox
import Derived.RangeFuncLeaves
import Derived.RangeFuncWrites
import Derived.Shelf.Abstract
import Derived.OwnWalkIn
import Derived.TacticsInMore
import Derived.LoopNIn
import Derived.LoopIn
namespace Go.Proofs.YtdkbgikniacekaaDoor
open Go.RowKit Go.Shelf Go.Proofs

attribute [local go_sem] Oper.semAt_some

theorem neigh_any (A : Option Addr) (n c : Nat) (w : World) :
    Calls Tryd.prog 20 #[.slice A n c] w fun e w' => e = .returned (.func (.func 27) #[] #[.pointer (some ⟨w.heap.size, 0, none⟩)]) ∧ w' = w.alloc (.cells #[.slice A n c] 23) := by
  have hmf : ∀ (fn : Fn) (first cap : Array Value) (w : World), (Instr.makeFunc fn first cap).run Tryd.prog w = .ok (.func fn first cap) w := fun _ _ _ _ => rfl
  go_enter Tryd.func20, Tryd.ntmps20
  go_wp2
  go_ret
  exact ⟨rfl, rfl⟩

/-- A place of the text, whatever number it is. -/
def toP (s : ByteArray) (i : Nat) : Plc s := if h : i ≤ s.size then ⟨i, h⟩ else ⟨0, Nat.zero_le _⟩
theorem toP_val {s : ByteArray} {i : Nat} (h : i ≤ s.size) : (toP s i).1 = i := by unfold toP; rw [dif_pos h]
/-- The first m pairs of neighbours. -/
def prsN (s : ByteArray) (o : List Nat) (m : Nat) : List (Plc s × Plc s) := (List.range m).map fun k => (toP s (o.getD k 0), toP s (o.getD (k + 1) 0))
theorem prsN_succ (s : ByteArray) (o : List Nat) (m : Nat) : prsN s o (m + 1) = prsN s o m ++ [(toP s (o.getD m 0), toP s (o.getD (m + 1) 0))] := by simp [prsN, List.range_succ]
theorem prsN_len (s : ByteArray) (o : List Nat) (m : Nat) : (prsN s o m).length = m := by simp [prsN]
def encN (s : ByteArray) (x : Plc s × Plc s) : Array Value := #[.int .i64 (x.1.1 : Int), .int .i64 (x.2.1 : Int)]
/-- What a round keeps: the blocks below n₀, and the block Bn. -/
def KpN (n₀ Bn : Nat) (W W' : World) : Prop := ∀ b, b < n₀ ∨ b = Bn → W'.heap[b]? = W.heap[b]?
theorem KpN.refl (n₀ Bn : Nat) (W : World) : KpN n₀ Bn W W := fun _ _ => rfl
theorem KpN.trans {n₀ Bn : Nat} {A B C : World} (h : KpN n₀ Bn A B) (k : KpN n₀ Bn B C) : KpN n₀ Bn A C := fun b hb => (k b hb).trans (h b hb)
theorem KpN.cell {n₀ Bn : Nat} {W W' : World} (h : KpN n₀ Bn W W') {b o : Nat} (hb : b < n₀ ∨ b = Bn) : W'.cell? ⟨b, o, none⟩ = W.cell? ⟨b, o, none⟩ := by
  simp only [World.cell?, h b hb]
theorem kpN_b {n₀ Bn B : Nat} (hn : n₀ ≤ B) (hB : Bn < B) (W : World) (l : Nat) (o o' : Obj) (hl : B ≤ l) (_ : W.heap[l]? = some o) (_ : o.isCells = false) (_ : o.isWalk = false) : KpN n₀ Bn W (W.putObj l o') := fun b hb => by
  show (W.heap.setIfInBounds l o')[b]? = _
  rw [Array.getElem?_setIfInBounds_ne (by omega)]

set_option maxRecDepth 100000 in
set_option maxHeartbeats 2000000 in
theorem neigh_in (s : ByteArray) (o : List Nat) (m : Nat) (hm : 1 ≤ m) (l Bn n₀ n c : Nat) (A : Option Addr) (hn : n ≤ 1000) (ho : o.length = n) (hos : ∀ i ∈ o, i ≤ s.size) (J Jx : List (Plc s × Plc s) → World → Prop)
    (hY : ∀ pre x W, J pre W → pre.length < 1000 → YieldAt Fence.wide (m - 1) Tryd.prog l (encN s x) W fun e W' => (e = .returned (.bool true) ∧ J (pre ++ [x]) W' ∧ KpN n₀ Bn W W') ∨ (e = .returned (.bool false) ∧ Jx (pre ++ [x]) W'))
    (W : World) (hJ : AbidesFrom W.heap.size J) (hB : W.cell? ⟨Bn, 0, none⟩ = some (.slice A n c)) (hI : IsInts W n₀ A n (o.map fun i : Nat => (i : Int))) (h0 : J [] W) :
    CallsIn Fence.wide m Tryd.prog 27 #[.func (.yield l) #[] #[], .pointer (some ⟨Bn, 0, none⟩)] W fun e W' => (∃ v, e = .returned v) ∧
      ((∃ xs, xs = prsN s o (n - 1) ∧ J xs W') ∨ (∃ pre, True ∧ Jx pre W')) := by
  refine callsIn_of_wp Tryd.func27 rfl trivial ?_ rfl
  simp only [Tryd.ntmps27, List.size_toArray, List.length_cons, List.length_nil, Nat.reduceAdd, Nat.reduceSub, Array.replicate_succ, Array.replicate_zero, List.push_toArray, List.append_toArray, List.nil_append, List.cons_append]
  have HI := hid hI
  have HO := hid (And.intro ho hos)
  clear hI ho hos
  gi_wp2
  gi_loopw [3] (fun i wr => ∃ k : Nat, 1 ≤ k ∧ (k ≤ n ∨ k = 1) ∧ i = .int .i64 k ∧ Hid (J (prsN s o (k - 1)) wr) ∧ Hid (KpN n₀ Bn W wr)) (fun i _ => n - (intOf i).toNat)
  case atStart => exact ⟨1, Nat.le_refl _, .inr rfl, rfl, hid h0, hid (KpN.refl _ _ _)⟩
  case round =>
    obtain ⟨k, hk1, hk2, rfl, HJ, HK⟩ := hrel
    have hBr : wr.cell? ⟨Bn, 0, none⟩ = some (.slice A n c) := (HK.out.cell (.inr rfl)).trans hB
    by_cases hlt : k < n
    · obtain ⟨g, off, rfl, hg, hcell⟩ := HI.out.2 (by omega)
      have hgv : ∀ j, j < n → wr.cell? ⟨g, off + j, none⟩ = some (.int .i64 ((toP s (o.getD j 0)).1 : Int)) := fun j hj => by
        rw [HK.out.cell (.inl hg), hcell j hj]
        have hjo : j < o.length := by rw [HO.out.1]; exact hj
        rw [toP_val (HO.out.2 _ (getN_mem hjo))]
        simp [List.getD_eq_getElem?_getD, hjo]
      obtain ⟨k, rfl⟩ : ∃ k', k = k' + 1 := ⟨k - 1, by omega⟩
      have h1 := hgv k (by omega)
      have h2 := hgv (k + 1) hlt
      have HJ2 : Hid (∀ q, J (prsN s o k) (wr.drewN q)) := hid fun q => hJ _ wr _ none HJ.out ⟨rfl, rfl, rfl, Nat.le_refl _, fun _ _ _ => rfl⟩ (fun r e => by cases e)
      have HS := hid (prsN_succ s o k)
      have HLN := hid (prsN_len s o k)
      generalize toP s (o.getD k 0) = X at h1 HS
      generalize toP s (o.getD (k + 1) 0) = Y at h2 HS
      have hwk : IntKind.i64.wrap (k : Int) = k := IntWalk.i64_in _ (by omega)
      have hk3 : (k : Int) < (n : Int) := by omega
      have hk4 : (k : Int) + 1 < (n : Int) := by omega
      have hk5 : ((k : Int) + 1).toNat = k + 1 := by omega
      have hk6 : (0 : Int) ≤ (k : Int) + 1 := by omega
      clear hcell hgv HJ
      gi_wp2
      refine wpIn_region_tail (C := fun w' => ∃ q, w' = wr.drewN q) (lets_wide _) 10 (by kernel_rfl) (by kernel_rfl) ⟨1, rfl⟩ ?_
      simp only [List.take_succ_cons, List.take_zero, List.drop_succ_cons, List.drop_zero]
      repeat (quiet_step (fail))
      refine wpQuiet_nil ?_
      rintro _ ⟨q, rfl⟩
      obtain ⟨fn, tmps, assign, body, hy, hR⟩ := hY _ (X, Y) (wr.drewN q) (HJ2.out q) (by rw [HLN.out]; omega)
      unfold encN at hy
      dsimp only at hy
      have HKq : Hid (KpN n₀ Bn W (wr.drewN q)) := HK
      gi_wp2
      refine hR.mono ?_
      rintro e W3 (⟨rfl, hJ3, hk3⟩ | ⟨rfl, hJx3⟩)
      · gi_wp2
        go_roundw
        case rel => exact ⟨k + 2, by omega, by omega, by go_num, hid (by rw [show k + 2 - 1 = k + 1 by omega, HS.out]; exact hJ3), hid (HKq.out.trans hk3)⟩
        case measure => simp [intOf]; omega
      · gi_wp2
        refine bodyPost_ret (results_none rfl _ _ _) rfl ?_
        exact ⟨⟨_, rfl⟩, .inr ⟨_, trivial, hJx3⟩⟩
    · have HE : Hid (J (prsN s o (n - 1)) wr) := by
        rcases hk2 with h | h
        · obtain rfl : k = n := by omega
          exact HJ
        · subst h
          have : n - 1 = 0 := by omega
          rw [this]; exact HJ
      clear HJ hk2
      gi_wp2
      go_end0
      exact ⟨⟨_, rfl⟩, .inl ⟨_, rfl, HE.out⟩⟩
theorem neigh_stops (s : ByteArray) (o : List Nat) (m : Nat) (hm : 1 ≤ m) (Bn n₀ n c : Nat) (A : Option Addr) (hn : n ≤ 1000) (ho : o.length = n) (hos : ∀ i ∈ o, i ≤ s.size) (w : World) (hBn : Bn < w.heap.size) (hn₀ : n₀ ≤ w.heap.size)
    (hB : w.cell? ⟨Bn, 0, none⟩ = some (.slice A n c)) (hI : IsInts w n₀ A n (o.map fun i : Nat => (i : Int))) :
    SeqStopsK Fence.wide m Tryd.prog 27 #[.pointer (some ⟨Bn, 0, none⟩)] (encN s) (KpN n₀ Bn) (fun xs => xs = prsN s o (n - 1)) (fun _ => True) 1000 w := fun l J Jx W hW hJ _ hY h0 =>
  neigh_in s o m hm l Bn n₀ n c A hn ho hos J Jx hY W hJ ((hW.cell (p := ⟨Bn, 0, none⟩) hBn).trans hB) (hI.keep (Nat.le_refl _) fun b o hb => hW.cell (p := ⟨b, o, none⟩) (show b < w.heap.size by omega)) h0
end Go.Proofs.YtdkbgikniacekaaDoor
