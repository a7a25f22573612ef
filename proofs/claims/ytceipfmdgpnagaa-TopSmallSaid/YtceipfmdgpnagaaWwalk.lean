/-
  Contracts of wheel.walk and of the iterator that it hands back: the places along an order of places, for every loop body that keeps the order. No condition but that the order is there.
-/
import Derived.Test.YtceipfmdgpnagaaWlat
import Derived.Test.YtceipfmdgpnagaaTail
import Derived.RangeFuncBox
import Derived.RangeFuncLeaves
import Derived.RangeFuncWrites
import Derived.RangeFuncNested
import Derived.Shelf.Abstract
import Derived.OwnWalkIn
import Derived.TacticsInMore
import Derived.LoopNIn
import Derived.LoopIn
import Derived.Maps.AppendAt
import Derived.Maps.OwnIn
namespace Go.Proofs.Ytceipfmdgpnagaa
open Go.RowKit Go.Shelf Go.Proofs

attribute [local go_sem] Oper.semAt_some

theorem walk_any (A : Option Addr) (n c : Nat) (at_ : Int) (w : World) :
    Calls Try.prog 22 #[.slice A n c, .int .i64 at_] w fun e w' => e = .returned (.func (.func 32) #[] #[.pointer (some ⟨w.heap.size + 1, 0, none⟩), .pointer (some ⟨w.heap.size, 0, none⟩)]) ∧ w' = (w.alloc (.cells #[.slice A n c] 22)).alloc (.cells #[.int .i64 at_] 3) := by
  have hmf : ∀ (fn : Fn) (first cap : Array Value) (w : World), (Instr.makeFunc fn first cap).run Try.prog w = .ok (.func fn first cap) w := fun _ _ _ _ => rfl
  go_enter Try.func22, Try.ntmps22
  go_wp2
  go_ret
  exact ⟨rfl, rfl⟩

/-- What a round keeps: the blocks from lo on, below hi. -/
def KpR (lo hi : Nat) (W W' : World) : Prop := ∀ b, lo ≤ b → b < hi → W'.heap[b]? = W.heap[b]?
theorem KpR.refl (lo hi : Nat) (W : World) : KpR lo hi W W := fun _ _ _ => rfl
theorem KpR.trans {lo hi : Nat} {A B C : World} (h : KpR lo hi A B) (k : KpR lo hi B C) : KpR lo hi A C := fun b h1 h2 => (k b h1 h2).trans (h b h1 h2)
theorem KpR.cell {lo hi : Nat} {W W' : World} (h : KpR lo hi W W') {b o : Nat} (h1 : lo ≤ b) (h2 : b < hi) : W'.cell? ⟨b, o, none⟩ = W.cell? ⟨b, o, none⟩ := by
  simp only [World.cell?, h b h1 h2]
theorem kpR_b {lo hi B : Nat} (hn : hi ≤ B) (W : World) (l : Nat) (o o' : Obj) (hl : B ≤ l) (_ : W.heap[l]? = some o) (_ : o.isCells = false) (_ : o.isWalk = false) : KpR lo hi W (W.putObj l o') := fun b _ hb => by
  show (W.heap.setIfInBounds l o')[b]? = _
  rw [Array.getElem?_setIfInBounds_ne (by omega)]

/-- The places of the first m steps. -/
def stps (o : List Nat) (r m : Nat) : List Nat := (List.range m).map fun j => stp o (j + 1) r
theorem stps_succ (o : List Nat) (r m : Nat) : stps o r (m + 1) = stps o r m ++ [stp o (m + 1) r] := by simp [stps, List.range_succ]
theorem stps_len (o : List Nat) (r m : Nat) : (stps o r m).length = m := by simp [stps]
theorem wlk_stps (t : List UInt8) (o : List Nat) (r : Nat) : ∀ m, wlk t o m r = (stps o r m).map fun i => t.getD i 0 := by
  intro m
  induction m with
  | zero => rfl
  | succ m ih => rw [wlk_snoc, ih, stps_succ, List.map_append]; rfl

set_option maxRecDepth 100000 in
set_option maxHeartbeats 2000000 in
theorem walk_in (s : ByteArray) (hs : s.size ≤ 24) (o : List Nat) (ho : Stb (bs s) o) (r : Nat) (hr : 0 < s.size → r < s.size) (m : Nat) (hm : 1 ≤ m) (l Ba Bn g lo hi c : Nat) (hBn : lo ≤ Bn ∧ Bn < hi) (hg : lo ≤ g ∧ g < hi) (J Jx : List (Pl1 s) → World → Prop)
    (hY : ∀ pre x W, J pre W → pre.length < 1000 → YieldAt Fence.wide (m - 1) Try.prog l #[encL s x] W fun e W' => (e = .returned (.bool true) ∧ J (pre ++ [x]) W' ∧ KpR lo hi W W') ∨ (e = .returned (.bool false) ∧ Jx (pre ++ [x]) W'))
    (W : World) (_hJ : AbidesFrom W.heap.size J) (hA : W.cell? ⟨Ba, 0, none⟩ = some (.int .i64 (r : Nat))) (hN : W.cell? ⟨Bn, 0, none⟩ = some (.slice (some ⟨g, 0, none⟩) s.size c)) (hO : ∀ j, j < s.size → W.cell? ⟨g, j, none⟩ = some (.int .i64 (o.getD j 0 : Nat))) (h0 : J [] W) :
    CallsIn Fence.wide m Try.prog 32 #[.func (.yield l) #[] #[], .pointer (some ⟨Ba, 0, none⟩), .pointer (some ⟨Bn, 0, none⟩)] W fun e W' => (∃ v, e = .returned v) ∧
      ((∃ xs : List (Pl1 s), xs.map (·.1) = stps o r s.size ∧ J xs W') ∨ (∃ pre, True ∧ Jx pre W')) := by
  refine callsIn_of_wp Try.func32 rfl trivial ?_ rfl
  simp only [Try.ntmps32, List.size_toArray, List.length_cons, List.length_nil, Nat.reduceAdd, Nat.reduceSub, Array.replicate_succ, Array.replicate_zero, List.push_toArray, List.append_toArray, List.nil_append, List.cons_append]
  have HO := hid hO
  have HS := hid ho
  have HR := hid hr
  clear hO ho hr
  gi_wp2
  gi_loopw [4, 8] (fun u i wr => ∃ (k z : Nat), k ≤ s.size ∧ i = .int .i64 k ∧ u = .int .i64 z ∧ Hid (z = stp o k r) ∧ Hid (∃ xs : List (Pl1 s), xs.map (·.1) = stps o r k ∧ J xs wr) ∧ Hid (KpR lo hi W wr)) (fun _ i _ => s.size - (intOf i).toNat)
  case atStart => exact ⟨0, r, Nat.zero_le _, rfl, rfl, hid rfl, hid ⟨[], rfl, h0⟩, hid (KpR.refl _ _ _)⟩
  case round =>
    obtain ⟨k, z, hk, rfl, rfl, HZ, HJ, HK⟩ := hrel
    have hNr : wr.cell? ⟨Bn, 0, none⟩ = some (.slice (some ⟨g, 0, none⟩) s.size c) := (HK.out.cell hBn.1 hBn.2).trans hN
    by_cases hlt : k < s.size
    · have hz : z < s.size := by
        have := stp_lt HS.out (r := r) (by rw [bs_len]; exact HR.out (by omega)) k
        rw [bs_len, ← HZ.out] at this
        exact this
      have hcz : wr.cell? ⟨g, z, none⟩ = some (.int .i64 (o.getD z 0 : Nat)) := (HK.out.cell hg.1 hg.2).trans (HO.out z hz)
      have hnx : o.getD z 0 < s.size := by have := HS.out.lt (r := z) (by rw [bs_len]; exact hz); rwa [bs_len] at this
      have HX : Hid (o.getD z 0 = stp o (k + 1) r) := hid (by rw [HZ.out]; rfl)
      generalize o.getD z 0 = y at hcz hnx HX
      obtain ⟨xs, hxs, hJx⟩ := HJ.out
      have hlen : xs.length = k := by have := congrArg List.length hxs; rwa [List.length_map, stps_len] at this
      have HXS := hid (And.intro hxs hJx)
      clear hxs hJx HJ
      obtain ⟨fn, tmps, assign, body, hy, hR⟩ := hY xs ⟨y, hnx⟩ wr HXS.out.2 (by omega)
      unfold encL at hy
      dsimp only at hy
      clear hlen
      gi_wp2
      refine hR.mono ?_
      rintro e W3 (⟨rfl, hJ3, hk3⟩ | ⟨rfl, hJx3⟩)
      · gi_wp2
        go_roundw
        case rel => exact ⟨k + 1, y, by omega, by go_num, rfl, HX, hid ⟨_, by rw [List.map_append, HXS.out.1, stps_succ, ← HX.out]; rfl, hJ3⟩, hid (HK.out.trans hk3)⟩
        case measure => simp [intOf]; omega
      · gi_wp2
        refine bodyPost_ret (results_none rfl _ _ _) rfl ?_
        exact ⟨⟨_, rfl⟩, .inr ⟨_, trivial, hJx3⟩⟩
    · obtain rfl : k = s.size := by omega
      gi_wp2
      go_end0
      exact ⟨⟨_, rfl⟩, .inl HJ.out⟩
theorem walk_stops (s : ByteArray) (hs : s.size ≤ 24) (o : List Nat) (ho : Stb (bs s) o) (r : Nat) (hr : 0 < s.size → r < s.size) (m : Nat) (hm : 1 ≤ m) (Ba Bn g lo hi c : Nat) (hBa : lo ≤ Ba ∧ Ba < hi) (hBn : lo ≤ Bn ∧ Bn < hi) (hg : lo ≤ g ∧ g < hi) (w : World) (hhi : hi ≤ w.heap.size)
    (hA : w.cell? ⟨Ba, 0, none⟩ = some (.int .i64 (r : Nat))) (hN : w.cell? ⟨Bn, 0, none⟩ = some (.slice (some ⟨g, 0, none⟩) s.size c)) (hO : ∀ j, j < s.size → w.cell? ⟨g, j, none⟩ = some (.int .i64 (o.getD j 0 : Nat))) :
    SeqStopsK Fence.wide m Try.prog 32 #[.pointer (some ⟨Ba, 0, none⟩), .pointer (some ⟨Bn, 0, none⟩)] (fun x => #[encL s x]) (KpR lo hi) (fun xs : List (Pl1 s) => xs.map (·.1) = stps o r s.size) (fun _ => True) 1000 w := fun l J Jx W hW hJ _ hY h0 =>
  walk_in s hs o ho r hr m hm l Ba Bn g lo hi c hBn hg J Jx hY W hJ ((hW.cell (p := ⟨Ba, 0, none⟩) (show Ba < w.heap.size by omega)).trans hA) ((hW.cell (p := ⟨Bn, 0, none⟩) (show Bn < w.heap.size by omega)).trans hN) (fun j hj => (hW.cell (p := ⟨g, j, none⟩) (show g < w.heap.size by omega)).trans (hO j hj)) h0
end Go.Proofs.Ytceipfmdgpnagaa
