/-
  Contracts of morse.squares and of the iterator that it hands back: every place and length at which something stands twice, in their order, for every loop body that keeps the memory's cells. Condition: a text of at most 200 bytes.
-/
import Derived.Test.YtkpjflfhegejpaaBase
import Derived.Test.YtkpjflfhegejpaaStr
import Derived.Test.YtkpjflfhegejpaaMsq
import Derived.Test.YtkpjflfhegejpaaRgO
import Derived.Test.YtkpjflfhegejpaaTwoc
import Derived.RangeFuncBox
import Derived.Shelf.Abstract
namespace Go.Proofs.Ytkpjflfhegejpaa
open Go.RowKit Go.Shelf Go.Proofs

attribute [local go_sem] Oper.semAt_some

theorem squares_any (s : ByteArray) (w : World) :
    Calls Try.prog 20 #[.string s] w fun e w' => e = .returned (.func (.func 27) #[] #[.pointer (some ⟨w.heap.size, 0, none⟩)]) ∧ w' = w.alloc (.cells #[.string s] 9) := by
  have hmf : ∀ (fn : Fn) (first cap : Array Value) (w : World), (Instr.makeFunc fn first cap).run Try.prog w = .ok (.func fn first cap) w := fun _ _ _ _ => rfl
  go_enter Try.func20, Try.ntmps20
  go_wp2
  go_ret
  exact ⟨rfl, rfl⟩

/-- What a round keeps: every block of cells. -/
def KpC (W W' : World) : Prop := ∀ (b : Nat) (o : Obj), W.heap[b]? = some o → o.isCells = true → W'.heap[b]? = some o
theorem KpC.refl (W : World) : KpC W W := fun _ _ h _ => h
theorem KpC.trans {A B C : World} (h : KpC A B) (k : KpC B C) : KpC A C := fun b o ho hc => k b o (h b o ho hc) hc
theorem kpC_put (W : World) (l : Nat) (o o' : Obj) (hl : W.heap[l]? = some o) (hc : o.isCells = false) : KpC W (W.putObj l o') := fun b ob hb hbc => by
  show (W.heap.setIfInBounds l o')[b]? = _
  by_cases e : l = b
  · subst e
    rw [hl] at hb
    obtain rfl := Option.some.inj hb
    rw [hc] at hbc; cases hbc
  · rw [Array.getElem?_setIfInBounds_ne e]; exact hb
theorem KpC.boxed {W W' : World} (h : KpC W W') {B : Nat} {t : TypeId} {v : Value} (hb : Boxed W B t v) : Boxed W' B t v := h B _ hb rfl

set_option maxRecDepth 100000 in
set_option maxHeartbeats 2000000 in
theorem squares_in (s : ByteArray) (hs : s.size ≤ 200) (m : Nat) (hm : 1 ≤ m) (l Bn : Nat) (J Jx : List (SqE s false) → World → Prop)
    (hY : ∀ pre x W, J pre W → pre.length < 30000 → YieldAt Fence.wide (m - 1) Try.prog l (encQ x) W fun e W' => (e = .returned (.bool true) ∧ J (pre ++ [x]) W' ∧ KpC W W') ∨ (e = .returned (.bool false) ∧ Jx (pre ++ [x]) W'))
    (W : World) (hJ : AbidesFrom W.heap.size J) (hB : Boxed W Bn 9 (.string s)) (h0 : J [] W) :
    CallsIn Fence.wide m Try.prog 27 #[.func (.yield l) #[] #[], .pointer (some ⟨Bn, 0, none⟩)] W fun e W' => (∃ v, e = .returned v) ∧
      ((∃ xs, AllQ xs ∧ J xs W') ∨ (∃ pre, FirstQ pre ∧ Jx pre W')) := by
  refine callsIn_of_wp Try.func27 rfl trivial ?_ rfl
  simp only [Try.ntmps27, List.size_toArray, List.length_cons, List.length_nil, Nat.reduceAdd, Nat.reduceSub, Array.replicate_succ, Array.replicate_zero, List.push_toArray, List.append_toArray, List.nil_append, List.cons_append]
  have HB := hid hB
  have hcs := hB.cell
  gi_wp2
  gi_loopw [7] (fun i wr => ∃ (k : Nat) (pre : List (SqE s false)), k ≤ s.size ∧ i = .int .i64 k ∧ Hid (GotQ pre k 1) ∧ Hid (J pre wr) ∧ Hid (KpC W wr)) (fun i _ => s.size - (intOf i).toNat)
  case atStart => exact ⟨0, [], by omega, rfl, hid (gotQ_start s false), hid h0, hid (KpC.refl _)⟩
  case round =>
    clear hcs h0
    obtain ⟨i, pre, hi, rfl, HG, HJ, HK⟩ := hrel
    by_cases hlt : i < s.size
    · have i1 : (i : Int) < (s.size : Int) := by omega
      gi_wp2
      obtain ⟨wz, hwz⟩ : ∃ z, z = wr := ⟨_, rfl⟩
      rw [← hwz] at HJ HK ⊢
      gi_loopw [4] (fun x wr => ∃ (k : Nat) (pre : List (SqE s false)), 1 ≤ k ∧ (k = 1 ∨ i + 2 * (k - 1) ≤ s.size) ∧ x = .int .i64 k ∧ Hid (GotQ pre i k) ∧ Hid (J pre wr) ∧ Hid (KpC W wr)) (fun x _ => s.size + 1 - (intOf x).toNat)
      case atStart => exact ⟨1, pre, by omega, .inl rfl, rfl, HG, HJ, HK⟩
      case round =>
        clear HG HJ HK hwz
        obtain ⟨k, pre, hk, hk2, rfl, HG, HJ, HK⟩ := hrel
        have hcr := (HK.out.boxed HB.out).cell
        by_cases hle : i + 2 * k ≤ s.size
        · have h2 : (i : Int) + 2 * (k : Int) ≤ (s.size : Int) := by omega
          have hc1 : ∀ W : World, Sem.run Try.prog (Instr.slice 9 (.string s) (some (.int .i64 (i : Int))) (some (.int .i64 ((i : Int) + (k : Int)))) none) W = .ok (.string (s.extract i (i + k))) W := fun W =>
            run_slice_string W 9 s .i64 .i64 (i : Int) ((i : Int) + (k : Int)) Try.underlying9 (by omega) (by omega) (by omega)
          have hc2 : ∀ W : World, Sem.run Try.prog (Instr.slice 9 (.string s) (some (.int .i64 ((i : Int) + (k : Int)))) (some (.int .i64 ((i : Int) + 2 * (k : Int)))) none) W = .ok (.string (s.extract (i + k) (i + 2 * k))) W := fun W =>
            run_slice_string W 9 s .i64 .i64 ((i : Int) + (k : Int)) ((i : Int) + 2 * (k : Int)) Try.underlying9 (by omega) (by omega) (by omega)
          have HQ : Hid ((s.extract i (i + k) = s.extract (i + k) (i + 2 * k)) ↔ Sq (bs s) false i k) := hid (by rw [part_same s i k hle, sq_false]; exact ⟨fun h => ⟨hk, hle, h⟩, fun h => h.2.2⟩)
          have w0 : IntKind.i64.wrap (2 * (k : Int)) = 2 * (k : Int) := IntWalk.i64_in _ (by omega)
          have w1 : IntKind.i64.wrap ((i : Int) + (k : Int)) = (i : Int) + (k : Int) := IntWalk.i64_in _ (by omega)
          have w2 : IntKind.i64.wrap ((i : Int) + 2 * (k : Int)) = (i : Int) + 2 * (k : Int) := IntWalk.i64_in _ (by omega)
          generalize s.extract i (i + k) = t1 at hc1 HQ
          generalize s.extract (i + k) (i + 2 * k) = t2 at hc2 HQ
          have HL : Hid (pre.length < 30000) := hid (by have := HG.out.few; omega)
          have HJ2 : Hid (∀ q, J pre (wr.drewN q)) := hid fun q => hJ _ wr _ none HJ.out ⟨rfl, rfl, rfl, Nat.le_refl _, fun _ _ _ => rfl⟩ (fun r e => by cases e)
          have HK2 : Hid (∀ q, KpC W (wr.drewN q)) := hid fun q => HK.out
          clear HJ
          gi_wp2
          refine wpIn_region_two (C := fun w' => ∃ q, w' = wr.drewN q) (lets_wide _) 20 20 20 (by kernel_rfl) (by kernel_rfl) ⟨1, rfl⟩ ?_
          simp only [List.take_succ_cons, List.take_zero, List.drop_succ_cons, List.drop_zero]
          by_cases hqq : t1 = t2
          · have hd := same_yes hqq
            have HS := hid (HQ.out.1 hqq)
            clear HQ hqq
            iterate 17 (quiet_step (fail))
            iterate 3 (refine wpQuiet_free (wanted_is (j := 16) (b := true) (c := true) rfl (by kernel_rfl) rfl) ?_; quiet_step (fail))
            refine wpQuiet_nil ?_
            rintro _ ⟨q, rfl⟩
            change wpQuiet _ _ _ _ _ _
            refine wpQuiet_nil ?_
            obtain ⟨fn, tmps, assign, body, hy, hR⟩ := hY pre ⟨(i, k), HS.out⟩ (wr.drewN q) (HJ2.out q) HL.out
            unfold encQ at hy
            dsimp only at hy
            refine wpListIn_free (wanted_is (j := 16) (b := true) (c := true) rfl (by kernel_rfl) rfl) ?_
            gi_wp2
            refine hR.mono ?_
            rintro e W3 (⟨rfl, hJ3, hk3⟩ | ⟨rfl, hJx3⟩)
            · gi_wp2
              go_roundw
              case rel => exact ⟨k + 1, _, by omega, .inr hle, by go_num, hid (gotQ_yield HG.out _ rfl), hid hJ3, hid ((HK2.out q).trans hk3)⟩
              case measure => simp [intOf]; omega
            · gi_wp2
              refine bodyPost_ret (results_none rfl _ _ _) rfl ?_
              exact ⟨⟨_, rfl⟩, .inr ⟨_, gotQ_stop HG.out _ rfl, hJx3⟩⟩
          · have hd := same_no hqq
            have HS := hid (fun h => hqq (HQ.out.2 h))
            clear HQ hqq
            iterate 17 (quiet_step (fail))
            iterate 3 (refine wpQuiet_skip (wanted_not (j := 16) (b := true) (c := false) rfl (by kernel_rfl) rfl) ?_; simp only [Act.put, List.setIfInBounds_toArray, List.set_cons_zero, List.set_cons_succ])
            refine wpQuiet_nil ?_
            rintro _ ⟨q, rfl⟩
            change wpQuiet _ _ _ _ _ _
            refine wpQuiet_nil ?_
            refine wpListIn_skip (lets_wide _) (wanted_not (j := 16) (b := true) (c := false) rfl (by kernel_rfl) rfl) ?_
            gi_wp2
            go_roundw
            case rel => exact ⟨k + 1, _, by omega, .inr hle, by go_num, hid (gotQ_next HG.out HS.out), hid (HJ2.out q), hid (HK2.out q)⟩
            case measure => simp [intOf]; omega
        · gi_wp2
          go_roundw
          case rel => exact ⟨i + 1, pre, by omega, by go_num, hid (gotQ_place HG.out (by omega) (by omega)), HJ, HK⟩
          case measure => simp [intOf]; omega
    · obtain rfl : i = s.size := by omega
      gi_wp2
      go_end0
      exact ⟨⟨_, rfl⟩, .inl ⟨pre, gotQ_end HG.out (Nat.le_refl _), HJ.out⟩⟩
theorem squares_stops (s : ByteArray) (hs : s.size ≤ 200) (m : Nat) (hm : 1 ≤ m) (Bn : Nat) (w : World) (hB : Boxed w Bn 9 (.string s)) :
    SeqStopsK Fence.wide m Try.prog 27 #[.pointer (some ⟨Bn, 0, none⟩)] encQ KpC AllQ (FirstQ (s := s) (more := false)) 30000 w := fun l J Jx W hW hJ _ hY h0 =>
  squares_in s hs m hm l Bn J Jx hY W hJ ((hW.block Bn hB.lt).trans hB) h0
end Go.Proofs.Ytkpjflfhegejpaa
