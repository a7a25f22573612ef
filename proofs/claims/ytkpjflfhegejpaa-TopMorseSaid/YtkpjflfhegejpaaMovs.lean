/-
  Contracts of morse.overlaps and of the iterator that it hands back, which ranges over the squares itself: every place and length at which something stands twice and then goes on with its first sign, in their order, for every loop body that keeps the memory's cells. Condition: a text of at most 200 bytes.
-/
import Derived.Test.YtkpjflfhegejpaaMsqs
namespace Go.Proofs.Ytkpjflfhegejpaa
open Go.RowKit Go.Shelf Go.Proofs

attribute [local go_sem] Oper.semAt_some

theorem overlaps_any (s : ByteArray) (w : World) :
    Calls Try.prog 19 #[.string s] w fun e w' => e = .returned (.func (.func 26) #[] #[.pointer (some ⟨w.heap.size, 0, none⟩)]) ∧ w' = w.alloc (.cells #[.string s] 9) := by
  have hmf : ∀ (fn : Fn) (first cap : Array Value) (w : World), (Instr.makeFunc fn first cap).run Try.prog w = .ok (.func fn first cap) w := fun _ _ _ _ => rfl
  go_enter Try.func19, Try.ntmps19
  go_wp2
  go_ret
  exact ⟨rfl, rfl⟩

set_option maxRecDepth 100000 in
set_option maxHeartbeats 2000000 in
theorem overlaps_in (s : ByteArray) (hs : s.size ≤ 200) (l Bn : Nat) (J Jx : List (SqE s true) → World → Prop) (W : World) (hJ : OwnFrom W.heap.size J) (hJx : OwnFrom W.heap.size Jx)
    (hY : ∀ pre x W1, J pre W1 → pre.length < 30000 → YieldAt Fence.wide 1 Try.prog l (encQ x) W1 fun e W' =>
      (e = .returned (.bool true) ∧ J (pre ++ [x]) W' ∧ KpC W1 W' ∧ KeepsFrom W.heap.size W1 W') ∨ (e = .returned (.bool false) ∧ Jx (pre ++ [x]) W' ∧ KeepsFrom W.heap.size W1 W'))
    (hB : Boxed W Bn 9 (.string s)) (h0 : J [] W) :
    CallsIn Fence.wide 9 Try.prog 26 #[.func (.yield l) #[] #[], .pointer (some ⟨Bn, 0, none⟩)] W fun e W' => (∃ v, e = .returned v) ∧
      ((∃ xs, AllQ xs ∧ J xs W') ∨ (∃ pre, FirstQ pre ∧ Jx pre W')) := by
  refine callsIn_of_wp_marks Try.func26 rfl trivial ?_ rfl
  simp only [Try.ntmps26, List.size_toArray, List.length_cons, List.length_nil, Nat.reduceAdd, Nat.reduceSub, Array.replicate_succ, Array.replicate_zero, List.push_toArray, List.append_toArray, List.nil_append, List.cons_append]
  have bB := hB.alloc (.cells #[.func (.yield l) #[] #[]] 64)
  have cB := bB.cell
  gi_wp2_with fail
  refine ⟨trivial, (callsIn_wide.2 (squares_any s _)).mono ?_⟩
  rintro e w3 ⟨rfl, hw3⟩
  subst w3
  gi_wp2_with fail
  have bY := (Boxed.new W 64 (.func (.yield l) #[] #[])).alloc (.cells #[.string s] 9)
  have bS := Boxed.new (W.alloc (.cells #[.func (.yield l) #[] #[]] 64)) 9 (.string s)
  have bN := bB.alloc (.cells #[.string s] 9)
  rw [World.size_alloc] at bS
  obtain ⟨W2, hW2⟩ : ∃ W2, (W.alloc (.cells #[.func (.yield l) #[] #[]] 64)).alloc (.cells #[.string s] 9) = W2 := ⟨_, rfl⟩
  have h2 : J [] W2 := by rw [← hW2]; exact hJ.alloc _ (hJ.alloc _ h0)
  have hz : W2.heap.size = W.heap.size + 2 := by rw [← hW2]; simp
  rw [hW2] at bY bS bN ⊢
  clear hW2 cB bB h0 hB
  refine range_own rfl (gf := 27) (lb := #[.pointer (some ⟨W.heap.size + 1, 0, none⟩)]) (enters_of Try.func27 (by kernel_rfl) rfl)
    (seqO_of (squares_stops s hs 9 (by omega) (W.heap.size + 1) W2 bS)) (Below.refl _ _) (fun _ => rfl) KpC.trans (fun X b o o' _ hl hc _ => kpC_put X b o o' hl hc)
    (fun pre X => J (ovF pre) X ∧ Boxed X W.heap.size 64 (.func (.yield l) #[] #[]) ∧ Boxed X Bn 9 (.string s))
    (fun c pre X => (c = .ret ∧ ∃ (p : List (SqE s false)) (x : SqE s false), pre = p ++ [x] ∧ Sq (bs s) true x.1.1 x.1.2) ∧ Jx (ovF pre) X)
    (fun pre X Y row hp hg hr => ⟨ownFrom_later hJ (by omega) (ovF pre) X Y row hp.1 hg hr, boxed_own W.heap.size _ (fun (_ : Unit) => Value.func (.yield l) #[] #[]) () X Y row hp.2.1 hg (fun r e => (hr r e).2), boxed_own Bn _ (fun (_ : Unit) => Value.string s) () X Y row hp.2.2 hg (fun r e => (hr r e).2)⟩)
    (fun c pre X Y row hp hg hr => ⟨hp.1, ownFrom_later hJx (by omega) (ovF pre) X Y row hp.2 hg hr⟩)
    ⟨h2, bY, bN⟩
    (fun x => { tmps := #[.func (.yield l) #[] #[], .pointer (some ⟨Bn, 0, none⟩), .pointer (some ⟨W.heap.size, 0, none⟩), .int .i64 (x.1.1 : Int), .int .i64 (x.1.2 : Int), undef, .string s, .func (.func 27) #[] #[.pointer (some ⟨W.heap.size + 1, 0, none⟩)], .int .i64 (x.1.1 : Int), .int .i64 (x.1.2 : Int), undef, undef, undef, undef, undef, undef, undef, undef, undef, undef, undef, undef, undef, undef, undef, undef, undef, undef, undef, undef, undef, undef, undef, undef], defers := [] }) ?assign ?body ?done ?stop
  case assign =>
    intro l2 x X K hK
    unfold encQ
    gi_wp2
    exact hK
  case body =>
    rintro l2 pre x X ⟨hj, hby, hbn⟩ hlt
    have cY := hby.cell
    have cN := hbn.cell
    obtain ⟨⟨i, k⟩, hx⟩ := x
    obtain ⟨hk1, hk2, hk3⟩ := (sq_false s i k).1 hx
    obtain ⟨E, hE⟩ : ∃ E : Nat, E = i + 2 * k := ⟨_, rfl⟩
    have w0 : IntKind.i64.wrap (2 * (k : Int)) = 2 * (k : Int) := IntWalk.i64_in _ (by omega)
    have w1 : (i : Int) + 2 * (k : Int) = (E : Int) := by omega
    have i1 : i < s.size := by omega
    have HLen : Hid ((ovF pre).length < 30000) := hid (by have := ovF_few pre; omega)
    have HJ2 : Hid (∀ q, J (ovF pre) (X.drewN q)) := hid fun q => hJ _ X _ none hj ⟨rfl, rfl, rfl, Nat.le_refl _, fun _ _ _ => rfl⟩ (fun r e => by cases e)
    have HX : Hid (J (ovF pre) X ∧ Boxed X W.heap.size 64 (.func (.yield l) #[] #[]) ∧ Boxed X Bn 9 (.string s)) := hid ⟨hj, hby, hbn⟩
    have HQ : Hid (Sq (bs s) true i k ↔ E < s.size ∧ sg s E = sg s i) := hid (by
      rw [sq_true, ← hE]
      exact ⟨fun h => ⟨h.2.1, h.2.2.2⟩, fun h => ⟨hk1, h.1, hk3, h.2⟩⟩)
    clear hj hby hbn hE
    have fin : ∀ W3, J (ovF (pre ++ [⟨(i, k), hx⟩])) W3 → KpC X W3 → KeepsFrom W.heap.size X W3 → ownPostG W2.heap.size KpC (fun pre X => J (ovF pre) X ∧ Boxed X W.heap.size 64 (.func (.yield l) #[] #[]) ∧ Boxed X Bn 9 (.string s))
        (fun c pre X => (c = .ret ∧ ∃ (p : List (SqE s false)) (x : SqE s false), pre = p ++ [x] ∧ Sq (bs s) true x.1.1 x.1.2) ∧ Jx (ovF pre) X) (pre ++ [⟨(i, k), hx⟩]) X .normal { tmps := #[], defers := [] } W3 := fun W3 h1 h2 h3 =>
      ⟨⟨h3.size, fun b o hb => h3.same b o (by omega)⟩, h2, h1, h2.boxed HX.out.2.1, h2.boxed HX.out.2.2⟩
    have HF := hid fin
    clear fin
    gi_wp2
    refine wpIn_region_two (C := fun w' => ∃ q, w' = X.drewN q) (lets_round _ l2) 17 17 17 (by kernel_rfl) (by kernel_rfl) ⟨1, rfl⟩ ?_
    simp only [List.take_succ_cons, List.take_zero, List.drop_succ_cons, List.drop_zero]
    by_cases hlt2 : E < s.size
    · have hl2 : decide ((E : Int) < (s.size : Int)) = true := by simpa using hlt2
      by_cases he : sg s E = sg s i
      · have hq := byte_eq s E i hlt2 i1 he
        have HS := hid (HQ.out.2 ⟨hlt2, he⟩)
        clear HQ he
        iterate 5 (quiet_step (fail))
        iterate 7 (refine wpQuiet_free (wanted_is (j := 4) (b := true) (c := true) rfl (by kernel_rfl) rfl) ?_; quiet_step (fail))
        iterate 2 (quiet_step (fail))
        iterate 3 (refine wpQuiet_free (wanted_is (j := 13) (b := true) (c := true) rfl (by kernel_rfl) rfl) ?_; quiet_step (fail))
        refine wpQuiet_nil ?_
        rintro _ ⟨q, rfl⟩
        change wpQuiet _ _ _ _ _ _
        refine wpQuiet_nil ?_
        obtain ⟨fn, tmps, assign, body, hy, hR⟩ := hY (ovF pre) ⟨(i, k), HS.out⟩ (X.drewN q) (HJ2.out q) HLen.out
        unfold encQ at hy
        dsimp only at hy
        refine wpListIn_free (wanted_is (j := 13) (b := true) (c := true) rfl (by kernel_rfl) rfl) ?_
        gi_wp2
        refine (round_in hR).mono ?_
        rintro e W3 (⟨rfl, hJ3, hk3, hf3⟩ | ⟨rfl, hJx3, hf3⟩)
        · gi_wp2
          exact HF.out W3 (by rw [ovF_yes pre _ HS.out]; exact hJ3) hk3 ⟨hf3.size, fun b o hb => hf3.same b o hb⟩
        · gi_wp2
          exact ⟨⟨hf3.size, fun b o hb => hf3.same b o (by omega)⟩, ⟨rfl, pre, _, rfl, HS.out⟩, by rw [ovF_yes pre _ HS.out]; exact hJx3⟩
      · have hq := byte_eq_false s E i hlt2 i1 he
        have HS := hid (fun h => he (HQ.out.1 h).2)
        clear HQ he
        iterate 5 (quiet_step (fail))
        iterate 7 (refine wpQuiet_free (wanted_is (j := 4) (b := true) (c := true) rfl (by kernel_rfl) rfl) ?_; quiet_step (fail))
        iterate 2 (quiet_step (fail))
        iterate 3 (refine wpQuiet_skip (wanted_not (j := 13) (b := true) (c := false) rfl (by kernel_rfl) rfl) ?_; simp only [Act.put, List.setIfInBounds_toArray, List.set_cons_zero, List.set_cons_succ])
        refine wpQuiet_nil ?_
        rintro _ ⟨q, rfl⟩
        change wpQuiet _ _ _ _ _ _
        refine wpQuiet_nil ?_
        refine wpListIn_skip (lets_round _ l2) (wanted_not (j := 13) (b := true) (c := false) rfl (by kernel_rfl) rfl) ?_
        gi_wp2
        exact HF.out _ (by rw [ovF_no pre _ HS.out]; exact HJ2.out q) (fun _ _ h _ => h) ⟨Nat.le_refl _, fun _ _ _ h _ => h⟩
    · have hl2 : decide ((E : Int) < (s.size : Int)) = false := by simpa using hlt2
      have HS := hid (fun h => hlt2 (HQ.out.1 h).1)
      clear HQ
      iterate 5 (quiet_step (fail))
      iterate 7 (refine wpQuiet_skip (wanted_not (j := 4) (b := true) (c := false) rfl (by kernel_rfl) rfl) ?_; simp only [Act.put, List.setIfInBounds_toArray, List.set_cons_zero, List.set_cons_succ])
      iterate 2 (quiet_step (fail))
      iterate 3 (refine wpQuiet_skip (wanted_not (j := 13) (b := true) (c := false) rfl (by kernel_rfl) rfl) ?_; simp only [Act.put, List.setIfInBounds_toArray, List.set_cons_zero, List.set_cons_succ])
      refine wpQuiet_nil ?_
      rintro _ ⟨q, rfl⟩
      change wpQuiet _ _ _ _ _ _
      refine wpQuiet_nil ?_
      refine wpListIn_skip (lets_round _ l2) (wanted_not (j := 13) (b := true) (c := false) rfl (by kernel_rfl) rfl) ?_
      gi_wp2
      exact HF.out _ (by rw [ovF_no pre _ HS.out]; exact HJ2.out q) (fun _ _ h _ => h) ⟨Nat.le_refl _, fun _ _ _ h _ => h⟩
  case done =>
    rintro D ys X hD hS ⟨hj, hby, hbn⟩ hK
    gi_wp2
    refine ⟨by simp, .inl ⟨_, _, rfl, run_takeDeferred hK, ?_⟩⟩
    exact ⟨_, results_none rfl _ _ _, ⟨_, rfl⟩, .inl ⟨_, ovF_all hS, hJ.putObj _ hj (by omega) hK rfl⟩⟩
  case stop =>
    rintro D c pre X hD hS ⟨⟨rfl, p, x, rfl, hx⟩, hj⟩ hK
    gi_wp2
    refine ⟨by simp, .inl ⟨_, _, rfl, run_takeDeferred hK, ?_⟩⟩
    exact ⟨_, results_none rfl _ _ _, ⟨_, rfl⟩, .inr ⟨_, ovF_first hS hx, hJx.putObj _ hj (by omega) hK rfl⟩⟩
theorem overlaps_seq (s : ByteArray) (hs : s.size ≤ 200) (Bn : Nat) (w : World) (hB : Boxed w Bn 9 (.string s)) :
    SeqO Try.prog 26 #[.pointer (some ⟨Bn, 0, none⟩)] encQ KpC AllQ (FirstQ (s := s) (more := true)) 30000 w := fun l J Jx W hW hJ hJx hY h0 =>
  callsIn_wide.1 (overlaps_in s hs l Bn J Jx W hJ hJx hY ((hW.block Bn hB.lt).trans hB) h0)
end Go.Proofs.Ytkpjflfhegejpaa
