/-
  Contracts of morse.first over an iterator, of morse.Twice and morse.Over: the first square, the first overlap, or that there is none; the old memory stays as it was; a text of more than 200 bytes is too long. No condition but the size that a row sets.
-/
import Derived.Test.YtkpjflfhegejpaaDoorMword
import Derived.Test.YtkpjflfhegejpaaDoorMovs
namespace Go.Proofs.YtkpjflfhegejpaaDoor
open Go.RowKit Go.Shelf Go.Proofs

attribute [local go_sem] Oper.semAt_some

/-- Neither a struct nor an array. -/
def flatD : TypeDesc → Bool
  | .struct _ | .array _ _ => false
  | _ => true
theorem run_loadVar_flat {P : Program} {t : TypeId} {d : TypeDesc} (hu : P.underlying t = some d) (hd : flatD d = true) {w : World} {b : Nat} {v : Value} (hc : w.cell? ⟨b, 0, none⟩ = some v) : (loadVar t ⟨b, 0, none⟩).run P w = .ok v w := by
  cases d <;> simp [flatD] at hd <;> simp [loadVar, isAgg, run_underlying hu, run_load, hc]
theorem results_cells3 {P : Program} {fn : Func} {p q r : Tmp} {tp tq tr : TypeId} (h : fn.results = #[.cell p tp, .cell q tq, .cell r tr]) (tmps : Array Value) (w : World) {dp dq dr : TypeDesc}
    (up : P.underlying tp = some dp) (uq : P.underlying tq = some dq) (ur : P.underlying tr = some dr) (np : flatD dp = true) (nq : flatD dq = true) (nr : flatD dr = true)
    (bp bq br : Nat) (vp vq vr : Value) (hp : tmps.getD p undef = .pointer (some ⟨bp, 0, none⟩)) (hq : tmps.getD q undef = .pointer (some ⟨bq, 0, none⟩)) (hr : tmps.getD r undef = .pointer (some ⟨br, 0, none⟩))
    (cp : w.cell? ⟨bp, 0, none⟩ = some vp) (cq : w.cell? ⟨bq, 0, none⟩ = some vq) (cr : w.cell? ⟨br, 0, none⟩ = some vr) :
    (results fn tmps).run P w = .ok (.tuple #[vp, vq, vr]) w := by
  have hp' : tmps[p]?.getD undef = .pointer (some ⟨bp, 0, none⟩) := by simpa using hp
  have hq' : tmps[q]?.getD undef = .pointer (some ⟨bq, 0, none⟩) := by simpa using hq
  have hr' : tmps[r]?.getD undef = .pointer (some ⟨br, 0, none⟩) := by simpa using hr
  simp [results, h, hp', hq', hr', asAddr, run_loadVar_flat up np cp, run_loadVar_flat uq nq cq, run_loadVar_flat ur nr cr]

theorem first_long (s : ByteArray) (v : Value) (w : World) (h : 200 < s.size) (hs : s.size ≤ maxLen) :
    Calls Tryd.prog 14 #[.string s, v] w fun e w' => e = .returned (.tuple #[.int .i64 0, .int .i64 0, .iface 36 (.int .i64 4)]) ∧ Below w.heap.size w w' := by
  unfold maxLen at hs
  go_enter Tryd.func14, Tryd.ntmps14
  go_wp2
  have b0 := ((Boxed.new w 3 (.int .i64 0)).alloc (.cells #[.int .i64 0] 3)).alloc (.cells #[.iface 36 (.int .i64 4)] 25)
  have b1 := (Boxed.new (w.alloc (.cells #[.int .i64 0] 3)) 3 (.int .i64 0)).alloc (.cells #[.iface 36 (.int .i64 4)] 25)
  have b2 := Boxed.new ((w.alloc (.cells #[.int .i64 0] 3)).alloc (.cells #[.int .i64 0] 3)) 25 (.iface 36 (.int .i64 4))
  simp only [World.size_alloc] at b1 b2
  refine bodyPost_ret (results_cells3 rfl _ _ Tryd.underlying3 Tryd.underlying3 Tryd.underlying25 rfl rfl rfl _ _ _ _ _ _ rfl rfl rfl b0.cell b1.cell b2.cell) rfl ?_
  exact ⟨rfl, (((Below.refl _ w).alloc (Nat.le_refl _) _).alloc (by simp) _).alloc (by simp; omega) _⟩

/-- What the loop body leaves. -/
def EndM {s : ByteArray} {more : Bool} (w : World) (B : Nat) (c : Code) (pre : List (SqE s more)) (X : World) : Prop :=
  (c = .ret ∧ ∃ x : SqE s more, pre = [x] ∧ Boxed X B 3 (.int .i64 (x.1.1 : Int)) ∧ Boxed X (B + 1) 3 (.int .i64 (x.1.2 : Int)) ∧ Boxed X (B + 1 + 1) 25 .nilIface) ∧ Below B w X

set_option maxRecDepth 100000 in
set_option maxHeartbeats 2000000 in
theorem first_in (s : ByteArray) (more : Bool) (F G : Nat) (w : World) (h : s.size ≤ 200) (hF : ∀ W, Calls Tryd.prog F #[.string s] W fun e w' => e = .returned (.func (.func G) #[] #[.pointer (some ⟨W.heap.size, 0, none⟩)]) ∧ w' = W.alloc (.cells #[.string s] 9))
    (eF : ∀ args W, Sem.run Tryd.prog (callFunc F args) W = .ok (.enter F args) W) (eG : ∀ args W, (callFunc G args).run Tryd.prog W = .ok (.enter G args) W)
    (hseq : ∀ Bn W, Boxed W Bn 9 (.string s) → SeqO Tryd.prog G #[.pointer (some ⟨Bn, 0, none⟩)] encQ KpC AllQ (FirstQ (s := s) (more := more)) 30000 W) :
    CallsIn Fence.wide 9 Tryd.prog 14 #[.string s, .func (.func F) #[] #[]] w fun e w' => ∃ a b : Int, e = .returned (.tuple #[.int .i64 a, .int .i64 b, .nilIface]) ∧ FSq (bs s) more a b ∧ Below w.heap.size w w' := by
  refine callsIn_of_wp_marks Tryd.func14 rfl trivial ?_ rfl
  simp only [Tryd.ntmps14, List.size_toArray, List.length_cons, List.length_nil, Nat.reduceAdd, Nat.reduceSub, Array.replicate_succ, Array.replicate_zero, List.push_toArray, List.append_toArray, List.nil_append, List.cons_append]
  have HF := hid hF
  clear hF
  gi_wp2_with fail
  refine ⟨trivial, (callsIn_wide.2 (HF.out _)).mono ?_⟩
  rintro e w3 ⟨rfl, hw3⟩
  subst w3
  gi_wp2_with fail
  have b0 := (((Boxed.new w 3 (.int .i64 0)).alloc (.cells #[.int .i64 0] 3)).alloc (.cells #[.nilIface] 25)).alloc (.cells #[.string s] 9)
  have b1 := ((Boxed.new (w.alloc (.cells #[.int .i64 0] 3)) 3 (.int .i64 0)).alloc (.cells #[.nilIface] 25)).alloc (.cells #[.string s] 9)
  have b2 := (Boxed.new ((w.alloc (.cells #[.int .i64 0] 3)).alloc (.cells #[.int .i64 0] 3)) 25 .nilIface).alloc (.cells #[.string s] 9)
  have bS := Boxed.new (((w.alloc (.cells #[.int .i64 0] 3)).alloc (.cells #[.int .i64 0] 3)).alloc (.cells #[.nilIface] 25)) 9 (.string s)
  have hb4 : Below w.heap.size w ((((w.alloc (.cells #[.int .i64 0] 3)).alloc (.cells #[.int .i64 0] 3)).alloc (.cells #[.nilIface] 25)).alloc (.cells #[.string s] 9)) :=
    ((((Below.refl _ w).alloc (Nat.le_refl _) _).alloc (by simp) _).alloc (by simp; omega) _).alloc (by simp; omega) _
  simp only [World.size_alloc] at b1 b2 bS
  obtain ⟨W4, hW4⟩ : ∃ W4, (((w.alloc (.cells #[.int .i64 0] 3)).alloc (.cells #[.int .i64 0] 3)).alloc (.cells #[.nilIface] 25)).alloc (.cells #[.string s] 9) = W4 := ⟨_, rfl⟩
  have hz : W4.heap.size = w.heap.size + 4 := by rw [← hW4]; simp
  rw [hW4] at b0 b1 b2 bS hb4 ⊢
  clear hW4 HF
  have kput : ∀ {X : World} {b D : Nat} {t : TypeId} {v : Value} {o : Obj}, Boxed X b t v → b < D → Boxed (X.putObj D o) b t v := fun h hd => (World.putObj_heap_other (by omega)).trans h
  refine range_own rfl (gf := G) (lb := #[.pointer (some ⟨w.heap.size + 1 + 1 + 1, 0, none⟩)]) eG (hseq _ W4 bS) (Below.refl _ _) (fun _ => rfl) KpC.trans (fun X b o o' _ hl hc _ => kpC_put X b o o' hl hc)
    (fun pre X => (pre = [] ∧ Boxed X w.heap.size 3 (.int .i64 0) ∧ Boxed X (w.heap.size + 1) 3 (.int .i64 0) ∧ Boxed X (w.heap.size + 1 + 1) 25 .nilIface) ∧ Below w.heap.size w X)
    (EndM w w.heap.size)
    (fun pre X Y row hp hg hr => ⟨⟨hp.1.1, boxed_own _ _ (fun (_ : Unit) => Value.int .i64 0) () X Y row hp.1.2.1 hg (fun r e => (hr r e).2), boxed_own _ _ (fun (_ : Unit) => Value.int .i64 0) () X Y row hp.1.2.2.1 hg (fun r e => (hr r e).2), boxed_own _ _ (fun (_ : Unit) => Value.nilIface) () X Y row hp.1.2.2.2 hg (fun r e => (hr r e).2)⟩,
      ownFrom_below (Nat.le_refl _) (by omega) pre X Y row hp.2 hg hr⟩)
    (fun c pre X Y row hp hg hr => by
      obtain ⟨⟨hc, x, hx, h1, h2, h3⟩, h4⟩ := hp
      exact ⟨⟨hc, x, hx, boxed_own _ _ (fun (_ : Unit) => Value.int .i64 (x.1.1 : Int)) () X Y row h1 hg (fun r e => (hr r e).2), boxed_own _ _ (fun (_ : Unit) => Value.int .i64 (x.1.2 : Int)) () X Y row h2 hg (fun r e => (hr r e).2), boxed_own _ _ (fun (_ : Unit) => Value.nilIface) () X Y row h3 hg (fun r e => (hr r e).2)⟩,
        ownFrom_below (Nat.le_refl _) (by omega) pre X Y row h4 hg hr⟩)
    ⟨⟨rfl, b0, b1, b2⟩, hb4⟩
    (fun x => { tmps := #[.string s, .func (.func F) #[] #[], undef, undef, .pointer (some ⟨w.heap.size, 0, none⟩), .pointer (some ⟨w.heap.size + 1, 0, none⟩), .pointer (some ⟨w.heap.size + 1 + 1, 0, none⟩), .int .i64 (x.1.1 : Int), .int .i64 (x.1.2 : Int), .string s, .int .i64 (s.size : Int), .bool (decide ((200 : Int) < (s.size : Int))), undef, .func (.func F) #[] #[], .string s, .func (.func G) #[] #[.pointer (some ⟨w.heap.size + 1 + 1 + 1, 0, none⟩)], .int .i64 (x.1.1 : Int), .int .i64 (x.1.2 : Int), undef, undef], defers := [] }) ?assign ?body ?done ?stop
  case assign =>
    intro l2 x X K hK
    unfold encQ
    gi_wp2
    exact hK
  case body =>
    rintro l2 pre x X ⟨⟨rfl, h0, h1, h2⟩, hb⟩ hlt
    have c0 := h0.cell
    have c1 := h1.cell
    have c2 := h2.cell
    have f0 := h0.frozen
    have f1 := h1.frozen
    have f2 := h2.frozen
    gi_wp2
    have k0 := (((h0.set (.int .i64 (x.1.1 : Int))).other (B' := w.heap.size + 1) (by omega) (.int .i64 (x.1.2 : Int))).other (B' := w.heap.size + 1 + 1) (by omega) .nilIface)
    have k1 := (((h1.other (B' := w.heap.size) (by omega) (.int .i64 (x.1.1 : Int))).set (.int .i64 (x.1.2 : Int))).other (B' := w.heap.size + 1 + 1) (by omega) .nilIface)
    have k2 := (((h2.other (B' := w.heap.size) (by omega) (.int .i64 (x.1.1 : Int))).other (B' := w.heap.size + 1) (by omega) (.int .i64 (x.1.2 : Int))).set .nilIface)
    exact ⟨(((KeepsOthers.setCell _ _ _).trans (KeepsOthers.setCell _ _ _)).trans (KeepsOthers.setCell _ _ _)).from _, ⟨rfl, x, rfl, k0, k1, k2⟩,
      ((hb.setCell (p := ⟨w.heap.size, 0, none⟩) (by simp) _).setCell (p := ⟨w.heap.size + 1, 0, none⟩) (by simp) _).setCell (p := ⟨w.heap.size + 1 + 1, 0, none⟩) (by simp; omega) _⟩
  case done =>
    rintro D ys X hD hS ⟨⟨rfl, h0, h1, h2⟩, hb⟩ hK
    have c0 := h0.cell
    have c1 := h1.cell
    have c2 := h2.cell
    have f0 := h0.frozen
    have f1 := h1.frozen
    have f2 := h2.frozen
    gi_wp2
    have k0 := (((h0.set (.int .i64 (-1))).other (B' := w.heap.size + 1) (by omega) (.int .i64 0)).other (B' := w.heap.size + 1 + 1) (by omega) .nilIface)
    have k1 := (((h1.other (B' := w.heap.size) (by omega) (.int .i64 (-1))).set (.int .i64 0)).other (B' := w.heap.size + 1 + 1) (by omega) .nilIface)
    have k2 := (((h2.other (B' := w.heap.size) (by omega) (.int .i64 (-1))).other (B' := w.heap.size + 1) (by omega) (.int .i64 0)).set .nilIface)
    have hb5 := ((hb.setCell (p := ⟨w.heap.size, 0, none⟩) (by simp) (.int .i64 (-1))).setCell (p := ⟨w.heap.size + 1, 0, none⟩) (by simp) (.int .i64 0)).setCell (p := ⟨w.heap.size + 1 + 1, 0, none⟩) (by simp; omega) .nilIface
    have hK2 := ((((KeepsOthers.setCell X ⟨w.heap.size, 0, none⟩ (.int .i64 (-1))).trans (KeepsOthers.setCell _ ⟨w.heap.size + 1, 0, none⟩ (.int .i64 0))).trans (KeepsOthers.setCell _ ⟨w.heap.size + 1 + 1, 0, none⟩ .nilIface))).same D _ hK rfl
    refine ⟨by simp, .inl ⟨_, _, rfl, run_takeDeferred hK2, ?_⟩⟩
    refine ⟨_, results_cells3 rfl _ _ Tryd.underlying3 Tryd.underlying3 Tryd.underlying25 rfl rfl rfl _ _ _ _ _ _ rfl rfl rfl (kput k0 (by omega)).cell (kput k1 (by omega)).cell (kput k2 (by omega)).cell, -1, 0, rfl, allQ_none hS, ?_⟩
    exact hb5.trans (belowK_b (w := w) (Nat.le_refl _) _ D _ _ (by omega) hK2 rfl rfl)
  case stop =>
    rintro D c pre X hD hS ⟨⟨rfl, x, rfl, h0, h1, h2⟩, hb⟩ hK
    gi_wp2
    refine ⟨by simp, .inl ⟨_, _, rfl, run_takeDeferred hK, ?_⟩⟩
    refine ⟨_, results_cells3 rfl _ _ Tryd.underlying3 Tryd.underlying3 Tryd.underlying25 rfl rfl rfl _ _ _ _ _ _ rfl rfl rfl (kput h0 (by omega)).cell (kput h1 (by omega)).cell (kput h2 (by omega)).cell, (x.1.1 : Int), (x.1.2 : Int), rfl, firstQ_some hS, ?_⟩
    exact hb.trans (belowK_b (w := w) (Nat.le_refl _) _ D _ _ (by omega) hK rfl rfl)
theorem wtwice_any (s : ByteArray) (w : World) (h : s.size ≤ 200) :
    Calls Tryd.prog 9 #[.string s] w fun e w' => ∃ a b, e = .returned (.tuple #[.int .i64 a, .int .i64 b, .nilIface]) ∧ FSq (bs s) false a b ∧ Below w.heap.size w w' := by
  have HC := fun W => hid (callsIn_wide.1 (first_in s false 15 20 W h (fun W => squares_any s W) (enters_of Tryd.func15 (by kernel_rfl) rfl) (enters_of Tryd.func20 (by kernel_rfl) rfl)
    (fun Bn W hB => seqO_of (squares_stops s h 9 (by omega) Bn W hB))))
  go_enter Tryd.func9, Tryd.ntmps9
  go_wp2_with fail
  refine (HC _).out.mono ?_
  rintro e w2 ⟨a, b, rfl, hf, hb⟩
  have HR := hid (And.intro hf hb)
  clear HC hf hb h
  go_wp2
  go_ret3
  exact ⟨a, b, rfl, HR.out.1, HR.out.2⟩
theorem wtwice_full (s : ByteArray) (w : World) (h : 200 < s.size) (hs : s.size ≤ maxLen) :
    Calls Tryd.prog 9 #[.string s] w fun e w' => e = .returned (.tuple #[.int .i64 0, .int .i64 0, .iface 36 (.int .i64 4)]) ∧ Below w.heap.size w w' := by
  have HC := fun v W => hid (first_long s v W h hs)
  go_enter Tryd.func9, Tryd.ntmps9
  go_wp2_with fail
  refine (HC _ _).out.mono ?_
  rintro e w2 ⟨rfl, hb⟩
  have HR := hid hb
  clear HC hb h
  go_wp2
  go_ret3
  exact ⟨rfl, HR.out⟩
theorem wover_any (s : ByteArray) (w : World) (h : s.size ≤ 200) :
    Calls Tryd.prog 10 #[.string s] w fun e w' => ∃ a b, e = .returned (.tuple #[.int .i64 a, .int .i64 b, .nilIface]) ∧ FSq (bs s) true a b ∧ Below w.heap.size w w' := by
  have HC := fun W => hid (callsIn_wide.1 (first_in s true 16 21 W h (fun W => overlaps_any s W) (enters_of Tryd.func16 (by kernel_rfl) rfl) (enters_of Tryd.func21 (by kernel_rfl) rfl)
    (fun Bn W hB => overlaps_seq s h Bn W hB)))
  go_enter Tryd.func10, Tryd.ntmps10
  go_wp2_with fail
  refine (HC _).out.mono ?_
  rintro e w2 ⟨a, b, rfl, hf, hb⟩
  have HR := hid (And.intro hf hb)
  clear HC hf hb h
  go_wp2
  go_ret3
  exact ⟨a, b, rfl, HR.out.1, HR.out.2⟩
theorem wover_full (s : ByteArray) (w : World) (h : 200 < s.size) (hs : s.size ≤ maxLen) :
    Calls Tryd.prog 10 #[.string s] w fun e w' => e = .returned (.tuple #[.int .i64 0, .int .i64 0, .iface 36 (.int .i64 4)]) ∧ Below w.heap.size w w' := by
  have HC := fun v W => hid (first_long s v W h hs)
  go_enter Tryd.func10, Tryd.ntmps10
  go_wp2_with fail
  refine (HC _ _).out.mono ?_
  rintro e w2 ⟨rfl, hb⟩
  have HR := hid hb
  clear HC hb h
  go_wp2
  go_ret3
  exact ⟨rfl, HR.out⟩
end Go.Proofs.YtkpjflfhegejpaaDoor
