/-
  No program: a loop over an iterator that ranges over another iterator itself. SeqO: what such an iterator promises: its caller's invariants may also abide the records of its own loops (from the world's end at its call on). seqO_of: any iterator of the library's contract keeps it. range_own: the loop over it, outermost, at the widest fence. No condition but those named.
-/
import Derived.Test.YtkpjflfhegejpaaDoorMem
import Derived.RangeFuncNested
import Derived.RangeFuncLeaves
import Derived.RangeFuncWrites
import Derived.OwnWalkIn
import Derived.TacticsInMore
import Derived.LoopNIn
import Derived.LoopIn
namespace Go.Proofs.YtkpjflfhegejpaaDoor
open Go.RowKit Go.Proofs

theorem round_depth {n m : Nat} {P : Program} {l : Nat} {f : FuncId} {tmps : Array Value} {assign body : Code} {w : World} {R : Ending → World → Prop} (h : RoundIn Fence.wide n P l f tmps assign body w R) : RoundIn Fence.wide m P l f tmps assign body w R :=
  ⟨h.1, fun c cs _ => h.2 c cs (room_wide _)⟩
theorem round_in {n m : Nat} {P : Program} {l l2 : Nat} {f : FuncId} {tmps : Array Value} {assign body : Code} {w : World} {R : Ending → World → Prop} (h : RoundIn Fence.wide n P l f tmps assign body w R) : RoundIn (Fence.wide.inRound l2) m P l f tmps assign body w R :=
  ⟨h.1, fun c cs _ => h.2 c cs (room_wide _)⟩
theorem yield_depth {n m : Nat} {P : Program} {l : Nat} {args : Array Value} {W : World} {R : Ending → World → Prop} (h : YieldAt Fence.wide n P l args W R) : YieldAt Fence.wide m P l args W R := by
  obtain ⟨fn, tmps, assign, body, h1, h2⟩ := h
  exact ⟨fn, tmps, assign, body, h1, round_depth h2⟩
theorem ownFrom_later {β : Type} {B B' : Nat} {I : β → World → Prop} (h : OwnFrom B I) (hB : B ≤ B') : OwnFrom B' I := fun s W W' row hs hg hr =>
  h s W W' row hs hg fun r e => ⟨by have := (hr r e).1; omega, (hr r e).2⟩
theorem ownFrom_abides {β : Type} {B : Nat} {I : β → World → Prop} (h : OwnFrom B I) : AbidesFrom B I := fun s W W' row hs hg hr =>
  h s W W' row hs hg fun r e => by
    obtain ⟨h1, o, ho, hw⟩ := hr r e
    exact ⟨h1, o, ho, Obj.not_cells_of_walk hw⟩

/-- What an iterator promises that may range over another one. -/
def SeqO {α : Type} (P : Program) (gf : Nat) (lb : Array Value) (encs : α → Array Value) (Kp : World → World → Prop) (S Sp : List α → Prop) (N : Nat) (w : World) : Prop :=
  ∀ (l : Nat) (J Jx : List α → World → Prop) (W : World), Below w.heap.size w W → OwnFrom W.heap.size J → OwnFrom W.heap.size Jx →
    (∀ pre x W1, J pre W1 → pre.length < N → YieldAt Fence.wide 1 P l (encs x) W1 fun e W' =>
      (e = .returned (.bool true) ∧ J (pre ++ [x]) W' ∧ Kp W1 W' ∧ KeepsFrom W.heap.size W1 W') ∨ (e = .returned (.bool false) ∧ Jx (pre ++ [x]) W' ∧ KeepsFrom W.heap.size W1 W')) →
    J [] W →
    Calls P gf (#[.func (.yield l) #[] #[]] ++ lb) W fun e W' => (∃ v, e = .returned v) ∧ ((∃ xs, S xs ∧ J xs W') ∨ (∃ pre, Sp pre ∧ Jx pre W'))
theorem seqO_of {α : Type} {n : Nat} {P : Program} {gf : Nat} {lb : Array Value} {encs : α → Array Value} {Kp : World → World → Prop} {S Sp : List α → Prop} {N : Nat} {w : World}
    (h : SeqStopsK Fence.wide n P gf lb encs Kp S Sp N w) : SeqO P gf lb encs Kp S Sp N w := fun l J Jx W hW hJ hJx hY h0 =>
  callsIn_wide.1 (h l J Jx W hW (ownFrom_abides hJ) (ownFrom_abides hJx) (fun pre x W1 hj hl => by
    obtain ⟨fn, tmps, assign, body, h1, h2⟩ := hY pre x W1 hj hl
    exact ⟨fn, tmps, assign, body, h1, (round_depth h2).mono fun e W' hr => hr.imp (fun h => ⟨h.1, h.2.1, h.2.2.1⟩) (fun h => ⟨h.1, h.2.1⟩)⟩) h0)

/-- A loop, outermost in its function, over an iterator that keeps SeqO. -/
theorem range_own {α : Type} {n : Nat} {P : Program} {g : Operand} {ps : Array Tmp} {assign body : Code} {Q : Exit → Act → World → Prop} {a : Act} {w : World}
    {gf : Nat} {lb : Array Value} (hg : a.eval g = .func (.func gf) #[] lb) (eg : ∀ args W, (callFunc gf args).run P W = .ok (.enter gf args) W)
    {encs : α → Array Value} {Kp : World → World → Prop} {S Sp : List α → Prop} {N : Nat} {w0 : World} (hseq : SeqO P gf lb encs Kp S Sp N w0) (hb0 : Below w0.heap.size w0 w) (hps : ∀ x, (encs x).size = ps.size)
    (hKt : ∀ {A B C : World}, Kp A B → Kp B C → Kp A C) (hKb : ∀ (W : World) (l : Nat) (o o' : Obj), w.heap.size ≤ l → W.heap[l]? = some o → o.isCells = false → o.isWalk = false → Kp W (W.putObj l o'))
    (I : List α → World → Prop) (Ix : Code → List α → World → Prop) (hI : OwnFrom w.heap.size I) (hIx : ∀ c, OwnFrom w.heap.size (Ix c)) (h0 : I [] w) (a₁ : α → Act)
    (hassign : ∀ (l : Nat) (x : α) (W : World) (K : Act → World → Prop), K (a₁ x) W →
      assign.wpIn (Fence.wide.inRound l) 1 P (Exit.then K (fun _ _ _ => False)) { tmps := (ps.zip (encs x)).foldl (fun t (p, v) => t.setIfInBounds p v) a.tmps, defers := [] } W)
    (hbody : ∀ (l : Nat) (pre : List α) (x : α) (W : World), I pre W → pre.length < N → body.wpIn (Fence.wide.inRound l) 1 P (ownPostG w.heap.size Kp I Ix (pre ++ [x]) W) (a₁ x) W)
    (hdone : ∀ (D : Nat) (xs : List α) (W : World), w.heap.size ≤ D → S xs → I xs W → W.heap[D]? = some (.deferred (some [])) → Q .normal { a with defers := { target := .collected D, args := #[] } :: a.defers } W)
    (hstop : ∀ (D : Nat) (c : Code) (pre : List α) (W : World), w.heap.size ≤ D → Sp pre → Ix c pre W → W.heap[D]? = some (.deferred (some [])) → c.wpIn Fence.wide n P Q { a with defers := { target := .collected D, args := #[] } :: a.defers } W) :
    (Code.rangeFunc g ps assign body).wpIn Fence.wide n P Q a w := by
  refine wpIn_rangeFunc fun fn _ => ?_
  obtain ⟨R, hR⟩ : ∃ R : LoopState → Option Code → Obj, R = fun st j => .loop { state := st, pending := j, fn, tmps := a.tmps, params := ps, assign, body, defers := w.heap.size } := ⟨_, rfl⟩
  obtain ⟨W1, hW1⟩ : ∃ W1, W1 = (w.alloc (.deferred (some []))).alloc (R .ready none) := ⟨_, rfl⟩
  have hsz : W1.heap.size = w.heap.size + 2 := by rw [hW1]; simp
  have hD1 : W1.heap[w.heap.size]? = some (.deferred (some [])) := by
    rw [hW1, Below.heap_alloc _ _ _ (by simp)]
    exact World.alloc_heap_new w _
  have hL1 : W1.heap[w.heap.size + 1]? = some (R .ready none) := by
    have h := World.alloc_heap_new (w.alloc (.deferred (some []))) (R .ready none)
    rw [World.size_alloc] at h
    rw [hW1]; exact h
  have hB1 : Below w0.heap.size w0 W1 := by
    rw [hW1]
    exact (hb0.alloc hb0.size _).alloc (by have := hb0.size; simp; omega) _
  have hI1 : I [] W1 := by rw [hW1]; exact hI.alloc _ (hI.alloc _ h0)
  have turn : ∀ {X Y : World} {row : Option Nat} {b : Nat} {o : Obj}, b < w.heap.size + 2 → X.heap[b]? = some o → X.grownBy Y row → (∀ r, row = some r → W1.heap.size ≤ r ∧ ∃ o : Obj, X.heap[r]? = some o ∧ o.isCells = false) → Y.heap[b]? = some o := fun {X Y row b o} hb hX hg hr =>
    (hg.block b (Array.getElem?_eq_some_iff.1 hX).1 fun e => by have := (hr b e.symm).1; omega).trans hX
  have back : ∀ {β : Type} {K : β → World → Prop}, OwnFrom w.heap.size K → OwnFrom W1.heap.size K := fun h => ownFrom_later h (by omega)
  refine ⟨w.heap.size + 1, [{ target := .collected w.heap.size, args := #[] }], W1, { target := .fn (.func gf) lb, args := #[.func (.yield (w.heap.size + 1)) #[] #[]] }, W1, gf, #[.func (.yield (w.heap.size + 1)) #[] #[]] ++ lb, W1,
    by rw [hW1, hR]; exact run_enterLoop_outer _ _ _ _ _, by simp only [resolve, hg]; simp [go_sem], fun _ _ => trivial, by simp [invoke, go_sem, eg], fun h => by simp [Fence.wide] at h, ?_⟩
  refine callsIn_wide.2 ((hseq (w.heap.size + 1)
    (fun pre W => I pre W ∧ W.heap[w.heap.size + 1]? = some (R .ready none) ∧ W.heap[w.heap.size]? = some (.deferred (some [])))
    (fun pre W => ∃ c, Ix c pre W ∧ W.heap[w.heap.size + 1]? = some (R .done (some c)) ∧ W.heap[w.heap.size]? = some (.deferred (some [])))
    W1 hB1
    (fun s X Y row hs hg hr => ⟨back hI s X Y row hs.1 hg hr, turn (by omega) hs.2.1 hg hr, turn (by omega) hs.2.2 hg hr⟩)
    (fun s X Y row hs hg hr => by
      obtain ⟨c, h1, h2, h3⟩ := hs
      exact ⟨c, back (hIx c) s X Y row h1 hg hr, turn (by omega) h2 hg hr, turn (by omega) h3 hg hr⟩)
    ?round ⟨hI1, hL1, hD1⟩).mono ?behind)
  case round =>
    rintro pre x W ⟨hi, hl, hd⟩ hlen
    have hb := (Array.getElem?_eq_some_iff.1 hl).1
    have nc : ∀ st j, (R st j).isCells = false ∧ (R st j).isWalk = false := fun st j => by rw [hR]; exact ⟨rfl, rfl⟩
    refine ⟨fn, _, assign, body, by rw [hR] at hl; exact run_yield hl (hps x), roundIn_of_wpIn trivial (hassign _ x W _ ⟨_, by rw [hR] at hl; exact run_beginRound hl rfl, ?_⟩)⟩
    obtain ⟨W2, hW2⟩ : ∃ W2, W2 = W.putObj (w.heap.size + 1) (R .busy none) := ⟨_, rfl⟩
    have hl2 : W2.heap[w.heap.size + 1]? = some (R .busy none) := by rw [hW2]; exact World.putObj_heap_same hb
    have hd2 : W2.heap[w.heap.size]? = some (.deferred (some [])) := by rw [hW2]; exact (World.putObj_heap_other (by omega)).trans hd
    have hk2 : Kp W W2 := by rw [hW2]; exact hKb _ _ _ _ (by omega) hl (nc _ _).1 (nc _ _).2
    have hi2 : I pre W2 := by rw [hW2]; exact hI.putObj _ hi (by omega) hl (nc _ _).1
    have last : ∀ (j : Option Code) (W3 : World), KeepsFrom w.heap.size W2 W3 →
        (Instr.endRound (w.heap.size + 1) j).run P W3 = .ok (.bool j.isNone) (W3.putObj (w.heap.size + 1) (R (if j.isNone then .ready else .done) j)) ∧ W3.heap[w.heap.size + 1]? = some (R .busy none) ∧
        (W3.putObj (w.heap.size + 1) (R (if j.isNone then .ready else .done) j)).heap[w.heap.size + 1]? = some (R (if j.isNone then .ready else .done) j) ∧
        (W3.putObj (w.heap.size + 1) (R (if j.isNone then .ready else .done) j)).heap[w.heap.size]? = some (.deferred (some [])) := fun j W3 hk => by
      have hl3 := hk.same _ _ (by omega) hl2 (nc _ _).1
      have hl4 := hl3
      rw [hR] at hl4
      have he := run_endRound (P := P) j hl4
      refine ⟨by rw [hR]; exact he, hl3, World.putObj_heap_same (Array.getElem?_eq_some_iff.1 hl3).1, (World.putObj_heap_other (by omega)).trans (hk.same _ _ (Nat.le_refl _) hd2 rfl)⟩
    have kput : ∀ {X : World} (o : Obj), KeepsFrom W1.heap.size X (X.putObj (w.heap.size + 1) o) := fun o => ⟨by simp [World.putObj], fun i o' h1 h2 _ => (World.putObj_heap_other (by omega)).trans h2⟩
    have kall : ∀ {W3 : World} (o : Obj), KeepsFrom w.heap.size W2 W3 → KeepsFrom W1.heap.size W (W3.putObj (w.heap.size + 1) o) := fun o h => by
      have h1 : KeepsFrom W1.heap.size W W2 := by rw [hW2]; exact kput _
      exact (h1.trans ⟨h.size, fun i o' hi => h.same i o' (by omega)⟩).trans (kput _)
    show body.wpIn _ _ _ _ _ (W.putObj (w.heap.size + 1) (.loop { state := .busy, pending := none, fn, tmps := a.tmps, params := ps, assign, body, defers := w.heap.size }))
    rw [show (Obj.loop { state := .busy, pending := none, fn, tmps := a.tmps, params := ps, assign, body, defers := w.heap.size }) = R .busy none by rw [hR], ← hW2]
    refine wpIn_mono (hbody _ pre x W2 hi2 hlen) fun e a3 W3 hp => ?_
    cases e with
    | normal =>
      obtain ⟨h1, h2, h3⟩ := hp
      obtain ⟨hr, l3, l4, d4⟩ := last none W3 h1
      exact ⟨_, _, hr, .inl ⟨rfl, ⟨hI.putObj _ h3 (by omega) l3 (nc _ _).1, l4, d4⟩, hKt (hKt hk2 h2) (hKb _ _ _ _ (by omega) l3 (nc _ _).1 (nc _ _).2), kall _ h1⟩⟩
    | ret =>
      obtain ⟨hr, l3, l4, d4⟩ := last (some .ret) W3 hp.1
      exact ⟨_, _, hr, .inr ⟨rfl, ⟨.ret, (hIx _).putObj _ hp.2 (by omega) l3 (nc _ _).1, l4, d4⟩, kall _ hp.1⟩⟩
    | exit id =>
      obtain ⟨hr, l3, l4, d4⟩ := last (some (.exit id)) W3 hp.1
      exact ⟨_, _, hr, .inr ⟨rfl, ⟨.exit id, (hIx _).putObj _ hp.2 (by omega) l3 (nc _ _).1, l4, d4⟩, kall _ hp.1⟩⟩
    | goto t =>
      obtain ⟨hr, l3, l4, d4⟩ := last (some (.goto t)) W3 hp.1
      exact ⟨_, _, hr, .inr ⟨rfl, ⟨.goto t, (hIx _).putObj _ hp.2 (by omega) l3 (nc _ _).1, l4, d4⟩, kall _ hp.1⟩⟩
    | panic ch => exact hp.elim
    | outgrown => exact hp.elim
  case behind =>
    have hcl : ∀ st j, (R st j).isCells = false := fun st j => by rw [hR]; rfl
    rintro e W2 ⟨⟨v, rfl⟩, ⟨xs, hS, hi, hl, hd⟩ | ⟨pre, hS, c, hi, hl, hd⟩⟩
    · have he := hl
      rw [hR] at he
      exact ⟨none, _, run_endLoop (P := P) he (by simp), hdone _ xs _ (Nat.le_refl _) hS (hI.putObj _ hi (by omega) hl (hcl _ _)) ((World.putObj_heap_other (by omega)).trans hd)⟩
    · have he := hl
      rw [hR] at he
      exact ⟨some c, _, run_endLoop (P := P) he (by simp), hstop _ c pre _ (Nat.le_refl _) hS ((hIx c).putObj _ hi (by omega) hl (hcl _ _)) ((World.putObj_heap_other (by omega)).trans hd)⟩
end Go.Proofs.YtkpjflfhegejpaaDoor
