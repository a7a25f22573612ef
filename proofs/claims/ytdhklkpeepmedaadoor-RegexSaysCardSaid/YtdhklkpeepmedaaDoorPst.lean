/-
  The state of the pattern reader's functions: the pattern in a block of its own, the result's block behind it, the nodes elsewhere; what a call, a new text, a mark leave of it. No condition.
-/
import Derived.Test.YtdhklkpeepmedaaDoorPread
import Derived.Test.YtdhklkpeepmedaaDoorPat
namespace Go.Proofs.YtdhklkpeepmedaaDoor
open Go.RowKit

theorem RdX.keepB {w w' : World} {v : Value} {N : List Nd} (h : RdX encN 4 w v N) (hs : w.heap.size ≤ w'.heap.size) (hk : ∀ g, v.ownBlock = some g → w'.heap[g]? = w.heap[g]?) : RdX encN 4 w' v N := by
  rcases h with h | ⟨g, c, hv, hg, hc⟩
  · exact .inl h
  · subst hv
    exact .inr ⟨g, c, rfl, by omega, fun j hj m hm => (World.cell?_of_block (w := w) (w' := w') (a := ⟨g, j * 4 + m, none⟩) (hk g rfl)).trans (hc j hj m hm)⟩
theorem RdX.lt {w : World} {v : Value} {N : List Nd} (h : RdX encN 4 w v N) {g : Nat} (hg : v.ownBlock = some g) : g < w.heap.size := by
  rcases h with ⟨_, rfl⟩ | ⟨g', c, rfl, hlt, _⟩
  · cases hg
  · cases hg; exact hlt
/-- The pattern in block P, the result in the next one. -/
structure PSt (w0 wr : World) (v0 v : Value) (s : ByteArray) (b : Bool) (k : Nat) (N : List Nd) : Prop where
  pat : PatB wr w0.heap.size v s b (k : Nat)
  res : PatB wr (w0.heap.size + 1) (.slice none 0 0) ByteArray.empty false 0
  rd : RdX encN 4 wr v N
  own : ∀ g, v.ownBlock = some g → (v0.ownBlock = some g ∧ g < w0.heap.size) ∨ w0.heap.size + 2 ≤ g
  bel : Below w0.heap.size w0 wr
theorem PSt.start (w0 : World) (v : Value) (s : ByteArray) (b : Bool) (k : Nat) (N : List Nd) (h : RdX encN 4 w0 v N) :
    PSt w0 ((w0.alloc (.cells #[v, .string s, .bool b, .int .i64 (k : Nat)] 24)).alloc (.cells #[.slice none 0 0, .string ByteArray.empty, .bool false, .int .i64 0] 24)) v v s b k N := by
  have hb : Below w0.heap.size w0 ((w0.alloc (.cells #[v, .string s, .bool b, .int .i64 (k : Nat)] 24)).alloc (.cells #[.slice none 0 0, .string ByteArray.empty, .bool false, .int .i64 0] 24)) :=
    ((Below.refl _ w0).alloc (Nat.le_refl _) _).alloc (by simp) _
  refine ⟨?_, ?_, h.below hb, fun g hg => .inl ⟨hg, h.lt hg⟩, hb⟩
  · unfold PatB
    rw [Below.heap_alloc _ _ _ (by simp)]
    exact heap_alloc_new w0 _
  · have := heap_alloc_new (w0.alloc (.cells #[v, .string s, .bool b, .int .i64 (k : Nat)] 24)) (.cells #[.slice none 0 0, .string ByteArray.empty, .bool false, .int .i64 0] 24)
    unfold PatB
    rw [← this]
    simp
section
variable {w0 wr : World} {v0 v : Value} {s : ByteArray} {b : Bool} {k : Nat} {N : List Nd}
theorem PSt.size (h : PSt w0 wr v0 v s b k N) : w0.heap.size + 2 ≤ wr.heap.size := h.res.lt
/-- A call that only makes memory. -/
theorem PSt.calm {w' : World} (h : PSt w0 wr v0 v s b k N) (hb : Below wr.heap.size wr w') : PSt w0 w' v0 v s b k N :=
  ⟨h.pat.below hb h.pat.lt, h.res.below hb h.res.lt, h.rd.below hb, h.own, h.bel.trans (hb.mono h.bel.size)⟩
theorem PSt.drewN (h : PSt w0 wr v0 v s b k N) (q : Nat) : PSt w0 (wr.drewN q) v0 v s b k N := ⟨h.pat, h.res, h.rd, h.own, below_drewN h.bel q⟩
theorem PSt.off (h : PSt w0 wr v0 v s b k N) {g : Nat} (hg : v.ownBlock = some g) : g ≠ w0.heap.size ∧ g ≠ w0.heap.size + 1 := by
  rcases h.own g hg with ⟨_, h⟩ | h <;> omega
theorem PSt.left (h : PSt w0 wr v0 v s b k N) (x : ByteArray) : PSt w0 (wr.setCell ⟨w0.heap.size, 1, none⟩ (.string x)) v0 v x b k N :=
  ⟨h.pat.set1 x, h.res.keeps (set_other _ w0.heap.size _ _ _ (by omega)), h.rd.keepB (by simp) (fun g hg => set_other _ w0.heap.size _ g _ (h.off hg).1), h.own, h.bel.setCell (p := ⟨w0.heap.size, 1, none⟩) (Nat.le_refl _) _⟩
theorem PSt.mark (h : PSt w0 wr v0 v s b k N) : PSt w0 (wr.setCell ⟨w0.heap.size, 2, none⟩ (.bool true)) v0 v s true k N :=
  ⟨h.pat.set2 true, h.res.keeps (set_other _ w0.heap.size _ _ _ (by omega)), h.rd.keepB (by simp) (fun g hg => set_other _ w0.heap.size _ g _ (h.off hg).1), h.own, h.bel.setCell (p := ⟨w0.heap.size, 2, none⟩) (Nat.le_refl _) _⟩
/-- A call whose answer is stored. -/
theorem PSt.next {w' w'' : World} {v' : Value} {s' : ByteArray} {b' : Bool} {k' : Nat} {N' : List Nd} (h : PSt w0 wr v0 v s b k N) (hb : Below wr.heap.size wr w') (hr : RdX encN 4 w' v' N') (ho : ∀ g, v'.ownBlock = some g → v.ownBlock = some g ∨ wr.heap.size ≤ g)
    (hp : PatB w'' w0.heap.size v' s' b' (k' : Nat)) (hk : ∀ j, j ≠ w0.heap.size → w''.heap[j]? = w'.heap[j]?) (hs : w''.heap.size = w'.heap.size) (hw : Below w0.heap.size w' w'') : PSt w0 w'' v0 v' s' b' k' N' := by
  have hz := h.size
  have own : ∀ g, v'.ownBlock = some g → (v0.ownBlock = some g ∧ g < w0.heap.size) ∨ w0.heap.size + 2 ≤ g := fun g hg => by
    rcases ho g hg with e | e
    · exact h.own g e
    · exact .inr (by omega)
  refine ⟨hp, ?_, hr.keepB (by omega) (fun g hg => hk g ?_), own, (h.bel.trans (hb.mono h.bel.size)).trans hw⟩
  · exact (h.res.below hb h.res.lt).keeps (hk _ (by omega))
  · rcases own g hg with ⟨_, h⟩ | h <;> omega
end
/-- What a reader's function answers: what it read means 'res'; lo, hi: how many nodes there are. -/
def PtRes (N N' : List Nd) (b : Bool) (s : ByteArray) (k : Nat) : Pt → Prop
  | none => b = true
  | some (r, t) => b = false ∧ bs s = t ∧ (∃ M, N' = N ++ M) ∧ TreeAt N' r k
def PtOut (w : World) (v : Value) (N : List Nd) (sz lo hi : Nat) (res : Pt) (e : Ending) (w' : World) : Prop :=
  ∃ (v' : Value) (s' : ByteArray) (b' : Bool) (k' : Nat) (N' : List Nd), e = .returned (pvA v' s' b' (k' : Nat)) ∧ RdX encN 4 w' v' N' ∧ Below w.heap.size w w' ∧ (∀ g, v'.ownBlock = some g → v.ownBlock = some g ∨ w.heap.size ≤ g) ∧
    s'.size ≤ sz ∧ N'.length + 3 * s'.size + lo ≤ hi ∧ PtRes N N' b' s' k' res
def EiC (n : Nat) : Prop := ∀ (v : Value) (s : ByteArray) (k : Nat) (N : List Nd) (w : World), s.size ≤ n → RdX encN 4 w v N → N.length + 3 * s.size ≤ 900 →
  Calls Tryd.prog 17 #[pvA v s false (k : Nat)] w (PtOut w v N s.size 0 (N.length + 3 * s.size + 1) (pE (bs s)))
def RoC (n : Nat) : Prop := ∀ (v : Value) (s : ByteArray) (k : Nat) (N : List Nd) (w : World), s.size ≤ n → RdX encN 4 w v N → N.length + 3 * s.size ≤ 900 →
  Calls Tryd.prog 26 #[pvA v s false (k : Nat)] w (PtOut w v N s.size 0 (N.length + 3 * s.size + 1) (pR none (bs s)))
def PaC (n : Nat) : Prop := ∀ (v : Value) (s : ByteArray) (k : Nat) (N : List Nd) (w : World) (c : UInt8) (t : List UInt8), s.size ≤ n → bs s = c :: t → RdX encN 4 w v N → N.length + 3 * s.size ≤ 901 →
  Calls Tryd.prog 35 #[pvA v s false (k : Nat)] w (PtOut w v N (s.size - 1) 1 (N.length + 3 * s.size) (pP c t))
end Go.Proofs.YtdhklkpeepmedaaDoor
