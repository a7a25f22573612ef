/-
  Plain facts on slices of runs (structs of a sign and a number) and on slices of signs: what they hold, that it is kept, 'append'. No condition.
-/
import Derived.Test.YtdhklkpeepmedaaDoorMem
import Derived.Test.YtdhklkpeepmedaaDoorApart
namespace Go.Proofs.YtdhklkpeepmedaaDoor
open Go.RowKit

theorem Kept.cell {lo hi b o : Nat} {w w' : World} (h : Kept lo hi w w') (h1 : lo ≤ b) (h2 : b < hi) : w'.cell? ⟨b, o, none⟩ = w.cell? ⟨b, o, none⟩ := by
  unfold World.cell?
  rw [h b h1 h2]
/-- A run's two cells. -/
def encR (x : UInt8 × Int) : List Value := [.int .u8 (x.1.toNat : Int), .int .i64 x.2]
/-- The slice value '.slice A n _' holds the runs xs in world w, below block B. -/
def IsRuns (w : World) (B : Nat) (A : Option Addr) (n : Nat) (xs : List (UInt8 × Int)) : Prop :=
  xs.length = n ∧ (0 < n → ∃ g off, A = some ⟨g, off, none⟩ ∧ g < B ∧ ∀ j, j < n → w.cell? ⟨g, off + j * 2, none⟩ = some (.int .u8 ((xs.getD j (0, 0)).1.toNat : Int)) ∧ w.cell? ⟨g, off + j * 2 + 1, none⟩ = some (.int .i64 (xs.getD j (0, 0)).2))
theorem IsRuns.keep {w w' : World} {B B' n : Nat} {A : Option Addr} {xs : List (UInt8 × Int)} (h : IsRuns w B A n xs) (hB : B ≤ B')
    (hk : ∀ b o, b < B → w'.cell? ⟨b, o, none⟩ = w.cell? ⟨b, o, none⟩) : IsRuns w' B' A n xs :=
  ⟨h.1, fun hn => by
    obtain ⟨g, off, e, hg, hc⟩ := h.2 hn
    exact ⟨g, off, e, by omega, fun j hj => ⟨(hk _ _ hg).trans (hc j hj).1, (hk _ _ hg).trans (hc j hj).2⟩⟩⟩
theorem IsRuns.below {w w' : World} {B n : Nat} {A : Option Addr} {xs : List (UInt8 × Int)} (h : IsRuns w B A n xs) (hb : Below B w w') : IsRuns w' B A n xs :=
  h.keep (Nat.le_refl _) fun _ _ hp => hb.cell hp
theorem IsRuns.on {w w' : World} {n : Nat} {A : Option Addr} {xs : List (UInt8 × Int)} (h : IsRuns w w.heap.size A n xs) (hb : Below w.heap.size w w') : IsRuns w' w'.heap.size A n xs :=
  h.keep hb.size fun _ _ hp => hb.cell hp
theorem IsRuns.nil {w : World} {B : Nat} {A : Option Addr} : IsRuns w B A 0 [] := ⟨rfl, fun h => absurd h (by omega)⟩

theorem flatR_len (xs : List (UInt8 × Int)) : (xs.flatMap encR).length = xs.length * 2 := by
  induction xs with
  | nil => rfl
  | cons x xs ih => rw [List.flatMap_cons, List.length_append, ih]; simp [encR]; omega
theorem flatR_get (xs : List (UInt8 × Int)) : ∀ j, j < xs.length → (xs.flatMap encR)[j * 2]? = some (.int .u8 ((xs.getD j (0, 0)).1.toNat : Int)) ∧ (xs.flatMap encR)[j * 2 + 1]? = some (.int .i64 (xs.getD j (0, 0)).2) := by
  induction xs with
  | nil => intro j hj; simp at hj
  | cons x xs ih =>
    intro j hj
    cases j with
    | zero => simp [encR]
    | succ j =>
      have := ih j (by simpa using hj)
      rw [List.flatMap_cons, show (j + 1) * 2 = j * 2 + 2 by omega, show j * 2 + 2 + 1 = (j * 2 + 1) + 2 by omega]
      simpa [encR] using this
/-- A slice value that is the call's own and holds the runs xs. Shut for the walk. -/
def OwnR (w : World) (base : Nat) (e : TypeId) (v : Value) (xs : List (UInt8 × Int)) : Prop := w.ownsRow base e 2 v xs.length (xs.flatMap encR)
theorem OwnR.nil (w : World) (base : Nat) (e : TypeId) : OwnR w base e (.slice none 0 0) [] := World.ownsRow_nil _ _ _ _
theorem OwnR.below {w w' : World} {base B : Nat} {e : TypeId} {v : Value} {xs : List (UInt8 × Int)} (h : OwnR w base e v xs) (hb : Below B w w') (hB : w.heap.size ≤ B) : OwnR w' base e v xs := by
  refine ⟨h.1, ?_⟩
  rcases h.2 with h' | ⟨g, cap, cur, h1, h2, h3, h4⟩
  · exact .inl h'
  · refine .inr ⟨g, cap, cur, h1, h2, ?_, h4⟩
    have hlt : g < w.heap.size := by
      rcases Nat.lt_or_ge g w.heap.size with hlt | hge
      · exact hlt
      · rw [Array.getElem?_eq_none hge] at h3; cases h3
    rw [hb.block g (by omega)]; exact h3
theorem OwnR.drewN {w : World} {base : Nat} {e : TypeId} {v : Value} {xs : List (UInt8 × Int)} (h : OwnR w base e v xs) (q : Nat) : OwnR (w.drewN q) base e v xs := h
theorem IsRuns.of_own {w : World} {base : Nat} {e : TypeId} {v : Value} {xs : List (UInt8 × Int)} (h : OwnR w base e v xs) :
    ∃ A c, v = .slice A xs.length c ∧ xs.length ≤ c ∧ IsRuns w w.heap.size A xs.length xs := by
  unfold OwnR at h
  rcases h.2 with ⟨rfl, h0⟩ | ⟨g, cap, cur, rfl, hg, hh, hnc, hcm, hcs, htk⟩
  · exact ⟨none, 0, by rw [h0], by omega, rfl, fun h => absurd h (by omega)⟩
  · refine ⟨_, _, rfl, hnc, rfl, fun hn => ⟨g, 0, rfl, ?_, fun j hj => ?_⟩⟩
    · rcases Nat.lt_or_ge g w.heap.size with hlt | hge
      · exact hlt
      · rw [Array.getElem?_eq_none hge] at hh; cases hh
    · have hf := flatR_get xs j hj
      rw [Nat.zero_add, h.cellAt (j * 2) (by omega), h.cellAt (j * 2 + 1) (by omega)]
      exact hf
/-- A slice literal of runs, as it has just been laid. -/
theorem IsRuns.lit (w : World) (xs : List (UInt8 × Int)) (cs : Array Value) (e : TypeId) (h : cs = (xs.flatMap encR).toArray) :
    IsRuns (w.alloc (.cells cs e)) (w.heap.size + 1) (some ⟨w.heap.size, 0, none⟩) xs.length xs := by
  subst h
  refine ⟨rfl, fun _ => ⟨w.heap.size, 0, rfl, by omega, fun j hj => ?_⟩⟩
  have := flatR_get xs j hj
  rw [Nat.zero_add, cell_of_row _ _ (j * 2) _ e (0, 0) (heap_alloc_new w _), cell_of_row _ _ (j * 2 + 1) _ e (0, 0) (heap_alloc_new w _)]
  simpa using this

/-- 'out = append(out, run)', out nil or the call's own. -/
theorem wpList_append_run {P : Program} (wr : World) {ops : Array Oper} {rest : List Oper} {o : Oper} {a : Act} {Q : Exit → Act → World → Prop} (hgd : o.guard = none) (s x : Operand) (t : TypeId)
    (ho : o.op = .call { callee := .builtin .append, args := #[s, x], argTypes := #[t, t] }) (base : Nat) (e : TypeId) (i : TypeInfo)
    (ht : P.underlying t = some (.slice e)) (hi : P.info? e = some i) (hz : i.zero = some (.agg #[.int .u8 0, .int .i64 0])) (hsize : i.size = 2) (hby : i.bytes = 16)
    (v : Value) (cs : List (UInt8 × Int)) (hs : a.eval s = v) (hown : OwnR wr base e v cs) (k : UInt8 × Int) (hx : a.eval x = .slice (some ⟨wr.heap.size, 0, none⟩) 1 1)
    (hlen : cs.length ≤ 1099511627776) (hbase : base ≤ wr.heap.size)
    (h : ∀ v' w', OwnR w' base e v' (cs ++ [k]) → Below base wr w' → wpList P ops Q rest (a.put o.dst v') w') :
    wpList P ops Q (o :: rest) a (wr.alloc (.cells #[.int .u8 (k.1.toNat : Int), .int .i64 k.2] e)) := by
  refine wpList_append_own _ hgd s x t ho base e i (.agg #[.int .u8 0, .int .i64 0]) 2 16 ht hi hz hsize hby rfl (by decide) v _ _ hs (World.ownsRow.alloc hown _) ⟨wr.heap.size, 0, none⟩ 1 1 [.int .u8 (k.1.toNat : Int), .int .i64 k.2] hx rfl ?_ ?_ ?_ ?_ ?_ ?_
  · intro j u hj
    match j, hj with
    | 0, hj => simp at hj; subst hj; simp [Addr.add]
    | 1, hj => simp at hj; subst hj; simp [Addr.add]
  · intro u hu; simp at hu; rcases hu with rfl | rfl <;> rfl
  · unfold maxLen; omega
  · omega
  · simp; omega
  · intro v' w' ho hg _
    refine h v' w' ?_ (((Below.refl base wr).alloc hbase _).grown hg (by simp; omega) fun b hb => ?_)
    · unfold OwnR
      rw [List.flatMap_append, List.length_append]
      exact ho
    · exact (World.ownsRow.lt hown b hb).1

/-! ### Signs -/
/-- A sign's cell. -/
def encB (c : UInt8) : Value := .int .u8 (c.toNat : Int)
/-- A slice value that is the call's own and holds the signs xs. Shut for the walk. -/
def OwnB (w : World) (base : Nat) (e : TypeId) (v : Value) (xs : List UInt8) : Prop := w.ownsRow base e 1 v xs.length (xs.map encB)
theorem OwnB.nil (w : World) (base : Nat) (e : TypeId) : OwnB w base e (.slice none 0 0) [] := World.ownsRow_nil _ _ _ _
theorem OwnB.below {w w' : World} {base B : Nat} {e : TypeId} {v : Value} {xs : List UInt8} (h : OwnB w base e v xs) (hb : Below B w w') (hB : w.heap.size ≤ B) : OwnB w' base e v xs := by
  refine ⟨h.1, ?_⟩
  rcases h.2 with h' | ⟨g, cap, cur, h1, h2, h3, h4⟩
  · exact .inl h'
  · refine .inr ⟨g, cap, cur, h1, h2, ?_, h4⟩
    have hlt : g < w.heap.size := by
      rcases Nat.lt_or_ge g w.heap.size with hlt | hge
      · exact hlt
      · rw [Array.getElem?_eq_none hge] at h3; cases h3
    rw [hb.block g (by omega)]; exact h3
theorem OwnB.drewN {w : World} {base : Nat} {e : TypeId} {v : Value} {xs : List UInt8} (h : OwnB w base e v xs) (q : Nat) : OwnB (w.drewN q) base e v xs := h
/-- The signs by their cells, nil let in. -/
theorem OwnB.cells {w : World} {base : Nat} {e : TypeId} {v : Value} {xs : List UInt8} (h : OwnB w base e v xs) :
    ∃ A c, v = .slice A xs.length c ∧ xs.length ≤ c ∧ (0 < xs.length → ∃ g off, A = some ⟨g, off, none⟩ ∧ base ≤ g ∧ g < w.heap.size ∧ ∀ j, j < xs.length → w.cell? ⟨g, off + j, none⟩ = some (.int .u8 ((xs.getD j 0).toNat : Int))) ∧ (xs = [] → A = none ∨ ∃ g off, A = some ⟨g, off, none⟩) := by
  unfold OwnB at h
  rcases h.2 with ⟨rfl, h0⟩ | ⟨g, cap, cur, rfl, hg, hh, hnc, hcm, hcs, htk⟩
  · exact ⟨none, 0, by rw [h0], by omega, fun h => absurd h (by omega), fun _ => .inl rfl⟩
  · refine ⟨_, _, rfl, hnc, fun hn => ⟨g, 0, rfl, hg, ?_, fun j hj => ?_⟩, fun _ => .inr ⟨_, _, rfl⟩⟩
    · rcases Nat.lt_or_ge g w.heap.size with hlt | hge
      · exact hlt
      · rw [Array.getElem?_eq_none hge] at hh; cases hh
    · rw [Nat.zero_add, h.cellAt j (by omega)]
      simp [encB, hj]
theorem OwnB.out {w : World} {base lo hi : Nat} {e : TypeId} {v : Value} {xs : List UInt8} (h : OwnB w base e v xs) (hlo : w.heap.size ≤ lo) : Out v lo hi := fun b hb => .inl (by
  have := (World.ownsRow.lt h b hb).2
  omega)
/-- 'out = append(out, c)', out nil or the call's own, lying outside the blocks from lo to hi: they are as they were, and it lies outside them still. -/
theorem wpList_append_byte {P : Program} (wr : World) {ops : Array Oper} {rest : List Oper} {o : Oper} {a : Act} {Q : Exit → Act → World → Prop} (hgd : o.guard = none) (s x : Operand) (t : TypeId)
    (ho : o.op = .call { callee := .builtin .append, args := #[s, x], argTypes := #[t, t] }) (base : Nat) (e : TypeId) (i : TypeInfo)
    (ht : P.underlying t = some (.slice e)) (hi : P.info? e = some i) (hz : i.zero = some (.int .u8 0)) (hsize : i.size = 1) (hby : i.bytes = 1)
    (v : Value) (cs : List UInt8) (hs : a.eval s = v) (hown : OwnB wr base e v cs) (k : UInt8) (hx : a.eval x = .slice (some ⟨wr.heap.size, 0, none⟩) 1 1)
    (hlen : cs.length ≤ 1099511627776) (hbase : base ≤ wr.heap.size) (lo hh : Nat) (hout : Out v lo hh) (hhi : hh ≤ wr.heap.size)
    (h : ∀ v' w', OwnB w' base e v' (cs ++ [k]) → Below base wr w' → Out v' lo hh → Kept lo hh wr w' → wpList P ops Q rest (a.put o.dst v') w') :
    wpList P ops Q (o :: rest) a (wr.alloc (.cells #[.int .u8 (k.toNat : Int)] e)) := by
  refine wpList_append_lies _ hgd s x t ho base e i (.int .u8 0) 1 1 ht hi hz hsize hby rfl (by decide) v _ _ hs (World.ownsRow.alloc hown _) ⟨wr.heap.size, 0, none⟩ 1 1 [.int .u8 (k.toNat : Int)] hx rfl ?_ ?_ (by decide) ?_ ?_ ?_ (wr.heap.size + 1) (by simp) ?_
  · intro j u hj
    match j, hj with
    | 0, hj => simp at hj; subst hj; simp [Addr.add]
  · intro u hu; simp at hu; subst hu; rfl
  · unfold maxLen; omega
  · omega
  · simp; omega
  · intro g cap w' ho hg hat _
    refine h _ w' (by unfold OwnB; rw [List.map_append, List.length_append]; exact ho) (((Below.refl base wr).alloc hbase _).grown hg (by simp; omega) fun b hb => ?_) ?_ ?_
    · exact (World.ownsRow.lt hown b hb).1
    · intro b hb
      have hb : g = b := by simpa [Value.ownBlock] using hb
      subst hb
      rcases hat with hat | hat
      · exact hout g hat
      · right; omega
    · intro b h1 h2
      rw [hg.block b (by simp; omega) (fun e => by have := hout b e.symm; omega)]
      exact Below.heap_alloc _ _ _ (by omega)
end Go.Proofs.YtdhklkpeepmedaaDoor
