/-
  A region that draws its order, inside a fence that bars nothing, in a loop's round too: its first operations only read or call quietly (such calls may draw), the others come in one forced order behind them: one walk serves every order; where the very first operation may come later by one place, two walks. No condition on a program.
-/
import Derived.StillTail
import Derived.Deep.Quiet
import Derived.OrdersIn
import Derived.TacticsIn
import Derived.RangeFuncCalls
import Derived.KernelRfl
namespace Go.Proofs.YtdhklkpeepmedaaDoor
open Go

/-- A fence that bars nothing: whatever is called in the open may be called in it. -/
structure Lets (P : Program) (F : Fence) : Prop where
  fn : ∀ f, F.fn f
  depth : F.depth = none
  calls : ∀ n f args w R, Calls P f args w R → CallsIn F n P f args w R
theorem lets_wide (P : Program) : Lets P Fence.wide := ⟨fun _ => trivial, rfl, fun _ _ _ _ _ h => callsIn_wide.2 h⟩
theorem lets_round (P : Program) (l : Nat) : Lets P (Fence.wide.inRound l) := ⟨fun _ => trivial, rfl, fun _ _ _ _ _ h => CallsIn.inRound l (callsIn_wide.2 h)⟩

section
variable {F : Fence} {n : Nat} {P : Program} {C : World → Prop}

/-- A quiet operation, in the fence. -/
theorem wpIn_quiet (hF : Lets P F) {o : Oper} {a : Act} {w : World} {v : Value} {K : Act → World → Prop} {Q : Exit → Act → World → Prop} (hd : ∀ c, o.op ≠ .defer c) (hw : C w)
    (h : o.quietAt P a C w v) (hk : ∀ w', C w' → K (a.put o.dst v) w') : o.wpIn F n P a w K Q := by
  refine ⟨fun f _ => hF.fn f, ?_⟩
  rw [Oper.semAt_eq _ _ _ hd]
  unfold Oper.quietAt at h
  generalize (execOp a.eval o).run P w = r at h
  cases r with
  | halt x w' => exact h.elim
  | ok x w' =>
    cases x with
    | value u => obtain ⟨rfl, rfl⟩ := h; exact hk _ hw
    | skip => obtain ⟨rfl, rfl⟩ := h; exact hk _ hw
    | enter f args =>
      obtain ⟨rfl, hc⟩ := h
      refine ⟨fun e => (by rw [hF.depth] at e; cases e), (hF.calls _ _ _ _ _ hc).mono ?_⟩
      rintro e w2 ⟨rfl, hw2⟩
      exact hk _ hw2
    | _ => exact h.elim

/-! ### How many of the first k are still to come -/
def nf (listed : Array Bool) (k : Nat) : Nat := ((List.range k).filter fun i => !listed.getD i true).length
theorem nf_succ (listed : Array Bool) (k : Nat) : nf listed (k + 1) = nf listed k + if listed.getD k true = false then 1 else 0 := by
  unfold nf
  rw [List.range_succ, List.filter_append, List.length_append]
  simp only [List.filter_cons, List.filter_nil]
  cases h : listed.getD k true with
  | false => rfl
  | true => rfl
theorem getD_self {listed : Array Bool} {i : Nat} (h : listed.getD i true = false) (d : Bool) : (listed.setIfInBounds i true).getD i d = true := by
  rcases Nat.lt_or_ge i listed.size with h' | h'
  · simp [h']
  · simp [Array.getElem?_eq_none h'] at h
theorem nf_set {listed : Array Bool} {i : Nat} (h : listed.getD i true = false) : ∀ k, nf (listed.setIfInBounds i true) k + (if i < k then 1 else 0) = nf listed k := by
  intro k
  induction k with
  | zero => rfl
  | succ k ih =>
    rw [nf_succ, nf_succ]
    by_cases e : i = k
    · subst e
      rw [getD_self h, h]
      rw [if_neg (Nat.lt_irrefl _)] at ih
      simp; omega
    · rw [getD_set_ne true e]
      by_cases e' : i < k
      · rw [if_pos e'] at ih
        rw [if_pos (show i < k + 1 by omega)]; omega
      · rw [if_neg e'] at ih
        rw [if_neg (show ¬ i < k + 1 by omega)]; omega
theorem nf_none {listed : Array Bool} {k : Nat} (h : nf listed k = 0) : ∀ i, i < k → listed.getD i true = true := by
  intro i hi
  have := List.length_eq_zero_iff.1 h
  have := (List.filter_eq_nil_iff.1 this) i (List.mem_range.2 hi)
  simpa using this
theorem nf_some {listed : Array Bool} {k : Nat} (h : 0 < nf listed k) : ∃ i, i < k ∧ listed.getD i true = false ∧ ∀ j, j < i → listed.getD j true = true := by
  induction k with
  | zero => simp [nf] at h
  | succ k ih =>
    by_cases h0 : 0 < nf listed k
    · obtain ⟨i, h1, h2⟩ := ih h0
      exact ⟨i, by omega, h2⟩
    · rw [nf_succ] at h
      refine ⟨k, by omega, ?_, nf_none (by omega)⟩
      cases e : listed.getD k true with
      | false => rfl
      | true => rw [e] at h; simp at h; omega
theorem getD_true_false {listed : Array Bool} {i : Nat} (hi : i < listed.size) (h : listed.getD i true = true) : listed.getD i false = true := by
  simp [hi] at h ⊢; exact h

/-- The first k operations: no guard, nothing deferred, none waits for a later one. -/
def headB (l : List Oper) (k : Nat) : Bool := (List.range k).all fun i => match l[i]? with
  | some o => o.guard.isNone && (match o.op with | .defer _ => false | _ => true) && o.after.all fun e => !Region.binds .any e || decide (e.on < i)
  | none => false
theorem headB_at {l : List Oper} {k i : Nat} (h : headB l k = true) (hi : i < k) : ∃ o, l[i]? = some o ∧ o.guard = none ∧ (∀ c, o.op ≠ .defer c) ∧ ∀ e ∈ o.after, Region.binds .any e = true → e.on < i := by
  have := List.all_eq_true.1 h i (List.mem_range.2 hi)
  cases ho : l[i]? with
  | none => rw [ho] at this; cases this
  | some o =>
    rw [ho] at this
    simp only [Bool.and_eq_true, Array.all_eq_true_iff_forall_mem, Bool.or_eq_true, Bool.not_eq_true', decide_eq_true_eq, Option.isNone_iff_eq_none] at this
    refine ⟨o, rfl, this.1.1, fun c hc => ?_, fun e he hb => (this.2 e he).resolve_left (by simp [hb])⟩
    have h2 := this.1.2
    rw [hc] at h2; cases h2
theorem wanted_free {o : Oper} (h : o.guard = none) (y : Tmp → Option Bool) : Region.wanted o y = true := by unfold Region.wanted; rw [h]

/-- The operations in a forced order. -/
theorem wpAnyIn_seq {ops : Array Oper} {Q : Exit → Act → World → Prop} : ∀ (l : List Oper) (k : Nat) (listed : Array Bool) (a : Act) (w : World), (∀ j, l[j]? = ops[k + j]?) →
    Region.seqB .any ops l.length k listed = true → wpListIn F n P ops Q l a w → wpAnyIn F n P .any ops Q l.length listed a w := by
  intro l
  induction l with
  | nil =>
    intro k listed a w _ hB h
    exact ⟨List.isEmpty_iff.1 hB, h⟩
  | cons o l ih =>
    intro k listed a w hl hB h
    have h0 : ops[k]? = some o := (hl 0).symm
    have hB' : Region.ready .any ops listed = [k] ∧ Region.seqB .any ops l.length (k + 1) (listed.setIfInBounds k true) = true := by
      rw [List.length_cons, Region.seqB, Bool.and_eq_true, decide_eq_true_eq] at hB; exact hB
    have step : ∀ a' w', wpListIn F n P ops Q l a' w' → wpAnyIn F n P .any ops Q l.length (listed.setIfInBounds k true) a' w' := fun a' w' h' =>
      ih (k + 1) _ a' w' (fun j => by have := hl (j + 1); rw [List.getElem?_cons_succ] at this; rw [this]; congr 1; omega) hB'.2 h'
    refine ⟨fun e => (by rw [hB'.1] at e; cases e), fun i hi => ?_⟩
    obtain rfl : i = k := by rw [hB'.1] at hi; simpa using hi
    refine wpOpIn_mono step ?_
    unfold wpOpIn
    rw [h0]
    exact h

/-- What has been listed of the region, and of its head alone. -/
structure Two (l : List Oper) (k : Nat) (A B : Array Bool) : Prop where
  sizeA : A.size = l.length
  sizeB : B.size = k
  same : ∀ i, i < k → ∀ d, A.getD i d = B.getD i d
theorem Two.set {l : List Oper} {k i : Nat} {A B : Array Bool} (h : Two l k A B) (hi : A.getD i true = false) : Two l k (A.setIfInBounds i true) (B.setIfInBounds i true) := by
  refine ⟨by rw [Array.size_setIfInBounds, h.sizeA], by rw [Array.size_setIfInBounds, h.sizeB], fun j hj d => ?_⟩
  by_cases e : i = j
  · subst e
    rw [getD_self hi, getD_self (by rw [← h.same i hj]; exact hi)]
  · rw [getD_set_ne d e, getD_set_ne d e, h.same j hj]

theorem head_run (hF : Lets P F) {l : List Oper} {k : Nat} (hk : k < l.length) (hH : headB l k = true) (hs : Region.sinkB .any l.toArray k = true) (hc : Region.chainB .any l.toArray k = true)
    (hq : Region.seqB .any l.toArray (l.drop k).length k (Array.replicate k true ++ Array.replicate (l.length - k) false) = true) {Q : Exit → Act → World → Prop} :
    ∀ (f : Nat) (A B : Array Bool) (a : Act) (w : World), Two l k A B → HeadInv .any l.toArray k A → nf A k = f → C w →
      wpAnyQ P .any (l.take k).toArray C (fun a' => ∀ w', C w' → wpListIn F n P l.toArray Q (l.drop k) a' w') f B a →
      wpAnyIn F n P .any l.toArray Q (f + (l.drop k).length) A a w := by
  intro f
  induction f with
  | zero =>
    intro A B a w hT inv hn hw h
    have hA : A = Array.replicate k true ++ Array.replicate (l.length - k) false := by
      apply Array.ext
      · rw [hT.sizeA]; simp; omega
      · intro i h1 h2
        have hi : i < l.length := by rw [← hT.sizeA]; exact h1
        rcases Nat.lt_or_ge i k with h3 | h3
        · have := nf_none hn i h3
          simp [h1] at this
          rw [this, Array.getElem_append_left (by simp; exact h3)]; simp
        · have := inv.tail i h3 (by simpa using hi)
          simp [h1] at this
          rw [this, Array.getElem_append_right (by simp; exact h3)]; simp
    rw [Nat.zero_add]
    subst hA
    exact wpAnyIn_seq (l.drop k) k _ a w (fun j => by simp [List.getElem?_drop]) hq (h.2 w hw)
  | succ f ih =>
    intro A B a w hT inv hn hw h
    obtain ⟨i0, hi0, hu0, hall⟩ := nf_some (listed := A) (k := k) (by omega)
    rw [show f + 1 + (l.drop k).length = (f + (l.drop k).length) + 1 by omega]
    refine ⟨fun e => ?_, fun i hi => ?_⟩
    · have : i0 ∈ Region.ready .any l.toArray A := by
        obtain ⟨o, ho, _, _, hb⟩ := headB_at hH hi0
        refine mem_ready.2 ⟨hu0, o, by simpa using ho, fun e he hb' => ?_⟩
        have := hb e he hb'
        exact getD_true_false (by rw [hT.sizeA]; omega) (hall _ this)
      rw [e] at this; cases this
    · have hik : i < k := by
        rcases Nat.lt_or_ge i k with h1 | h1
        · exact h1
        · exact absurd hi (tail_waits hs hc (by simpa using hk) inv _ i0 rfl hi0 hu0 i h1)
      obtain ⟨o, ho, hg, hd, hb⟩ := headB_at hH hik
      obtain ⟨hu, o', ho', hdeps⟩ := mem_ready.1 hi
      obtain rfl : o' = o := by
        have : l.toArray[i]? = some o := by simpa using ho
        rw [this] at ho'; exact (Option.some.inj ho').symm
      have hiB : i ∈ Region.ready .any (l.take k).toArray B := by
        refine mem_ready.2 ⟨by rw [← hT.same i hik]; exact hu, o', ?_, fun e he hb' => ?_⟩
        · simp [hik, ho]
        · rw [← hT.same _ (by have := hb e he hb'; omega)]; exact hdeps e he hb'
      have h1 := h.2 i hiB
      unfold qOp at h1
      have h2 : (l.take k).toArray[i]? = some o' := by simp [hik, ho]
      rw [h2] at h1
      simp only [wanted_free hg, if_true] at h1
      obtain ⟨v, hv, hK⟩ := h1
      unfold wpOpIn
      rw [ho']
      simp only [wanted_free hg, if_true]
      refine wpIn_quiet hF hd hw (hv w hw) fun w' hw' => ih _ _ _ w' (hT.set hu) (inv.set hi hik) ?_ hw' hK
      have := nf_set hu k
      rw [if_pos hik] at this
      omega

/-- The region by one walk: the first k operations quietly, then the others. -/
theorem wpIn_region_tail {id : Nat} {Q : Exit → Act → World → Prop} {a : Act} {w : World} {l : List Oper} (hF : Lets P F) (k : Nat) (hm : P.follows .mixedOrders = true)
    (hB : (decide (k < l.length) && headB l k && Region.sinkB .any l.toArray k && Region.chainB .any l.toArray k && Region.seqB .any l.toArray (l.drop k).length k (Array.replicate k true ++ Array.replicate (l.length - k) false) && Region.noSelect (l.take k).toArray && Region.lexFrom .any (l.take k).toArray k 0 (Array.replicate k false)) = true)
    (hC : C w.drew) (h : wpQuiet P (l.take k).toArray C (fun a' => ∀ w', C w' → wpListIn F n P l.toArray Q (l.drop k) a' w') (l.take k) a) : (Code.region id l.toArray true).wpIn F n P Q a w := by
  simp only [Bool.and_eq_true, decide_eq_true_eq] at hB
  obtain ⟨⟨⟨⟨⟨⟨hk, hH⟩, hs⟩, hc⟩, hq⟩, hn⟩, hx⟩ := hB
  have htl : (l.take k).length = k := by rw [List.length_take]; omega
  have H := wpAnyQ_lex (C := C) (md := .any) hn (l.take k) 0 (Array.replicate k false) a (fun j => by simp) (by rw [htl]; exact hx) h
  rw [htl] at H
  refine wpIn_region_any hm ?_
  have hrep : ∀ (m i : Nat) (d : Bool), i < m → (Array.replicate m false).getD i d = false := fun m i d hi => by simp [hi]
  have := head_run (F := F) (n := n) hF hk hH hs hc hq k (Array.replicate l.toArray.size false) (Array.replicate k false) a w.drew
    ⟨by simp, by simp, fun i hi d => by rw [hrep _ _ _ (by simp; omega), hrep _ _ _ hi]⟩
    ⟨by simp, fun j oj _ hl => (by rw [getD_replicate_false] at hl; cases hl), fun t _ ht => hrep _ _ _ ht⟩ ?_ hC H
  · have e : k + (l.drop k).length = l.toArray.size := by simp; omega
    rw [e] at this
    exact this
  · have : ∀ m, m ≤ l.toArray.size → nf (Array.replicate l.toArray.size false) m = m := by
      intro m
      induction m with
      | zero => intro _; rfl
      | succ m ih => intro hm; rw [nf_succ, ih (by omega), hrep _ _ _ (by omega)]; rfl
    exact this k (by simp; omega)

/-! ### The first operation may come late: a variable's load ahead of 'x = append(x, f(..))', which waits for the append alone -/
/-- All but the first of the first k operations are waited for, in the end by operation k; the others come one behind the other. -/
def floatB (l : List Oper) (k : Nat) : Bool :=
  ((List.range k).all fun i => decide (i = 0) || (List.range (k + 1)).any fun j => decide (i < j) && Region.waitsFor .any l.toArray j i) && Region.chainB .any l.toArray k
theorem float_waits {l : List Oper} {k t : Nat} {A : Array Bool} (h : floatB l k = true) (inv : HeadInv .any l.toArray k A) (ht : t ∈ Region.ready .any l.toArray A) (hk : k ≤ t) : t = k ∧ ∀ i, 0 < i → i < k → A.getD i false = true := by
  unfold floatB at h
  rw [Bool.and_eq_true] at h
  obtain ⟨hu, o, ho, hdeps⟩ := mem_ready.1 ht
  have htl : t < l.toArray.size := (Array.getElem?_eq_some_iff.1 ho).1
  have htk : t = k := by
    rcases Nat.lt_or_ge k t with h1 | h1
    · have h2 := List.all_eq_true.1 h.2 t (List.mem_range.2 htl)
      rw [Bool.or_eq_true, decide_eq_true_eq] at h2
      rcases h2 with h2 | h2
      · omega
      · obtain ⟨o', ho', e, he, hb, hon⟩ := Region.waitsFor_spec h2
        obtain rfl : o' = o := Option.some.inj (ho'.symm.trans ho)
        have h3 := hdeps e he hb
        rw [hon] at h3
        have h4 := inv.tail (t - 1) (by omega) (by omega)
        rw [getD_both h4] at h3; cases h3
    · omega
  subst htk
  refine ⟨rfl, ?_⟩
  have : ∀ (d i : Nat), t - i = d → 0 < i → i < t → A.getD i false = true := by
    intro d
    induction d using Nat.strongRecOn with
    | _ d ih =>
      intro i hd hi0 hit
      have h2 := List.all_eq_true.1 h.1 i (List.mem_range.2 hit)
      rw [Bool.or_eq_true, decide_eq_true_eq] at h2
      rcases h2 with h2 | h2
      · omega
      · obtain ⟨j, hj, hj2⟩ := List.any_eq_true.1 h2
        rw [Bool.and_eq_true, decide_eq_true_eq] at hj2
        have hjt : j ≤ t := by have := List.mem_range.1 hj; omega
        obtain ⟨oj, hoj, e, he, hb, hon⟩ := Region.waitsFor_spec hj2.2
        rw [← hon]
        by_cases hjk : j = t
        · subst hjk
          obtain rfl : oj = o := Option.some.inj (hoj.symm.trans ho)
          exact hdeps e he hb
        · exact inv.closed j oj hoj (ih (t - j) (by omega) j rfl (by omega) (by omega)) e he hb
  exact fun i h1 h2 => this _ i rfl h1 h2
/-- No other one of the first k operations writes the slot d. -/
def slotB (l : List Oper) (k : Nat) (d : Tmp) : Bool := (List.range k).all fun i => decide (i = 0) || match l[i]? with
  | some o => decide (o.dst ≠ some d)
  | none => false
theorem put_same (a : Act) (d : Tmp) (u v : Value) : (a.put (some d) v).put (some d) u = a.put (some d) u := by
  simp [Act.put]

theorem head_float (hF : Lets P F) {l : List Oper} {k : Nat} {d : Tmp} {u : Value} {o0 ok : Oper} (hk0 : 0 < k) (hl0 : l[0]? = some o0) (hlk : l[k]? = some ok) (hd0 : o0.dst = some d) (hH : headB l k = true) (hfl : floatB l k = true) (hsl : slotB l k d = true)
    (hq : Region.seqB .any l.toArray (l.drop k).length k (Array.replicate k true ++ Array.replicate (l.length - k) false) = true)
    (hq1 : Region.ready .any l.toArray ((#[false] ++ Array.replicate k true) ++ Array.replicate (l.length - k - 1) false) = [0])
    (hq2 : Region.seqB .any l.toArray (l.drop (k + 1)).length (k + 1) (Array.replicate (k + 1) true ++ Array.replicate (l.length - k - 1) false) = true) {Q : Exit → Act → World → Prop} :
    ∀ (f : Nat) (A B : Array Bool) (a : Act) (w : World), Two l k A B → HeadInv .any l.toArray k A → nf A k = f → C w → (A.getD 0 true = false → a.put (some d) u = a) →
      wpAnyQ P .any (l.take k).toArray C (fun a' => ∀ w', C w' → wpListIn F n P l.toArray Q (l.drop k) a' w' ∧ wpListIn F n P l.toArray Q (ok :: o0 :: l.drop (k + 1)) (a'.put (some d) u) w') f B a →
      wpAnyIn F n P .any l.toArray Q (f + (l.drop k).length) A a w := by
  have hkl : k < l.length := (List.getElem?_eq_some_iff.1 hlk).1
  have hgl : (l.drop k).length = (l.drop (k + 1)).length + 1 := by simp; omega
  intro f
  induction f with
  | zero =>
    intro A B a w hT inv hn hw _ h
    have hA : A = Array.replicate k true ++ Array.replicate (l.length - k) false := by
      apply Array.ext
      · rw [hT.sizeA]; simp; omega
      · intro i h1 h2
        have hi : i < l.length := by rw [← hT.sizeA]; exact h1
        rcases Nat.lt_or_ge i k with h3 | h3
        · have := nf_none hn i h3
          simp [h1] at this
          rw [this, Array.getElem_append_left (by simp; exact h3)]; simp
        · have := inv.tail i h3 (by simpa using hi)
          simp [h1] at this
          rw [this, Array.getElem_append_right (by simp; exact h3)]; simp
    rw [Nat.zero_add]
    subst hA
    exact wpAnyIn_seq (l.drop k) k _ a w (fun j => by simp [List.getElem?_drop]) hq (h.2 w hw).1
  | succ f ih =>
    intro A B a w hT inv hn hw hput h
    obtain ⟨i0, hi0, hu0, hall⟩ := nf_some (listed := A) (k := k) (by omega)
    rw [show f + 1 + (l.drop k).length = (f + (l.drop k).length) + 1 by omega]
    refine ⟨fun e => ?_, fun i hi => ?_⟩
    · have : i0 ∈ Region.ready .any l.toArray A := by
        obtain ⟨o, ho, _, _, hb⟩ := headB_at hH hi0
        refine mem_ready.2 ⟨hu0, o, by simpa using ho, fun e he hb' => ?_⟩
        have := hb e he hb'
        exact getD_true_false (by rw [hT.sizeA]; omega) (hall _ this)
      rw [e] at this; cases this
    · rcases Nat.lt_or_ge i k with hik | hik
      · obtain ⟨o, ho, hg, hd, hb⟩ := headB_at hH hik
        obtain ⟨hu, o', ho', hdeps⟩ := mem_ready.1 hi
        obtain rfl : o' = o := by
          have : l.toArray[i]? = some o := by simpa using ho
          rw [this] at ho'; exact (Option.some.inj ho').symm
        have hiB : i ∈ Region.ready .any (l.take k).toArray B := by
          refine mem_ready.2 ⟨by rw [← hT.same i hik]; exact hu, o', ?_, fun e he hb' => ?_⟩
          · simp [hik, ho]
          · rw [← hT.same _ (by have := hb e he hb'; omega)]; exact hdeps e he hb'
        have h1 := h.2 i hiB
        unfold qOp at h1
        have h2 : (l.take k).toArray[i]? = some o' := by simp [hik, ho]
        rw [h2] at h1
        simp only [wanted_free hg, if_true] at h1
        obtain ⟨v, hv, hK⟩ := h1
        unfold wpOpIn
        rw [ho']
        simp only [wanted_free hg, if_true]
        refine wpIn_quiet hF hd hw (hv w hw) fun w' hw' => ih _ _ _ w' (hT.set hu) (inv.set hi hik) ?_ hw' (fun he => ?_) hK
        · have := nf_set hu k
          rw [if_pos hik] at this
          omega
        · by_cases e0 : i = 0
          · subst e0; rw [getD_self hu] at he; cases he
          · rw [getD_set_ne true e0] at he
            have h3 := List.all_eq_true.1 hsl i (List.mem_range.2 hik)
            rw [Bool.or_eq_true, decide_eq_true_eq, ho] at h3
            have h4 : o'.dst ≠ some d := by
              rcases h3 with h3 | h3
              · exact absurd h3 e0
              · simpa using h3
            have h5 := hput he
            conv => rhs; rw [← h5]
            exact Act.put_comm a v u fun d' he1 he2 => h4 (by rw [he1, he2])
      · obtain ⟨hie, hlisted⟩ := float_waits hfl inv hi hik
        subst hie
        have hi00 : i0 = 0 := by
          rcases Nat.eq_zero_or_pos i0 with e | e
          · exact e
          · have := hlisted i0 e hi0
            rw [getD_both hu0] at this; cases this
        subst hi00
        have hf0 : f = 0 := by
          have h1 := nf_set hu0 i
          rw [if_pos hk0] at h1
          rcases Nat.eq_zero_or_pos (nf (A.setIfInBounds 0 true) i) with h2 | h2
          · omega
          · obtain ⟨j, hj, hju, _⟩ := nf_some h2
            rcases Nat.eq_zero_or_pos j with e | e
            · subst e; rw [getD_self hu0] at hju; cases hju
            · rw [getD_set_ne true (by omega)] at hju
              have := hlisted j e hj
              rw [getD_both hju] at this; cases this
        subst hf0
        obtain ⟨o, ho, hg0, _, hb0⟩ := headB_at hH hk0
        obtain rfl : o = o0 := by rw [hl0] at ho; exact (Option.some.inj ho).symm
        have hB0 : 0 ∈ Region.ready .any (l.take i).toArray B := mem_ready.2 ⟨by rw [← hT.same 0 hk0]; exact hu0, o, by simp [hk0, ho], fun e he hb' => by have := hb0 e he hb'; omega⟩
        have h1 := h.2 0 hB0
        unfold qOp at h1
        have h2 : (l.take i).toArray[0]? = some o := by simp [hk0, ho]
        rw [h2] at h1
        simp only [wanted_free hg0, if_true] at h1
        obtain ⟨v, _, hK⟩ := h1
        have h3 := (hK.2 w hw).2
        rw [hd0, put_same, hput hu0] at h3
        have hsz := hT.sizeA
        have hA1 : A.setIfInBounds i true = (#[false] ++ Array.replicate i true) ++ Array.replicate (l.length - i - 1) false := by
          apply Array.ext
          · simp [hsz]; omega
          · intro j h5 h6
            rw [Array.size_setIfInBounds, hsz] at h5
            have hj : j < A.size := by omega
            rw [Array.getElem_setIfInBounds (by simpa using hj)]
            by_cases e1 : i = j
            · subst e1
              rw [if_pos rfl, Array.getElem_append_left (by simp), Array.getElem_append_right (by simp; omega)]; simp
            · rw [if_neg e1]
              rcases Nat.lt_trichotomy j i with h7 | h7 | h7
              · rcases Nat.eq_zero_or_pos j with h8 | h8
                · subst h8
                  simp [hj] at hu0
                  rw [hu0, Array.getElem_append_left (by simp; omega), Array.getElem_append_left (by simp)]; simp
                · have := hlisted j h8 h7
                  simp [hj] at this
                  rw [this, Array.getElem_append_left (by simp; omega), Array.getElem_append_right (by simp; omega)]; simp
              · exact absurd h7.symm e1
              · have := inv.tail j (by omega) (by simpa using h5)
                simp [hj] at this
                rw [this, Array.getElem_append_right (by simp; omega)]; simp
        have hA2 : ((#[false] ++ Array.replicate i true) ++ Array.replicate (l.length - i - 1) false).setIfInBounds 0 true = Array.replicate (i + 1) true ++ Array.replicate (l.length - i - 1) false := by
          apply Array.ext
          · simp; omega
          · intro j h5 h6
            rw [Array.getElem_setIfInBounds (by simpa using h5)]
            by_cases e1 : 0 = j
            · subst e1
              rw [if_pos rfl, Array.getElem_append_left (by simp)]; simp
            · rw [if_neg e1]
              rcases Nat.lt_or_ge j (i + 1) with h7 | h7
              · rw [Array.getElem_append_left (by simp; omega), Array.getElem_append_right (by simp; omega), Array.getElem_append_left (by simp; omega)]; simp
              · rw [Array.getElem_append_right (by simp; omega), Array.getElem_append_right (by simp; omega)]; simp
        have last : ∀ a' w', wpListIn F n P l.toArray Q (l.drop (i + 1)) a' w' → wpAnyIn F n P .any l.toArray Q (l.drop (i + 1)).length (Array.replicate (i + 1) true ++ Array.replicate (l.length - i - 1) false) a' w' := fun a' w' h' =>
          wpAnyIn_seq (l.drop (i + 1)) (i + 1) _ a' w' (fun j => by simp [List.getElem?_drop]) hq2 h'
        have mid : ∀ a' w', wpListIn F n P l.toArray Q (o :: l.drop (i + 1)) a' w' → wpAnyIn F n P .any l.toArray Q (0 + (l.drop i).length) (A.setIfInBounds i true) a' w' := fun a' w' h' => by
          rw [Nat.zero_add, hgl, hA1]
          refine ⟨fun e => (by rw [hq1] at e; cases e), fun j hj => ?_⟩
          obtain rfl : j = 0 := by rw [hq1] at hj; simpa using hj
          refine wpOpIn_mono (K := wpListIn F n P l.toArray Q (l.drop (i + 1))) (fun a2 w2 h2 => by rw [hA2]; exact last a2 w2 h2) ?_
          unfold wpOpIn
          rw [show l.toArray[0]? = some o by simpa using ho]
          exact h'
        refine wpOpIn_mono mid ?_
        unfold wpOpIn
        rw [show l.toArray[i]? = some ok by simpa using hlk]
        exact h3

/-- The region by two walks: the first k operations quietly, then the others; or the first one of them behind operation k. -/
theorem wpIn_region_float {id : Nat} {Q : Exit → Act → World → Prop} {a : Act} {w : World} {l : List Oper} (hF : Lets P F) (k : Nat) (d : Tmp) (o0 ok : Oper) (u : Value) (hm : P.follows .mixedOrders = true)
    (hl0 : l[0]? = some o0) (hlk : l[k]? = some ok) (hd0 : o0.dst = some d) (hu : a.put (some d) u = a)
    (hB : (decide (0 < k) && headB l k && floatB l k && slotB l k d && Region.seqB .any l.toArray (l.drop k).length k (Array.replicate k true ++ Array.replicate (l.length - k) false) && decide (Region.ready .any l.toArray ((#[false] ++ Array.replicate k true) ++ Array.replicate (l.length - k - 1) false) = [0]) && Region.seqB .any l.toArray (l.drop (k + 1)).length (k + 1) (Array.replicate (k + 1) true ++ Array.replicate (l.length - k - 1) false) && Region.noSelect (l.take k).toArray && Region.lexFrom .any (l.take k).toArray k 0 (Array.replicate k false)) = true)
    (hC : C w.drew) (h : wpQuiet P (l.take k).toArray C (fun a' => ∀ w', C w' → wpListIn F n P l.toArray Q (l.drop k) a' w' ∧ wpListIn F n P l.toArray Q (ok :: o0 :: l.drop (k + 1)) (a'.put (some d) u) w') (l.take k) a) : (Code.region id l.toArray true).wpIn F n P Q a w := by
  simp only [Bool.and_eq_true, decide_eq_true_eq] at hB
  obtain ⟨⟨⟨⟨⟨⟨⟨⟨hk0, hH⟩, hfl⟩, hsl⟩, hq⟩, hq1⟩, hq2⟩, hn⟩, hx⟩ := hB
  have hk : k < l.length := (List.getElem?_eq_some_iff.1 hlk).1
  have htl : (l.take k).length = k := by rw [List.length_take]; omega
  have H := wpAnyQ_lex (C := C) (md := .any) hn (l.take k) 0 (Array.replicate k false) a (fun j => by simp) (by rw [htl]; exact hx) h
  rw [htl] at H
  refine wpIn_region_any hm ?_
  have hrep : ∀ (m i : Nat) (d : Bool), i < m → (Array.replicate m false).getD i d = false := fun m i d hi => by simp [hi]
  have := head_float (F := F) (n := n) hF hk0 hl0 hlk hd0 hH hfl hsl hq hq1 hq2 k (Array.replicate l.toArray.size false) (Array.replicate k false) a w.drew
    ⟨by simp, by simp, fun i hi d => by rw [hrep _ _ _ (by simp; omega), hrep _ _ _ hi]⟩
    ⟨by simp, fun j oj _ hl => (by rw [getD_replicate_false] at hl; cases hl), fun t _ ht => hrep _ _ _ ht⟩ ?_ hC (fun _ => hu) H
  · have e : k + (l.drop k).length = l.toArray.size := by simp; omega
    rw [e] at this
    exact this
  · have : ∀ m, m ≤ l.toArray.size → nf (Array.replicate l.toArray.size false) m = m := by
      intro m
      induction m with
      | zero => intro _; rfl
      | succ m ih => intro hm; rw [nf_succ, ih (by omega), hrep _ _ _ (by omega)]; rfl
    exact this k (by simp; omega)
end
end Go.Proofs.YtdhklkpeepmedaaDoor
