/-
  A region that draws its order and holds two calls that make memory, the second one behind the first ('f(x) && g(y)'): the operations ahead of the first call only read, in any order; the call and what it decides come in one forced order; what is read for the second call comes in any order, or is passed by; the rest is forced again: one walk serves every order. No condition on a program.
-/
import Derived.Test.YtdhklkpeepmedaaDoorTail
namespace Go.Proofs.YtdhklkpeepmedaaDoor
open Go

/-- So many operations are done, and no others. -/
def doneA (n p : Nat) : Array Bool := Array.replicate p true ++ Array.replicate (n - p) false
theorem doneA_size {n p : Nat} (h : p ≤ n) : (doneA n p).size = n := by simp [doneA]; omega
theorem doneA_get {n p i : Nat} (h : p ≤ n) (hi : i < n) (d : Bool) : (doneA n p).getD i d = decide (i < p) := by
  rw [Array.getD_eq_getD_getElem?]
  unfold doneA
  rcases Nat.lt_or_ge i p with h3 | h3
  · rw [Array.getElem?_append_left (by simp; exact h3)]; simp [h3]
  · rw [Array.getElem?_append_right (by simp; exact h3)]
    have h4 : i - p < n - p := by omega
    simp [h4]; omega
theorem doneA_zero (n : Nat) : doneA n 0 = Array.replicate n false := by simp [doneA]
theorem doneA_set {n p : Nat} (h : p < n) : (doneA n p).setIfInBounds p true = doneA n (p + 1) := by
  apply Array.ext
  · rw [Array.size_setIfInBounds, doneA_size (by omega), doneA_size (by omega)]
  · intro i h1 h2
    have hi : i < n := by rwa [doneA_size (by omega)] at h2
    have e1 := doneA_get (n := n) (p := p + 1) (by omega) hi false
    rw [Array.getD_eq_getD_getElem?, Array.getElem?_eq_getElem h2] at e1
    simp only [Option.getD_some] at e1
    rw [e1]
    have hp : i < (doneA n p).size := by rw [doneA_size (by omega)]; exact hi
    have e0 := doneA_get (n := n) (p := p) (by omega) hi false
    rw [Array.getD_eq_getD_getElem?, Array.getElem?_eq_getElem hp] at e0
    simp only [Option.getD_some] at e0
    by_cases e : p = i
    · subst e; simp
    · rw [Array.getElem_setIfInBounds_ne (h := e) hp, e0]
      by_cases hlt : i < p
      · simp [hlt]; omega
      · simp [hlt]; omega

section
variable {F : Fence} {n : Nat} {P : Program} {C : World → Prop}

/-- Each operation behind number m waits for one from m on. -/
def tailB (ops : Array Oper) (m : Nat) : Bool := (List.range ops.size).all fun t => decide (t ≤ m) || (List.range t).any fun j => decide (m ≤ j) && Region.waitsFor .any ops t j
theorem tail_waits2 {ops : Array Oper} {m : Nat} {listed : Array Bool} (hs : Region.sinkB .any ops m = true) (hc : tailB ops m = true) (hn : m < ops.size) (inv : HeadInv .any ops m listed) :
    ∀ (d i : Nat), m - i = d → i < m → listed.getD i true = false → ∀ t, m ≤ t → t ∉ Region.ready .any ops listed := by
  intro d
  induction d using Nat.strongRecOn with
  | _ d ih =>
    intro i hd hi hun t ht hr
    obtain ⟨_, ot, hot, hall⟩ := mem_ready.1 hr
    have htlt : t < ops.size := (Array.getElem?_eq_some_iff.1 hot).1
    by_cases htn : t = m
    · subst htn
      have h1 := List.all_eq_true.1 hs i (List.mem_range.2 hi)
      obtain ⟨j, hj, hj2⟩ := List.any_eq_true.1 h1
      simp only [Bool.and_eq_true, decide_eq_true_eq] at hj2
      obtain ⟨oj, hoj, e, he, hb, hon⟩ := Region.waitsFor_spec hj2.2
      have hjle : j ≤ t := by have := List.mem_range.1 hj; omega
      by_cases hjt : j = t
      · subst hjt
        have : oj = ot := Option.some.inj (hoj.symm.trans hot)
        subst this
        have h2 := hall e he hb
        rw [hon, getD_both hun] at h2
        cases h2
      · cases hl : listed.getD j false with
        | true =>
          have h2 := inv.closed j oj hoj hl e he hb
          rw [hon, getD_both hun] at h2
          cases h2
        | false =>
          have hjs : j < listed.size := by rw [inv.size]; omega
          exact ih (t - j) (by omega) j rfl (by omega) (getD_in hjs hl) t (Nat.le_refl _) hr
    · have h1 := List.all_eq_true.1 hc t (List.mem_range.2 htlt)
      simp only [Bool.or_eq_true, decide_eq_true_eq] at h1
      rcases h1 with h1 | h1
      · omega
      · obtain ⟨j, hj, hj2⟩ := List.any_eq_true.1 h1
        simp only [Bool.and_eq_true, decide_eq_true_eq] at hj2
        obtain ⟨o', ho', e, he, hb, hon⟩ := Region.waitsFor_spec hj2.2
        have : o' = ot := Option.some.inj (ho'.symm.trans hot)
        subst this
        have h2 := hall e he hb
        have hjt := List.mem_range.1 hj
        rw [hon, getD_both (inv.tail j (by omega) (by omega))] at h2
        cases h2

/-- The first m operations: nothing deferred, a guard that stands ahead, none waits for a later one. -/
def headG (l : List Oper) (m : Nat) : Bool := (List.range m).all fun i => match l[i]? with
  | some o => (match o.guard with | none => true | some (j, _) => decide (j < m)) && (match o.op with | .defer _ => false | _ => true) && o.after.all fun e => !Region.binds .any e || decide (e.on < i)
  | none => false
theorem headG_at {l : List Oper} {m i : Nat} (h : headG l m = true) (hi : i < m) : ∃ o, l[i]? = some o ∧ (∀ j b, o.guard = some (j, b) → j < m) ∧ (∀ c, o.op ≠ .defer c) ∧ ∀ e ∈ o.after, Region.binds .any e = true → e.on < i := by
  have := List.all_eq_true.1 h i (List.mem_range.2 hi)
  cases ho : l[i]? with
  | none => rw [ho] at this; cases this
  | some o =>
    rw [ho] at this
    simp only [Bool.and_eq_true, Array.all_eq_true_iff_forall_mem, Bool.or_eq_true, Bool.not_eq_true', decide_eq_true_eq] at this
    refine ⟨o, rfl, fun j b hg => ?_, fun c hc => ?_, fun e he hb => (this.2 e he).resolve_left (by simp [hb])⟩
    · have h1 := this.1.1
      rw [hg] at h1
      simpa using h1
    · have h2 := this.1.2
      rw [hc] at h2; cases h2
theorem wanted_take {l : List Oper} {m : Nat} {o : Oper} (hg : ∀ j b, o.guard = some (j, b) → j < m) (tmps : Array Value) : Region.wanted o (yielded (l.take m).toArray tmps) = Region.wanted o (yielded l.toArray tmps) := by
  unfold Region.wanted
  cases h : o.guard with
  | none => rfl
  | some p =>
    obtain ⟨j, b⟩ := p
    have hj := hg j b h
    have : yielded (l.take m).toArray tmps j = yielded l.toArray tmps j := by
      unfold yielded
      simp [hj]
    simp only [this]

theorem wpAnyQ_mono2 {md : Region.Mode} {ops : Array Oper} {Q Q' : Act → Prop} (h : ∀ a, Q a → Q' a) : ∀ (f : Nat) (listed : Array Bool) (a : Act), wpAnyQ P md ops C Q f listed a → wpAnyQ P md ops C Q' f listed a
  | 0, _, _, hh => ⟨hh.1, h _ hh.2⟩
  | f + 1, _, _, hh => ⟨fun e => h _ (hh.1 e), fun i hi => qOp_mono (fun a' h' => wpAnyQ_mono2 h f _ a' h') (hh.2 i hi)⟩
/-- Operations up to number m, quiet, in any order. -/
theorem head_run2 (hF : Lets P F) {l : List Oper} {m : Nat} (hk : m < l.length) (hH : headG l m = true) (hs : Region.sinkB .any l.toArray m = true) (hc : tailB l.toArray m = true)
    {Q : Exit → Act → World → Prop} {G : Act → World → Prop} (hG : ∀ a w, G a w → wpAnyIn F n P .any l.toArray Q (l.length - m) (doneA l.length m) a w) :
    ∀ (f : Nat) (A B : Array Bool) (a : Act) (w : World), Two l m A B → HeadInv .any l.toArray m A → nf A m = f → C w →
      wpAnyQ P .any (l.take m).toArray C (fun a' => ∀ w', C w' → G a' w') f B a →
      wpAnyIn F n P .any l.toArray Q (f + (l.length - m)) A a w := by
  intro f
  induction f with
  | zero =>
    intro A B a w hT inv hn hw h
    have hA : A = doneA l.length m := by
      apply Array.ext
      · rw [hT.sizeA, doneA_size (by omega)]
      · intro i h1 h2
        have hi : i < l.length := by rw [← hT.sizeA]; exact h1
        have e1 := doneA_get (n := l.length) (p := m) (by omega) hi true
        rw [Array.getD_eq_getD_getElem?, Array.getElem?_eq_getElem h2] at e1
        simp only [Option.getD_some] at e1
        rw [e1]
        rcases Nat.lt_or_ge i m with h3 | h3
        · have := nf_none hn i h3
          simp [h1] at this
          rw [this]; simp [h3]
        · have := inv.tail i h3 (by simpa using hi)
          simp [h1] at this
          rw [this]; simp; omega
    rw [Nat.zero_add]
    subst hA
    exact hG a w (h.2 w hw)
  | succ f ih =>
    intro A B a w hT inv hn hw h
    obtain ⟨i0, hi0, hu0, hall⟩ := nf_some (listed := A) (k := m) (by omega)
    rw [show f + 1 + (l.length - m) = (f + (l.length - m)) + 1 by omega]
    refine ⟨fun e => ?_, fun i hi => ?_⟩
    · have : i0 ∈ Region.ready .any l.toArray A := by
        obtain ⟨o, ho, _, _, hb⟩ := headG_at hH hi0
        refine mem_ready.2 ⟨hu0, o, by simpa using ho, fun e he hb' => ?_⟩
        have := hb e he hb'
        exact getD_true_false (by rw [hT.sizeA]; omega) (hall _ this)
      rw [e] at this; cases this
    · have hik : i < m := by
        rcases Nat.lt_or_ge i m with h1 | h1
        · exact h1
        · exact absurd hi (tail_waits2 hs hc (by simpa using hk) inv _ i0 rfl hi0 hu0 i h1)
      obtain ⟨o, ho, hg, hd, hb⟩ := headG_at hH hik
      obtain ⟨hu, o', ho', hdeps⟩ := mem_ready.1 hi
      obtain rfl : o' = o := by
        have : l.toArray[i]? = some o := by simpa using ho
        rw [this] at ho'; exact (Option.some.inj ho').symm
      have hiB : i ∈ Region.ready .any (l.take m).toArray B := by
        refine mem_ready.2 ⟨by rw [← hT.same i hik]; exact hu, o', ?_, fun e he hb' => ?_⟩
        · simp [hik, ho]
        · rw [← hT.same _ (by have := hb e he hb'; omega)]; exact hdeps e he hb'
      have h1 := h.2 i hiB
      unfold qOp at h1
      have h2 : (l.take m).toArray[i]? = some o' := by simp [hik, ho]
      rw [h2] at h1
      simp only [wanted_take hg] at h1
      unfold wpOpIn
      rw [ho']
      have hcount := nf_set hu m
      rw [if_pos hik] at hcount
      simp only
      by_cases hwt : Region.wanted o' (yielded l.toArray a.tmps) = true
      · rw [if_pos hwt] at h1 ⊢
        obtain ⟨v, hv, hK⟩ := h1
        exact wpIn_quiet hF hd hw (hv w hw) fun w' hw' => ih _ _ _ w' (hT.set hu) (inv.set hi hik) (by omega) hw' hK
      · rw [if_neg hwt] at h1 ⊢
        exact ⟨fun f _ => hF.fn f, ih _ _ _ w (hT.set hu) (inv.set hi hik) (by omega) hw h1⟩

/-- Operations from number p on, one by one. -/
def forcedB (ops : Array Oper) : Nat → Nat → Bool
  | 0, _ => true
  | f + 1, p => decide (Region.ready .any ops (doneA ops.size p) = [p]) && forcedB ops f (p + 1)
/-- What follows, at the normal end. -/
def andThen (Q : Exit → Act → World → Prop) (K : Act → World → Prop) : Exit → Act → World → Prop
  | .normal, a, w => K a w
  | e, a, w => Q e a w
theorem wpIn_then {o : Oper} {a : Act} {w : World} {K K' : Act → World → Prop} {Q : Exit → Act → World → Prop} {G : Act → World → Prop} (h : ∀ a w, K a w → K' a w)
    (hh : o.wpIn F n P a w K (andThen Q G)) : o.wpIn F n P a w K' Q := by
  unfold Oper.wpIn at *
  refine ⟨hh.1, ?_⟩
  have hh := hh.2
  generalize (o.semAt F.round a.eval).run P w = r at *
  cases r with
  | ok x w' =>
    cases x <;> simp only [Oper.uponIn] at hh ⊢ <;>
      first
        | exact h _ _ hh
        | exact ⟨hh.1, CallsIn.mono hh.2 (fun e w'' he => by cases e <;> first | exact h _ _ he | exact he)⟩
        | exact ⟨hh.1, RowsIn.mono hh.2 (fun _ _ he => h _ _ he)⟩
        | exact ⟨hh.1, RoundIn.mono hh.2 (fun e w'' he => by cases e <;> first | exact h _ _ he | exact he)⟩
  | halt x w' => cases x <;> simp only [Oper.uponIn] at hh ⊢ <;> exact hh
theorem forced_run {l : List Oper} {Q : Exit → Act → World → Prop} {G : Act → World → Prop} : ∀ (s : List Oper) (p : Nat) (a : Act) (w : World), (∀ j, j < s.length → s[j]? = l[p + j]?) → p + s.length ≤ l.length →
    forcedB l.toArray s.length p = true → (∀ a w, G a w → wpAnyIn F n P .any l.toArray Q (l.length - (p + s.length)) (doneA l.length (p + s.length)) a w) →
    wpListIn F n P l.toArray (andThen Q G) s a w → wpAnyIn F n P .any l.toArray Q (l.length - p) (doneA l.length p) a w := by
  intro s
  induction s with
  | nil =>
    intro p a w _ _ _ hG h
    exact hG a w h
  | cons o s ih =>
    intro p a w hl hlen hB hG h
    rw [List.length_cons] at hlen hB hG
    rw [forcedB, Bool.and_eq_true, decide_eq_true_eq] at hB
    have hsz : l.toArray.size = l.length := by simp
    rw [hsz] at hB
    have h0 : l.toArray[p]? = some o := by
      have := hl 0 (by simp)
      simpa using this.symm
    have step : ∀ a' w', wpListIn F n P l.toArray (andThen Q G) s a' w' → wpAnyIn F n P .any l.toArray Q (l.length - (p + 1)) ((doneA l.length p).setIfInBounds p true) a' w' := fun a' w' h' => by
      rw [doneA_set (by omega)]
      exact ih (p + 1) a' w' (fun j hj => by
        have := hl (j + 1) (by simp; omega)
        rw [List.getElem?_cons_succ] at this
        rw [this]; congr 1; omega) (by omega) hB.2 (by rw [show p + 1 + s.length = p + (s.length + 1) by omega]; exact hG) h'
    rw [show l.length - p = (l.length - (p + 1)) + 1 by omega]
    refine ⟨fun e => (by rw [hB.1] at e; cases e), fun i hi => ?_⟩
    obtain rfl : i = p := by rw [hB.1] at hi; simpa using hi
    unfold wpOpIn
    rw [h0]
    unfold wpListIn at h
    simp only
    split at h
    · rename_i hw
      simp only [hw, if_true]
      exact wpIn_then step h
    · rename_i hw
      simp only [hw]
      exact ⟨h.1, step _ _ h.2⟩
/-- The region by one walk: numbers below k quietly; k to p one by one; p to m quietly or passed by; the others one by one. -/
theorem wpIn_region_two {id : Nat} {Q : Exit → Act → World → Prop} {a : Act} {w : World} {l : List Oper} (hF : Lets P F) (k p m : Nat) (hm : P.follows .mixedOrders = true)
    (hB : (decide (k ≤ p) && decide (p ≤ m) && decide (m < l.length) && headG l m && headG l k && Region.sinkB .any l.toArray k && tailB l.toArray k && Region.sinkB .any l.toArray m && tailB l.toArray m &&
      forcedB l.toArray ((l.take p).drop k).length k && Region.seqB .any l.toArray (l.drop m).length m (doneA l.length m) && Region.noSelect (l.take m).toArray &&
      Region.lexFrom .any (l.take k).toArray k 0 (Array.replicate k false) && Region.lexFrom .any (l.take m).toArray (m - p) p (doneA m p)) = true)
    (hC : C w.drew) (h : wpQuiet P (l.take k).toArray C (fun a' => ∀ w', C w' → wpListIn F n P l.toArray (andThen Q (fun a3 w3 =>
      wpQuiet P (l.take m).toArray (fun w' => w' = w3) (fun a4 => wpListIn F n P l.toArray Q (l.drop m) a4 w3) ((l.take m).drop p) a3)) ((l.take p).drop k) a' w') (l.take k) a) : (Code.region id l.toArray true).wpIn F n P Q a w := by
  simp only [Bool.and_eq_true, decide_eq_true_eq] at hB
  obtain ⟨⟨⟨⟨⟨⟨⟨⟨⟨⟨⟨⟨⟨hkp, hpm⟩, hml⟩, hHm⟩, hHk⟩, hsk⟩, htk⟩, hsm⟩, htm⟩, hfo⟩, hsq⟩, hns⟩, hlk⟩, hlm⟩ := hB
  have hsel : ∀ j, j ≤ m → Region.noSelect (l.take j).toArray = true := fun j hj => by
    unfold Region.noSelect at hns ⊢
    rw [Array.all_eq_true_iff_forall_mem] at hns ⊢
    intro x hx
    refine hns x ?_
    simp only [List.mem_toArray] at hx ⊢
    exact (List.take_subset_take_left l hj) hx
  -- the last part
  have last : ∀ a4 w4, wpListIn F n P l.toArray Q (l.drop m) a4 w4 → wpAnyIn F n P .any l.toArray Q (l.length - m) (doneA l.length m) a4 w4 := fun a4 w4 h4 => by
    have := wpAnyIn_seq (F := F) (n := n) (P := P) (l.drop m) m (doneA l.length m) a4 w4 (fun j => by simp [List.getElem?_drop]) hsq h4
    rwa [List.length_drop] at this
  -- the second quiet part
  have mid : ∀ a3 w3, wpQuiet P (l.take m).toArray (fun w' => w' = w3) (fun a4 => wpListIn F n P l.toArray Q (l.drop m) a4 w3) ((l.take m).drop p) a3 →
      wpAnyIn F n P .any l.toArray Q (l.length - p) (doneA l.length p) a3 w3 := fun a3 w3 h3 => by
    have htl : ((l.take m).drop p).length = m - p := by rw [List.length_drop, List.length_take]; omega
    have hlen : (l.take m).toArray.size = m := by simp; omega
    have H := wpAnyQ_lex (C := fun w' => w' = w3) (md := .any) (hsel m (Nat.le_refl _)) ((l.take m).drop p) p (doneA m p) a3 (fun j => by simp [List.getElem?_drop]) (by rw [htl]; exact hlm) h3
    rw [htl] at H
    have := head_run2 (F := F) (n := n) (C := fun w' => w' = w3) hF (by omega) hHm hsm htm (G := fun a4 w4 => wpListIn F n P l.toArray Q (l.drop m) a4 w4) last (m - p) (doneA l.length p) (doneA m p) a3 w3
      ⟨doneA_size (by omega), doneA_size hpm, fun i hi d => by rw [doneA_get (by omega) (by omega), doneA_get hpm hi]⟩
      ⟨by rw [doneA_size (by omega)]; simp, fun j oj ho hl e he hb => by
        have hjl : j < l.length := by
          have := (Array.getElem?_eq_some_iff.1 ho).1
          simpa using this
        rw [doneA_get (by omega) hjl, decide_eq_true_eq] at hl
        obtain ⟨o2, ho2, _, _, hdep⟩ := headG_at hHm (show j < m by omega)
        have : o2 = oj := by
          have h5 : l.toArray[j]? = some o2 := by simpa using ho2
          rw [ho] at h5; exact (Option.some.inj h5).symm
        subst this
        have := hdep e he hb
        rw [doneA_get (by omega) (by omega), decide_eq_true_eq]; omega, fun t ht htl => by
        have : t < l.length := by simpa using htl
        rw [doneA_get (by omega) this, decide_eq_false_iff_not]; omega⟩ ?_ rfl
      (wpAnyQ_mono2 (fun a4 h4 w4 hw4 => by subst hw4; exact h4) _ _ _ H)
    · rwa [show m - p + (l.length - m) = l.length - p by omega] at this
    · have : ∀ q, q ≤ m → nf (doneA l.length p) q = q - p := by
        intro q
        induction q with
        | zero => intro _; simp [nf]
        | succ q ih =>
          intro hq
          rw [nf_succ, ih (by omega), doneA_get (by omega) (by omega)]
          by_cases hqp : q < p
          · simp [hqp]; omega
          · simp [hqp]; omega
      exact this m (Nat.le_refl _)
  -- the first call
  have first : ∀ a2 w2, wpListIn F n P l.toArray (andThen Q (fun a3 w3 => wpQuiet P (l.take m).toArray (fun w' => w' = w3) (fun a4 => wpListIn F n P l.toArray Q (l.drop m) a4 w3) ((l.take m).drop p) a3)) ((l.take p).drop k) a2 w2 →
      wpAnyIn F n P .any l.toArray Q (l.length - k) (doneA l.length k) a2 w2 := fun a2 w2 h2 => by
    have htl : ((l.take p).drop k).length = p - k := by rw [List.length_drop, List.length_take]; omega
    refine forced_run (F := F) (n := n) (P := P) (Q := Q) ((l.take p).drop k) k a2 w2 (fun j hj => ?_) (by rw [htl]; omega) hfo (fun a3 w3 h3 => ?_) h2
    · rw [List.getElem?_drop, List.getElem?_take_of_lt (by rw [htl] at hj; omega)]
    · rw [htl, show k + (p - k) = p by omega]
      exact mid a3 w3 h3
  have htl : (l.take k).length = k := by rw [List.length_take]; omega
  have H := wpAnyQ_lex (C := C) (md := .any) (hsel k (by omega)) (l.take k) 0 (Array.replicate k false) a (fun j => by simp) (by rw [htl]; exact hlk) h
  rw [htl] at H
  refine wpIn_region_any hm ?_
  have hz : l.toArray.size = l.length := by simp
  rw [hz]
  have := head_run2 (F := F) (n := n) hF (by omega) hHk hsk htk first k (doneA l.length 0) (doneA k 0) a w.drew
    ⟨doneA_size (by omega), doneA_size (by omega), fun i hi d => by rw [doneA_get (by omega) (by omega), doneA_get (by omega) hi]⟩
    ⟨by rw [doneA_size (by omega)]; simp, fun j oj ho hl => by
      have hjl : j < l.length := by
        have := (Array.getElem?_eq_some_iff.1 ho).1
        simpa using this
      rw [doneA_get (by omega) hjl] at hl
      simp at hl, fun t ht htl => by
      have : t < l.length := by simpa using htl
      rw [doneA_get (by omega) this]; simp⟩ ?_ hC (by rw [doneA_zero]; exact H)
  · rw [show k + (l.length - k) = l.length by omega, doneA_zero] at this
    exact this
  · have : ∀ q, q ≤ l.length → nf (doneA l.length 0) q = q := by
      intro q
      induction q with
      | zero => intro _; simp [nf]
      | succ q ih =>
        intro hq
        rw [nf_succ, ih (by omega), doneA_get (by omega) (by omega)]
        simp
    exact this k (by omega)
/-! ### Guards that are decided -/
theorem wpQuiet_skip {ops : Array Oper} {Q : Act → Prop} {o : Oper} {rest : List Oper} {a : Act} (h : Region.wanted o (yielded ops a.tmps) = false) (k : wpQuiet P ops C Q rest (a.put o.dst undef)) : wpQuiet P ops C Q (o :: rest) a := by
  unfold wpQuiet
  rw [if_neg (by rw [h]; decide)]
  exact k
theorem wpQuiet_free {ops : Array Oper} {Q : Act → Prop} {o : Oper} {rest : List Oper} {a : Act} (h : Region.wanted o (yielded ops a.tmps) = true) (k : wpQuiet P ops C Q ({ o with guard := none } :: rest) a) : wpQuiet P ops C Q (o :: rest) a := by
  unfold wpQuiet at k ⊢
  rw [if_pos h]
  rw [if_pos (wanted_free rfl _)] at k
  exact k
theorem wpListIn_skip {ops : Array Oper} {Q : Exit → Act → World → Prop} {o : Oper} {rest : List Oper} {a : Act} {w : World} (hF : Lets P F) (h : Region.wanted o (yielded ops a.tmps) = false) (k : wpListIn F n P ops Q rest (a.put o.dst undef) w) : wpListIn F n P ops Q (o :: rest) a w := by
  unfold wpListIn
  rw [if_neg (by rw [h]; decide)]
  exact ⟨fun f _ => hF.fn f, k⟩
theorem wpListIn_free {ops : Array Oper} {Q : Exit → Act → World → Prop} {o : Oper} {rest : List Oper} {a : Act} {w : World} (h : Region.wanted o (yielded ops a.tmps) = true) (k : wpListIn F n P ops Q ({ o with guard := none } :: rest) a w) : wpListIn F n P ops Q (o :: rest) a w := by
  unfold wpListIn at k ⊢
  rw [if_pos h]
  rw [if_pos (wanted_free rfl _)] at k
  exact k
theorem wanted_not {o : Oper} {y : Nat → Option Bool} {j : Nat} {b c : Bool} (hg : o.guard = some (j, b)) (hy : y j = some c) (hne : c = !b) : Region.wanted o y = false := by
  unfold Region.wanted
  rw [hg]
  simp only [hy, hne]
  cases b <;> rfl
theorem wanted_is {o : Oper} {y : Nat → Option Bool} {j : Nat} {b c : Bool} (hg : o.guard = some (j, b)) (hy : y j = some c) (he : c = b) : Region.wanted o y = true := by
  unfold Region.wanted
  rw [hg]
  simp only [hy, he]
  cases b <;> rfl
end
end Go.Proofs.YtdhklkpeepmedaaDoor
