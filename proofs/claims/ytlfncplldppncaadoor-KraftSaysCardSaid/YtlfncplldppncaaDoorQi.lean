/-
  Several of this claim's texts in one (Kbits, Tail, Kapart): what each proves stands at its own head. Conditions: as each says.
-/
import Derived.Laws.Concat
import Derived.StillTail
import Derived.Deep.Quiet
import Derived.OrdersIn
import Derived.TacticsIn
import Derived.RangeFuncCalls
import Derived.KernelRfl
import Derived.Deep.OwnRows
import Derived.OwnWalkIn
import Derived.TacticsInMore
import Derived.Maps.AppendAt
import Derived.Test.YtlfncplldppncaaDoorQh

/-
  Contracts of letterbeckref2.Bits and Has. Conditions: at most twelve bits; at most a thousand texts.
-/
namespace Go.Proofs.YtlfncplldppncaaDoor
open Go.RowKit

theorem txt_snoc (l : List UInt8) (c : UInt8) : txt l ++ ⟨#[c]⟩ = txt (l ++ [c]) := by
  apply bs_inj
  rw [wb_app, bs_txt, bs_txt]
  rfl
set_option maxHeartbeats 1000000 in
theorem rbits_any (m : Nat) : ∀ (k : Nat) (w : World), m ≤ 12 → k ≤ 1099511627776 →
    Calls Tryd.prog 23 #[.int .i64 (k : Int), .int .i64 (m : Int)] w fun e w' => e = .returned (.string (txt (bitsL m k))) ∧ w' = w := by
  induction m with
  | zero =>
    intro k w _ hk
    go_enter Tryd.func23, Tryd.ntmps23
    go_wp2_with fail
    go_ret
    exact ⟨rfl, rfl⟩
  | succ m ih =>
    intro k w hm hk
    have HI := hid (ih (k / 2) w (by omega) (by omega))
    have HS := hid (txt_size (bitsL m (k / 2)))
    have HL := hid (bits_len m (k / 2))
    obtain ⟨T, hT⟩ : ∃ T, T = txt (bitsL m (k / 2)) := ⟨_, rfl⟩
    rw [← hT] at HI HS
    have hTs : T.size ≤ 12 := by have := HS.out; have := HL.out; omega
    have hA := fun (c : UInt8) (W : World) => run_string_add_sum (P := Tryd.prog) W T ⟨#[c]⟩ (by have : (⟨#[c]⟩ : ByteArray).size = 1 := rfl; omega)
    have m1 : ((m + 1 : Nat) : Int) ≠ 0 := by omega
    have m2 : ((m + 1 : Nat) : Int) - 1 = (m : Int) := by omega
    obtain ⟨K, hK⟩ : ∃ K, K = k / 2 := ⟨_, rfl⟩
    have k1 : (k : Int) / 2 = (K : Int) := by omega
    rw [← hK] at HI hT
    by_cases hb : k % 2 = 1
    · have k2 : (k : Int) % 2 = 1 := by omega
      have HE : Hid (T ++ ⟨#[49]⟩ = txt (bitsL (m + 1) k)) := hid (by rw [hT, txt_snoc, bitsL, if_pos hb, hK])
      have hA1 := hA 49
      clear hA hT hK hb HS HL ih
      generalize T ++ ⟨#[49]⟩ = T2 at HE hA1
      go_enter Tryd.func23, Tryd.ntmps23
      go_wp2_with fail
      refine HI.out.mono ?_
      rintro e w1 ⟨rfl, hw1⟩
      subst w1
      go_wp2_with fail
      go_ret
      exact ⟨by rw [← HE.out]; rfl, rfl⟩
    · have k2 : (k : Int) % 2 = 0 := by omega
      have HE : Hid (T ++ ⟨#[48]⟩ = txt (bitsL (m + 1) k)) := hid (by rw [hT, txt_snoc, bitsL, if_neg hb, hK])
      have hA1 := hA 48
      clear hA hT hK hb HS HL ih
      generalize T ++ ⟨#[48]⟩ = T2 at HE hA1
      go_enter Tryd.func23, Tryd.ntmps23
      go_wp2_with fail
      refine HI.out.mono ?_
      rintro e w1 ⟨rfl, hw1⟩
      subst w1
      go_wp2_with fail
      go_ret
      exact ⟨by rw [← HE.out]; rfl, rfl⟩

set_option maxHeartbeats 1000000 in
theorem rhas_any (A : Option Addr) (n c : Nat) (ws : List ByteArray) (s : ByteArray) (w : World) (hn : n ≤ 1000) (h : IsStrs w w.heap.size A n ws) :
    Calls Tryd.prog 30 #[.slice A n c, .string s] w fun e w' => ((s ∈ ws ∧ e = .returned (.bool true)) ∨ (s ∉ ws ∧ e = .returned (.bool false))) ∧ w' = w := by
  have hl := h.1
  have HI := hid h
  have HN := hid hl
  clear h hl
  go_enter Tryd.func30, Tryd.ntmps30
  go_wp2_with fail
  go_loopw [5] (fun x wr => ∃ i : Nat, i ≤ n ∧ x = .int .i64 i ∧ Hid (∀ j, j < i → wat ws j ≠ s) ∧ wr = w) (fun x _ => n - (intOf x).toNat)
  case atStart => exact ⟨0, by omega, rfl, hid (fun j hj => absurd hj (by omega)), rfl⟩
  case round =>
    obtain ⟨i, hin, rfl, HB, hwr⟩ := hrel
    subst wr
    by_cases hlt : i < n
    · obtain ⟨g, off, rfl, hg, hc⟩ := HI.out.2 (by omega)
      have c1 : w.cell? ⟨g, off + i, none⟩ = some (.string (wat ws i)) := hc i hlt
      by_cases he : wat ws i = s
      · have HY : Hid (s ∈ ws) := hid (by rw [← he]; exact List.mem_of_getElem? (wat_get (by rw [HN.out]; exact hlt)))
        have hq := same_yes he
        generalize wat ws i = X at c1 hq
        clear he HB hc
        go_wp2_with fail
        go_ret
        exact ⟨.inl ⟨HY.out, rfl⟩, by first | rfl | trivial⟩
      · have HB2 : Hid (∀ j, j < i + 1 → wat ws j ≠ s) := hid (fun j hj => by
          rcases Nat.lt_or_ge j i with h | h
          · exact HB.out j h
          · obtain rfl : j = i := by omega
            exact he)
        have hq := same_no he
        generalize wat ws i = X at c1 hq
        clear he HB hc
        go_wp2_with fail
        go_roundw
        case rel => exact ⟨i + 1, by omega, by go_num, HB2, by first | rfl | trivial⟩
        case measure => simp [intOf]; omega
    · obtain rfl : i = n := by omega
      have HNo : Hid (s ∉ ws) := hid (fun hm => by
        obtain ⟨j, hj, e⟩ := List.getElem_of_mem hm
        refine HB.out j (by rw [← HN.out]; exact hj) ?_
        have := wat_get hj
        rw [List.getElem?_eq_getElem hj] at this
        rw [← e]
        injection this with this
        exact this.symm)
      clear HB
      go_wp2_with fail
      go_ret
      exact ⟨.inr ⟨HNo.out, rfl⟩, by first | rfl | trivial⟩
end Go.Proofs.YtlfncplldppncaaDoor

/-
  A region that draws its order, inside a fence that bars nothing, in a loop's round too: its first operations only read or call quietly (such calls may draw), the others come in one forced order behind them: one walk serves every order; where the very first operation may come later by one place, two walks. No condition on a program.
-/
namespace Go.Proofs.YtlfncplldppncaaDoor
open Go

/-- A fence that bars nothing: whatever is called in the open may be called in it. -/
structure Lets (P : Program) (F : Fence) : Prop where
  fn : ∀ f, F.fn f
  depth : F.depth = none
  calls : ∀ n f args w R, Calls P f args w R → CallsIn F n P f args w R
theorem lets_wide (P : Program) : Lets P Fence.wide := ⟨fun _ => trivial, rfl, fun _ _ _ _ _ h => callsIn_wide.2 h⟩
theorem lets_round (P : Program) (l : Nat) : Lets P (Fence.wide.inRound l) := ⟨fun _ => trivial, rfl, fun _ _ _ _ _ h => CallsIn.inRound l (callsIn_wide.2 h)⟩

section
variable {F : Fence} {n : Nat} {P : Program} {C : World → Prop}

/-- A quiet operation, in the fence. -/
theorem wpIn_quiet (hF : Lets P F) {o : Oper} {a : Act} {w : World} {v : Value} {K : Act → World → Prop} {Q : Exit → Act → World → Prop} (hd : ∀ c, o.op ≠ .defer c) (hw : C w)
    (h : o.quietAt P a C w v) (hk : ∀ w', C w' → K (a.put o.dst v) w') : o.wpIn F n P a w K Q := by
  refine ⟨fun f _ => hF.fn f, ?_⟩
  rw [Oper.semAt_eq _ _ _ hd]
  unfold Oper.quietAt at h
  generalize (execOp a.eval o).run P w = r at h
  cases r with
  | halt x w' => exact h.elim
  | ok x w' =>
    cases x with
    | value u => obtain ⟨rfl, rfl⟩ := h; exact hk _ hw
    | skip => obtain ⟨rfl, rfl⟩ := h; exact hk _ hw
    | enter f args =>
      obtain ⟨rfl, hc⟩ := h
      refine ⟨fun e => (by rw [hF.depth] at e; cases e), (hF.calls _ _ _ _ _ hc).mono ?_⟩
      rintro e w2 ⟨rfl, hw2⟩
      exact hk _ hw2
    | _ => exact h.elim

/-! ### How many of the first k are still to come -/
def nf (listed : Array Bool) (k : Nat) : Nat := ((List.range k).filter fun i => !listed.getD i true).length
theorem nf_succ (listed : Array Bool) (k : Nat) : nf listed (k + 1) = nf listed k + if listed.getD k true = false then 1 else 0 := by
  unfold nf
  rw [List.range_succ, List.filter_append, List.length_append]
  simp only [List.filter_cons, List.filter_nil]
  cases h : listed.getD k true with
  | false => rfl
  | true => rfl
theorem getD_self {listed : Array Bool} {i : Nat} (h : listed.getD i true = false) (d : Bool) : (listed.setIfInBounds i true).getD i d = true := by
  rcases Nat.lt_or_ge i listed.size with h' | h'
  · simp [h']
  · simp [Array.getElem?_eq_none h'] at h
theorem nf_set {listed : Array Bool} {i : Nat} (h : listed.getD i true = false) : ∀ k, nf (listed.setIfInBounds i true) k + (if i < k then 1 else 0) = nf listed k := by
  intro k
  induction k with
  | zero => rfl
  | succ k ih =>
    rw [nf_succ, nf_succ]
    by_cases e : i = k
    · subst e
      rw [getD_self h, h]
      rw [if_neg (Nat.lt_irrefl _)] at ih
      simp; omega
    · rw [getD_set_ne true e]
      by_cases e' : i < k
      · rw [if_pos e'] at ih
        rw [if_pos (show i < k + 1 by omega)]; omega
      · rw [if_neg e'] at ih
        rw [if_neg (show ¬ i < k + 1 by omega)]; omega
theorem nf_none {listed : Array Bool} {k : Nat} (h : nf listed k = 0) : ∀ i, i < k → listed.getD i true = true := by
  intro i hi
  have := List.length_eq_zero_iff.1 h
  have := (List.filter_eq_nil_iff.1 this) i (List.mem_range.2 hi)
  simpa using this
theorem nf_some {listed : Array Bool} {k : Nat} (h : 0 < nf listed k) : ∃ i, i < k ∧ listed.getD i true = false ∧ ∀ j, j < i → listed.getD j true = true := by
  induction k with
  | zero => simp [nf] at h
  | succ k ih =>
    by_cases h0 : 0 < nf listed k
    · obtain ⟨i, h1, h2⟩ := ih h0
      exact ⟨i, by omega, h2⟩
    · rw [nf_succ] at h
      refine ⟨k, by omega, ?_, nf_none (by omega)⟩
      cases e : listed.getD k true with
      | false => rfl
      | true => rw [e] at h; simp at h; omega
theorem getD_true_false {listed : Array Bool} {i : Nat} (hi : i < listed.size) (h : listed.getD i true = true) : listed.getD i false = true := by
  simp [hi] at h ⊢; exact h

/-- The first k operations: no guard, nothing deferred, none waits for a later one. -/
def headB (l : List Oper) (k : Nat) : Bool := (List.range k).all fun i => match l[i]? with
  | some o => o.guard.isNone && (match o.op with | .defer _ => false | _ => true) && o.after.all fun e => !Region.binds .any e || decide (e.on < i)
  | none => false
theorem headB_at {l : List Oper} {k i : Nat} (h : headB l k = true) (hi : i < k) : ∃ o, l[i]? = some o ∧ o.guard = none ∧ (∀ c, o.op ≠ .defer c) ∧ ∀ e ∈ o.after, Region.binds .any e = true → e.on < i := by
  have := List.all_eq_true.1 h i (List.mem_range.2 hi)
  cases ho : l[i]? with
  | none => rw [ho] at this; cases this
  | some o =>
    rw [ho] at this
    simp only [Bool.and_eq_true, Array.all_eq_true_iff_forall_mem, Bool.or_eq_true, Bool.not_eq_true', decide_eq_true_eq, Option.isNone_iff_eq_none] at this
    refine ⟨o, rfl, this.1.1, fun c hc => ?_, fun e he hb => (this.2 e he).resolve_left (by simp [hb])⟩
    have h2 := this.1.2
    rw [hc] at h2; cases h2
theorem wanted_free {o : Oper} (h : o.guard = none) (y : Tmp → Option Bool) : Region.wanted o y = true := by unfold Region.wanted; rw [h]

/-- The operations in a forced order. -/
theorem wpAnyIn_seq {ops : Array Oper} {Q : Exit → Act → World → Prop} : ∀ (l : List Oper) (k : Nat) (listed : Array Bool) (a : Act) (w : World), (∀ j, l[j]? = ops[k + j]?) →
    Region.seqB .any ops l.length k listed = true → wpListIn F n P ops Q l a w → wpAnyIn F n P .any ops Q l.length listed a w := by
  intro l
  induction l with
  | nil =>
    intro k listed a w _ hB h
    exact ⟨List.isEmpty_iff.1 hB, h⟩
  | cons o l ih =>
    intro k listed a w hl hB h
    have h0 : ops[k]? = some o := (hl 0).symm
    have hB' : Region.ready .any ops listed = [k] ∧ Region.seqB .any ops l.length (k + 1) (listed.setIfInBounds k true) = true := by
      rw [List.length_cons, Region.seqB, Bool.and_eq_true, decide_eq_true_eq] at hB; exact hB
    have step : ∀ a' w', wpListIn F n P ops Q l a' w' → wpAnyIn F n P .any ops Q l.length (listed.setIfInBounds k true) a' w' := fun a' w' h' =>
      ih (k + 1) _ a' w' (fun j => by have := hl (j + 1); rw [List.getElem?_cons_succ] at this; rw [this]; congr 1; omega) hB'.2 h'
    refine ⟨fun e => (by rw [hB'.1] at e; cases e), fun i hi => ?_⟩
    obtain rfl : i = k := by rw [hB'.1] at hi; simpa using hi
    refine wpOpIn_mono step ?_
    unfold wpOpIn
    rw [h0]
    exact h

/-- What has been listed of the region, and of its head alone. -/
structure Two (l : List Oper) (k : Nat) (A B : Array Bool) : Prop where
  sizeA : A.size = l.length
  sizeB : B.size = k
  same : ∀ i, i < k → ∀ d, A.getD i d = B.getD i d
theorem Two.set {l : List Oper} {k i : Nat} {A B : Array Bool} (h : Two l k A B) (hi : A.getD i true = false) : Two l k (A.setIfInBounds i true) (B.setIfInBounds i true) := by
  refine ⟨by rw [Array.size_setIfInBounds, h.sizeA], by rw [Array.size_setIfInBounds, h.sizeB], fun j hj d => ?_⟩
  by_cases e : i = j
  · subst e
    rw [getD_self hi, getD_self (by rw [← h.same i hj]; exact hi)]
  · rw [getD_set_ne d e, getD_set_ne d e, h.same j hj]

theorem head_run (hF : Lets P F) {l : List Oper} {k : Nat} (hk : k < l.length) (hH : headB l k = true) (hs : Region.sinkB .any l.toArray k = true) (hc : Region.chainB .any l.toArray k = true)
    (hq : Region.seqB .any l.toArray (l.drop k).length k (Array.replicate k true ++ Array.replicate (l.length - k) false) = true) {Q : Exit → Act → World → Prop} :
    ∀ (f : Nat) (A B : Array Bool) (a : Act) (w : World), Two l k A B → HeadInv .any l.toArray k A → nf A k = f → C w →
      wpAnyQ P .any (l.take k).toArray C (fun a' => ∀ w', C w' → wpListIn F n P l.toArray Q (l.drop k) a' w') f B a →
      wpAnyIn F n P .any l.toArray Q (f + (l.drop k).length) A a w := by
  intro f
  induction f with
  | zero =>
    intro A B a w hT inv hn hw h
    have hA : A = Array.replicate k true ++ Array.replicate (l.length - k) false := by
      apply Array.ext
      · rw [hT.sizeA]; simp; omega
      · intro i h1 h2
        have hi : i < l.length := by rw [← hT.sizeA]; exact h1
        rcases Nat.lt_or_ge i k with h3 | h3
        · have := nf_none hn i h3
          simp [h1] at this
          rw [this, Array.getElem_append_left (by simp; exact h3)]; simp
        · have := inv.tail i h3 (by simpa using hi)
          simp [h1] at this
          rw [this, Array.getElem_append_right (by simp; exact h3)]; simp
    rw [Nat.zero_add]
    subst hA
    exact wpAnyIn_seq (l.drop k) k _ a w (fun j => by simp [List.getElem?_drop]) hq (h.2 w hw)
  | succ f ih =>
    intro A B a w hT inv hn hw h
    obtain ⟨i0, hi0, hu0, hall⟩ := nf_some (listed := A) (k := k) (by omega)
    rw [show f + 1 + (l.drop k).length = (f + (l.drop k).length) + 1 by omega]
    refine ⟨fun e => ?_, fun i hi => ?_⟩
    · have : i0 ∈ Region.ready .any l.toArray A := by
        obtain ⟨o, ho, _, _, hb⟩ := headB_at hH hi0
        refine mem_ready.2 ⟨hu0, o, by simpa using ho, fun e he hb' => ?_⟩
        have := hb e he hb'
        exact getD_true_false (by rw [hT.sizeA]; omega) (hall _ this)
      rw [e] at this; cases this
    · have hik : i < k := by
        rcases Nat.lt_or_ge i k with h1 | h1
        · exact h1
        · exact absurd hi (tail_waits hs hc (by simpa using hk) inv _ i0 rfl hi0 hu0 i h1)
      obtain ⟨o, ho, hg, hd, hb⟩ := headB_at hH hik
      obtain ⟨hu, o', ho', hdeps⟩ := mem_ready.1 hi
      obtain rfl : o' = o := by
        have : l.toArray[i]? = some o := by simpa using ho
        rw [this] at ho'; exact (Option.some.inj ho').symm
      have hiB : i ∈ Region.ready .any (l.take k).toArray B := by
        refine mem_ready.2 ⟨by rw [← hT.same i hik]; exact hu, o', ?_, fun e he hb' => ?_⟩
        · simp [hik, ho]
        · rw [← hT.same _ (by have := hb e he hb'; omega)]; exact hdeps e he hb'
      have h1 := h.2 i hiB
      unfold qOp at h1
      have h2 : (l.take k).toArray[i]? = some o' := by simp [hik, ho]
      rw [h2] at h1
      simp only [wanted_free hg, if_true] at h1
      obtain ⟨v, hv, hK⟩ := h1
      unfold wpOpIn
      rw [ho']
      simp only [wanted_free hg, if_true]
      refine wpIn_quiet hF hd hw (hv w hw) fun w' hw' => ih _ _ _ w' (hT.set hu) (inv.set hi hik) ?_ hw' hK
      have := nf_set hu k
      rw [if_pos hik] at this
      omega

/-- The region by one walk: the first k operations quietly, then the others. -/
theorem wpIn_region_tail {id : Nat} {Q : Exit → Act → World → Prop} {a : Act} {w : World} {l : List Oper} (hF : Lets P F) (k : Nat) (hm : P.follows .mixedOrders = true)
    (hB : (decide (k < l.length) && headB l k && Region.sinkB .any l.toArray k && Region.chainB .any l.toArray k && Region.seqB .any l.toArray (l.drop k).length k (Array.replicate k true ++ Array.replicate (l.length - k) false) && Region.noSelect (l.take k).toArray && Region.lexFrom .any (l.take k).toArray k 0 (Array.replicate k false)) = true)
    (hC : C w.drew) (h : wpQuiet P (l.take k).toArray C (fun a' => ∀ w', C w' → wpListIn F n P l.toArray Q (l.drop k) a' w') (l.take k) a) : (Code.region id l.toArray true).wpIn F n P Q a w := by
  simp only [Bool.and_eq_true, decide_eq_true_eq] at hB
  obtain ⟨⟨⟨⟨⟨⟨hk, hH⟩, hs⟩, hc⟩, hq⟩, hn⟩, hx⟩ := hB
  have htl : (l.take k).length = k := by rw [List.length_take]; omega
  have H := wpAnyQ_lex (C := C) (md := .any) hn (l.take k) 0 (Array.replicate k false) a (fun j => by simp) (by rw [htl]; exact hx) h
  rw [htl] at H
  refine wpIn_region_any hm ?_
  have hrep : ∀ (m i : Nat) (d : Bool), i < m → (Array.replicate m false).getD i d = false := fun m i d hi => by simp [hi]
  have := head_run (F := F) (n := n) hF hk hH hs hc hq k (Array.replicate l.toArray.size false) (Array.replicate k false) a w.drew
    ⟨by simp, by simp, fun i hi d => by rw [hrep _ _ _ (by simp; omega), hrep _ _ _ hi]⟩
    ⟨by simp, fun j oj _ hl => (by rw [getD_replicate_false] at hl; cases hl), fun t _ ht => hrep _ _ _ ht⟩ ?_ hC H
  · have e : k + (l.drop k).length = l.toArray.size := by simp; omega
    rw [e] at this
    exact this
  · have : ∀ m, m ≤ l.toArray.size → nf (Array.replicate l.toArray.size false) m = m := by
      intro m
      induction m with
      | zero => intro _; rfl
      | succ m ih => intro hm; rw [nf_succ, ih (by omega), hrep _ _ _ (by omega)]; rfl
    exact this k (by simp; omega)

/-! ### The first operation may come late: a variable's load ahead of 'x = append(x, f(..))', which waits for the append alone -/
/-- All but the first of the first k operations are waited for, in the end by operation k; the others come one behind the other. -/
def floatB (l : List Oper) (k : Nat) : Bool :=
  ((List.range k).all fun i => decide (i = 0) || (List.range (k + 1)).any fun j => decide (i < j) && Region.waitsFor .any l.toArray j i) && Region.chainB .any l.toArray k
theorem float_waits {l : List Oper} {k t : Nat} {A : Array Bool} (h : floatB l k = true) (inv : HeadInv .any l.toArray k A) (ht : t ∈ Region.ready .any l.toArray A) (hk : k ≤ t) : t = k ∧ ∀ i, 0 < i → i < k → A.getD i false = true := by
  unfold floatB at h
  rw [Bool.and_eq_true] at h
  obtain ⟨hu, o, ho, hdeps⟩ := mem_ready.1 ht
  have htl : t < l.toArray.size := (Array.getElem?_eq_some_iff.1 ho).1
  have htk : t = k := by
    rcases Nat.lt_or_ge k t with h1 | h1
    · have h2 := List.all_eq_true.1 h.2 t (List.mem_range.2 htl)
      rw [Bool.or_eq_true, decide_eq_true_eq] at h2
      rcases h2 with h2 | h2
      · omega
      · obtain ⟨o', ho', e, he, hb, hon⟩ := Region.waitsFor_spec h2
        obtain rfl : o' = o := Option.some.inj (ho'.symm.trans ho)
        have h3 := hdeps e he hb
        rw [hon] at h3
        have h4 := inv.tail (t - 1) (by omega) (by omega)
        rw [getD_both h4] at h3; cases h3
    · omega
  subst htk
  refine ⟨rfl, ?_⟩
  have : ∀ (d i : Nat), t - i = d → 0 < i → i < t → A.getD i false = true := by
    intro d
    induction d using Nat.strongRecOn with
    | _ d ih =>
      intro i hd hi0 hit
      have h2 := List.all_eq_true.1 h.1 i (List.mem_range.2 hit)
      rw [Bool.or_eq_true, decide_eq_true_eq] at h2
      rcases h2 with h2 | h2
      · omega
      · obtain ⟨j, hj, hj2⟩ := List.any_eq_true.1 h2
        rw [Bool.and_eq_true, decide_eq_true_eq] at hj2
        have hjt : j ≤ t := by have := List.mem_range.1 hj; omega
        obtain ⟨oj, hoj, e, he, hb, hon⟩ := Region.waitsFor_spec hj2.2
        rw [← hon]
        by_cases hjk : j = t
        · subst hjk
          obtain rfl : oj = o := Option.some.inj (hoj.symm.trans ho)
          exact hdeps e he hb
        · exact inv.closed j oj hoj (ih (t - j) (by omega) j rfl (by omega) (by omega)) e he hb
  exact fun i h1 h2 => this _ i rfl h1 h2
/-- No other one of the first k operations writes the slot d. -/
def slotB (l : List Oper) (k : Nat) (d : Tmp) : Bool := (List.range k).all fun i => decide (i = 0) || match l[i]? with
  | some o => decide (o.dst ≠ some d)
  | none => false
theorem put_same (a : Act) (d : Tmp) (u v : Value) : (a.put (some d) v).put (some d) u = a.put (some d) u := by
  simp [Act.put]

theorem head_float (hF : Lets P F) {l : List Oper} {k : Nat} {d : Tmp} {u : Value} {o0 ok : Oper} (hk0 : 0 < k) (hl0 : l[0]? = some o0) (hlk : l[k]? = some ok) (hd0 : o0.dst = some d) (hH : headB l k = true) (hfl : floatB l k = true) (hsl : slotB l k d = true)
    (hq : Region.seqB .any l.toArray (l.drop k).length k (Array.replicate k true ++ Array.replicate (l.length - k) false) = true)
    (hq1 : Region.ready .any l.toArray ((#[false] ++ Array.replicate k true) ++ Array.replicate (l.length - k - 1) false) = [0])
    (hq2 : Region.seqB .any l.toArray (l.drop (k + 1)).length (k + 1) (Array.replicate (k + 1) true ++ Array.replicate (l.length - k - 1) false) = true) {Q : Exit → Act → World → Prop} :
    ∀ (f : Nat) (A B : Array Bool) (a : Act) (w : World), Two l k A B → HeadInv .any l.toArray k A → nf A k = f → C w → (A.getD 0 true = false → a.put (some d) u = a) →
      wpAnyQ P .any (l.take k).toArray C (fun a' => ∀ w', C w' → wpListIn F n P l.toArray Q (l.drop k) a' w' ∧ wpListIn F n P l.toArray Q (ok :: o0 :: l.drop (k + 1)) (a'.put (some d) u) w') f B a →
      wpAnyIn F n P .any l.toArray Q (f + (l.drop k).length) A a w := by
  have hkl : k < l.length := (List.getElem?_eq_some_iff.1 hlk).1
  have hgl : (l.drop k).length = (l.drop (k + 1)).length + 1 := by simp; omega
  intro f
  induction f with
  | zero =>
    intro A B a w hT inv hn hw _ h
    have hA : A = Array.replicate k true ++ Array.replicate (l.length - k) false := by
      apply Array.ext
      · rw [hT.sizeA]; simp; omega
      · intro i h1 h2
        have hi : i < l.length := by rw [← hT.sizeA]; exact h1
        rcases Nat.lt_or_ge i k with h3 | h3
        · have := nf_none hn i h3
          simp [h1] at this
          rw [this, Array.getElem_append_left (by simp; exact h3)]; simp
        · have := inv.tail i h3 (by simpa using hi)
          simp [h1] at this
          rw [this, Array.getElem_append_right (by simp; exact h3)]; simp
    rw [Nat.zero_add]
    subst hA
    exact wpAnyIn_seq (l.drop k) k _ a w (fun j => by simp [List.getElem?_drop]) hq (h.2 w hw).1
  | succ f ih =>
    intro A B a w hT inv hn hw hput h
    obtain ⟨i0, hi0, hu0, hall⟩ := nf_some (listed := A) (k := k) (by omega)
    rw [show f + 1 + (l.drop k).length = (f + (l.drop k).length) + 1 by omega]
    refine ⟨fun e => ?_, fun i hi => ?_⟩
    · have : i0 ∈ Region.ready .any l.toArray A := by
        obtain ⟨o, ho, _, _, hb⟩ := headB_at hH hi0
        refine mem_ready.2 ⟨hu0, o, by simpa using ho, fun e he hb' => ?_⟩
        have := hb e he hb'
        exact getD_true_false (by rw [hT.sizeA]; omega) (hall _ this)
      rw [e] at this; cases this
    · rcases Nat.lt_or_ge i k with hik | hik
      · obtain ⟨o, ho, hg, hd, hb⟩ := headB_at hH hik
        obtain ⟨hu, o', ho', hdeps⟩ := mem_ready.1 hi
        obtain rfl : o' = o := by
          have : l.toArray[i]? = some o := by simpa using ho
          rw [this] at ho'; exact (Option.some.inj ho').symm
        have hiB : i ∈ Region.ready .any (l.take k).toArray B := by
          refine mem_ready.2 ⟨by rw [← hT.same i hik]; exact hu, o', ?_, fun e he hb' => ?_⟩
          · simp [hik, ho]
          · rw [← hT.same _ (by have := hb e he hb'; omega)]; exact hdeps e he hb'
        have h1 := h.2 i hiB
        unfold qOp at h1
        have h2 : (l.take k).toArray[i]? = some o' := by simp [hik, ho]
        rw [h2] at h1
        simp only [wanted_free hg, if_true] at h1
        obtain ⟨v, hv, hK⟩ := h1
        unfold wpOpIn
        rw [ho']
        simp only [wanted_free hg, if_true]
        refine wpIn_quiet hF hd hw (hv w hw) fun w' hw' => ih _ _ _ w' (hT.set hu) (inv.set hi hik) ?_ hw' (fun he => ?_) hK
        · have := nf_set hu k
          rw [if_pos hik] at this
          omega
        · by_cases e0 : i = 0
          · subst e0; rw [getD_self hu] at he; cases he
          · rw [getD_set_ne true e0] at he
            have h3 := List.all_eq_true.1 hsl i (List.mem_range.2 hik)
            rw [Bool.or_eq_true, decide_eq_true_eq, ho] at h3
            have h4 : o'.dst ≠ some d := by
              rcases h3 with h3 | h3
              · exact absurd h3 e0
              · simpa using h3
            have h5 := hput he
            conv => rhs; rw [← h5]
            exact Act.put_comm a v u fun d' he1 he2 => h4 (by rw [he1, he2])
      · obtain ⟨hie, hlisted⟩ := float_waits hfl inv hi hik
        subst hie
        have hi00 : i0 = 0 := by
          rcases Nat.eq_zero_or_pos i0 with e | e
          · exact e
          · have := hlisted i0 e hi0
            rw [getD_both hu0] at this; cases this
        subst hi00
        have hf0 : f = 0 := by
          have h1 := nf_set hu0 i
          rw [if_pos hk0] at h1
          rcases Nat.eq_zero_or_pos (nf (A.setIfInBounds 0 true) i) with h2 | h2
          · omega
          · obtain ⟨j, hj, hju, _⟩ := nf_some h2
            rcases Nat.eq_zero_or_pos j with e | e
            · subst e; rw [getD_self hu0] at hju; cases hju
            · rw [getD_set_ne true (by omega)] at hju
              have := hlisted j e hj
              rw [getD_both hju] at this; cases this
        subst hf0
        obtain ⟨o, ho, hg0, _, hb0⟩ := headB_at hH hk0
        obtain rfl : o = o0 := by rw [hl0] at ho; exact (Option.some.inj ho).symm
        have hB0 : 0 ∈ Region.ready .any (l.take i).toArray B := mem_ready.2 ⟨by rw [← hT.same 0 hk0]; exact hu0, o, by simp [hk0, ho], fun e he hb' => by have := hb0 e he hb'; omega⟩
        have h1 := h.2 0 hB0
        unfold qOp at h1
        have h2 : (l.take i).toArray[0]? = some o := by simp [hk0, ho]
        rw [h2] at h1
        simp only [wanted_free hg0, if_true] at h1
        obtain ⟨v, _, hK⟩ := h1
        have h3 := (hK.2 w hw).2
        rw [hd0, put_same, hput hu0] at h3
        have hsz := hT.sizeA
        have hA1 : A.setIfInBounds i true = (#[false] ++ Array.replicate i true) ++ Array.replicate (l.length - i - 1) false := by
          apply Array.ext
          · simp [hsz]; omega
          · intro j h5 h6
            rw [Array.size_setIfInBounds, hsz] at h5
            have hj : j < A.size := by omega
            rw [Array.getElem_setIfInBounds (by simpa using hj)]
            by_cases e1 : i = j
            · subst e1
              rw [if_pos rfl, Array.getElem_append_left (by simp), Array.getElem_append_right (by simp; omega)]; simp
            · rw [if_neg e1]
              rcases Nat.lt_trichotomy j i with h7 | h7 | h7
              · rcases Nat.eq_zero_or_pos j with h8 | h8
                · subst h8
                  simp [hj] at hu0
                  rw [hu0, Array.getElem_append_left (by simp; omega), Array.getElem_append_left (by simp)]; simp
                · have := hlisted j h8 h7
                  simp [hj] at this
                  rw [this, Array.getElem_append_left (by simp; omega), Array.getElem_append_right (by simp; omega)]; simp
              · exact absurd h7.symm e1
              · have := inv.tail j (by omega) (by simpa using h5)
                simp [hj] at this
                rw [this, Array.getElem_append_right (by simp; omega)]; simp
        have hA2 : ((#[false] ++ Array.replicate i true) ++ Array.replicate (l.length - i - 1) false).setIfInBounds 0 true = Array.replicate (i + 1) true ++ Array.replicate (l.length - i - 1) false := by
          apply Array.ext
          · simp; omega
          · intro j h5 h6
            rw [Array.getElem_setIfInBounds (by simpa using h5)]
            by_cases e1 : 0 = j
            · subst e1
              rw [if_pos rfl, Array.getElem_append_left (by simp)]; simp
            · rw [if_neg e1]
              rcases Nat.lt_or_ge j (i + 1) with h7 | h7
              · rw [Array.getElem_append_left (by simp; omega), Array.getElem_append_right (by simp; omega), Array.getElem_append_left (by simp; omega)]; simp
              · rw [Array.getElem_append_right (by simp; omega), Array.getElem_append_right (by simp; omega)]; simp
        have last : ∀ a' w', wpListIn F n P l.toArray Q (l.drop (i + 1)) a' w' → wpAnyIn F n P .any l.toArray Q (l.drop (i + 1)).length (Array.replicate (i + 1) true ++ Array.replicate (l.length - i - 1) false) a' w' := fun a' w' h' =>
          wpAnyIn_seq (l.drop (i + 1)) (i + 1) _ a' w' (fun j => by simp [List.getElem?_drop]) hq2 h'
        have mid : ∀ a' w', wpListIn F n P l.toArray Q (o :: l.drop (i + 1)) a' w' → wpAnyIn F n P .any l.toArray Q (0 + (l.drop i).length) (A.setIfInBounds i true) a' w' := fun a' w' h' => by
          rw [Nat.zero_add, hgl, hA1]
          refine ⟨fun e => (by rw [hq1] at e; cases e), fun j hj => ?_⟩
          obtain rfl : j = 0 := by rw [hq1] at hj; simpa using hj
          refine wpOpIn_mono (K := wpListIn F n P l.toArray Q (l.drop (i + 1))) (fun a2 w2 h2 => by rw [hA2]; exact last a2 w2 h2) ?_
          unfold wpOpIn
          rw [show l.toArray[0]? = some o by simpa using ho]
          exact h'
        refine wpOpIn_mono mid ?_
        unfold wpOpIn
        rw [show l.toArray[i]? = some ok by simpa using hlk]
        exact h3

/-- The region by two walks: the first k operations quietly, then the others; or the first one of them behind operation k. -/
theorem wpIn_region_float {id : Nat} {Q : Exit → Act → World → Prop} {a : Act} {w : World} {l : List Oper} (hF : Lets P F) (k : Nat) (d : Tmp) (o0 ok : Oper) (u : Value) (hm : P.follows .mixedOrders = true)
    (hl0 : l[0]? = some o0) (hlk : l[k]? = some ok) (hd0 : o0.dst = some d) (hu : a.put (some d) u = a)
    (hB : (decide (0 < k) && headB l k && floatB l k && slotB l k d && Region.seqB .any l.toArray (l.drop k).length k (Array.replicate k true ++ Array.replicate (l.length - k) false) && decide (Region.ready .any l.toArray ((#[false] ++ Array.replicate k true) ++ Array.replicate (l.length - k - 1) false) = [0]) && Region.seqB .any l.toArray (l.drop (k + 1)).length (k + 1) (Array.replicate (k + 1) true ++ Array.replicate (l.length - k - 1) false) && Region.noSelect (l.take k).toArray && Region.lexFrom .any (l.take k).toArray k 0 (Array.replicate k false)) = true)
    (hC : C w.drew) (h : wpQuiet P (l.take k).toArray C (fun a' => ∀ w', C w' → wpListIn F n P l.toArray Q (l.drop k) a' w' ∧ wpListIn F n P l.toArray Q (ok :: o0 :: l.drop (k + 1)) (a'.put (some d) u) w') (l.take k) a) : (Code.region id l.toArray true).wpIn F n P Q a w := by
  simp only [Bool.and_eq_true, decide_eq_true_eq] at hB
  obtain ⟨⟨⟨⟨⟨⟨⟨⟨hk0, hH⟩, hfl⟩, hsl⟩, hq⟩, hq1⟩, hq2⟩, hn⟩, hx⟩ := hB
  have hk : k < l.length := (List.getElem?_eq_some_iff.1 hlk).1
  have htl : (l.take k).length = k := by rw [List.length_take]; omega
  have H := wpAnyQ_lex (C := C) (md := .any) hn (l.take k) 0 (Array.replicate k false) a (fun j => by simp) (by rw [htl]; exact hx) h
  rw [htl] at H
  refine wpIn_region_any hm ?_
  have hrep : ∀ (m i : Nat) (d : Bool), i < m → (Array.replicate m false).getD i d = false := fun m i d hi => by simp [hi]
  have := head_float (F := F) (n := n) hF hk0 hl0 hlk hd0 hH hfl hsl hq hq1 hq2 k (Array.replicate l.toArray.size false) (Array.replicate k false) a w.drew
    ⟨by simp, by simp, fun i hi d => by rw [hrep _ _ _ (by simp; omega), hrep _ _ _ hi]⟩
    ⟨by simp, fun j oj _ hl => (by rw [getD_replicate_false] at hl; cases hl), fun t _ ht => hrep _ _ _ ht⟩ ?_ hC (fun _ => hu) H
  · have e : k + (l.drop k).length = l.toArray.size := by simp; omega
    rw [e] at this
    exact this
  · have : ∀ m, m ≤ l.toArray.size → nf (Array.replicate l.toArray.size false) m = m := by
      intro m
      induction m with
      | zero => intro _; rfl
      | succ m ih => intro hm; rw [nf_succ, ih (by omega), hrep _ _ _ (by omega)]; rfl
    exact this k (by simp; omega)
end
end Go.Proofs.YtlfncplldppncaaDoor

/-
  Contract of letterbeckref2.Apart: whether each text is of words in at most one way. Conditions: words as they are let in.
-/
namespace Go.Proofs.YtlfncplldppncaaDoor
open Go.RowKit

theorem str_line : (Tryd.prog.info? 9).map (fun i => (i.zero, i.size, i.bytes)) = some (some (.string ByteArray.empty), 1, 16) := by kernel_rfl
theorem OwnS.down {w w' : World} {base B : Nat} {e : TypeId} {v : Value} {ws : List ByteArray} (h : OwnS w base e v ws) (hb : Below B w w') (hB : w.heap.size ≤ B) : OwnS w' base e v ws := by
  refine ⟨h.1, ?_⟩
  have hlt := fun b => World.ownsRow.lt h b
  rcases h.2 with h' | ⟨g, cap, cur, h1, h2, h3, h4⟩
  · exact .inl h'
  · subst h1
    exact .inr ⟨g, cap, cur, rfl, h2, by rw [hb.block g (by have := (hlt g rfl).2; omega)]; exact h3, h4⟩
theorem wl_nth {ws : List ByteArray} {i : Nat} (hi : i < ws.length) : (wl ws).getD i [] = bs (wat ws i) := wl_getD hi

set_option maxRecDepth 100000 in
set_option maxHeartbeats 4000000 in
theorem rapart_any (A : Option Addr) (n c : Nat) (ws : List ByteArray) (w : World) (hf : Fine ws) (h : IsStrs w w.heap.size A n ws) :
    Calls Tryd.prog 17 #[.slice A n c] w fun e w' => ((UD (wl ws) ∧ e = .returned (.bool true)) ∨ (¬ UD (wl ws) ∧ e = .returned (.bool false))) ∧ Below w.heap.size w w' := by
  obtain ⟨i0, hi, hz0, hz1, hz2⟩ := info_parts str_line
  have hwl : ws.length = n := h.1
  have h6 : n ≤ 6 := by rw [← hwl]; exact hf.1
  have HI := hid h
  have HN := hid hwl
  have HWl := hid (show (wl ws).length = n by rw [wl_len]; exact hwl)
  have HF := hid hf
  have HSz : Hid (∀ i, i < n → (wat ws i).size ≤ 8) := hid (fun i hi => (hf.2 i (by omega)).1)
  have HX : Hid (0 < n → ∃ g off, A = some ⟨g, off, none⟩ ∧ g < w.heap.size ∧ ∀ i, i < n → w.cell? ⟨g, off + i, none⟩ = some (.string (wat ws i))) := hid (fun h0 => h.2 h0)
  have HW : Hid (∀ i, i < n → (wl ws).getD i [] = bs (wat ws i)) := hid (fun i hi => wl_getD (by omega))
  clear h hwl hf
  go_enter Tryd.func17, Tryd.ntmps17
  go_wp2_with fail
  go_loopw [3, 4] (fun v x wr => ∃ i : Nat, i ≤ n ∧ x = .int .i64 i ∧ Hid (∃ l, St1 (wl ws) l i 0 ∧ OwnS wr w.heap.size 9 v l) ∧ Below w.heap.size w wr) (fun _ x _ => n - (intOf x).toNat)
  case atStart => exact ⟨0, by omega, rfl, hid ⟨[], st1_nil _, OwnS.nil _ _ _⟩, Below.refl _ _⟩
  case round =>
    obtain ⟨i, hin, rfl, HO, hb⟩ := hrel
    by_cases hlt : i < n
    · obtain ⟨g, off, rfl, hg, hc⟩ := HX.out (by omega)
      have i1 : (i : Int) < (n : Int) := by omega
      go_wp2_with fail
      obtain ⟨wy, rfl⟩ : ∃ q, q = wr := ⟨_, rfl⟩
      go_loopw [3, 5] (fun v x wr => ∃ k : Nat, k ≤ n ∧ x = .int .i64 k ∧ Hid (∃ l, St1 (wl ws) l i k ∧ OwnS wr w.heap.size 9 v l) ∧ Below w.heap.size w wr) (fun _ x _ => n - (intOf x).toNat)
      case atStart => exact ⟨0, by omega, rfl, HO, hb⟩
      case round =>
        clear HO hb
        obtain ⟨k, hkn, rfl, HO, hb⟩ := hrel
        have hsz := hb.size
        by_cases hlk : k < n
        · have c1 := (hb.cell (p := ⟨g, off + i, none⟩) hg).trans (hc i hlt)
          have c2 := (hb.cell (p := ⟨g, off + k, none⟩) hg).trans (hc k hlk)
          have k1 : (k : Int) < (n : Int) := by omega
          have s1 := HSz.out i hlt
          have s2 := HSz.out k hlk
          have e1 := HW.out i hlt
          have e2 := HW.out k hlk
          obtain ⟨l, hS, hO⟩ := HO.out
          have HS := hid hS
          have HOw := hid hO
          have hll : l.length ≤ 1099511627776 := by have := hS.few; omega
          clear hS hO HO
          by_cases hik : i = k
          · have HS2 := hid (st1_no HS.out (.inl hik))
            have hne : ((i : Int) != (k : Int)) = false := by simp [hik]
            clear hik e1 e2 s1 s2
            go_wp2_with fail
            go_quiet (fail)
            go_wp2_with fail
            go_roundw
            case rel => exact ⟨k + 1, by omega, by go_num, hid ⟨l, HS2.out, HOw.out.drewN _⟩, below_drewN hb _⟩
            case measure => simp [intOf]; omega
          · have hne : ((i : Int) != (k : Int)) = true := by simp; omega
            have HBg := fun W => hid (begins_any (wat ws i) (wat ws k) W (by omega) (by omega))
            by_cases hp : bs (wat ws k) <+: bs (wat ws i)
            · rw [begB_iff.2 hp] at HBg
              have hrs := rst_bs hp
              have HS2 := hid (st1_yes HS.out (by rw [HWl.out]; exact hlt) (by rw [HWl.out]; exact hlk) hik (a := rst (wat ws i) (wat ws k)) (by rw [e1, e2]; exact hrs))
              have hle := hp.length_le
              rw [bs_len, bs_len] at hle
              have hcut : ∀ W : World, Sem.run Tryd.prog (Instr.slice 9 (.string (wat ws i)) (some (.int .i64 ((wat ws k).size : Int))) none none) W = .ok (.string (rst (wat ws i) (wat ws k))) W := fun W =>
                run_slice_string_l W 9 (wat ws i) Tryd.underlying9 .i64 ((wat ws k).size : Int) (by omega) (by omega)
              generalize rst (wat ws i) (wat ws k) = X at HS2 hcut
              generalize wat ws i = X1 at c1 HBg hcut
              generalize wat ws k = X2 at c2 HBg hcut
              clear hp hrs hle e1 e2 s1 s2 hik
              go_wp2_with fail
              go_quiet ((go_at_call 14; exact Calls.quiet_of_same (HBg _).out))
              go_wp2_with fail
              generalize hw5 : World.drewN wr _ = w5
              have d1 : w5.cell? ⟨g, off + i, none⟩ = some (.string X1) := by rw [← hw5]; exact c1
              have d2 : w5.cell? ⟨g, off + k, none⟩ = some (.string X2) := by rw [← hw5]; exact c2
              have hb5 : Below w.heap.size w w5 := by rw [← hw5]; exact below_drewN hb _
              have HO5 : Hid (OwnS w5 w.heap.size 9 u3 l) := hid (by rw [← hw5]; exact HOw.out.drewN _)
              clear hw5 c1 c2 hb HOw HBg
              refine (wpIn_wide (n := 1)).1 ?_
              refine wpIn_region_float (C := fun w' => ∃ q, w' = w5.drewN q) (lets_wide _) 11 37 _ _ _ (by kernel_rfl) rfl rfl rfl rfl (by kernel_rfl) ⟨1, rfl⟩ ?_
              simp only [List.take_succ_cons, List.take_zero, List.drop_succ_cons, List.drop_zero]
              repeat (quiet_step (fail))
              refine wpQuiet_nil ?_
              rintro _ ⟨q, rfl⟩
              obtain ⟨W1, hW1⟩ : ∃ z, z = w5.drewN q := ⟨_, rfl⟩
              have hv1 : OwnS W1 w.heap.size 9 u3 l := by rw [hW1]; exact HO5.out.drewN q
              have hb2 : Below w.heap.size w W1 := by rw [hW1]; exact below_drewN hb5 q
              rw [← hW1]
              clear hW1 HO5 hcut hb5 d1 d2
              have hrow : W1.ownsRow w.heap.size 9 1 _ l.length (l.map Value.string) := hv1
              have fin : ∀ (tmp : Obj) (v' : Value) (w3 : World), w3.ownsRow w.heap.size 9 1 v' (l.length + 1) (l.map Value.string ++ [.string X]) → (W1.alloc tmp).grownBy w3 (Value.ownBlock u3) → OwnS w3 w.heap.size 9 v' (l ++ [X]) ∧ Below w.heap.size w w3 := fun tmp v' w3 hown' hgrow =>
                ⟨OwnS.mk_ (by rw [List.length_append, List.map_append]; exact hown'), hb2.trans (((Below.refl w.heap.size W1).alloc hb2.size tmp).grown hgrow (by have := hb2.size; simp; omega) fun b hb => (World.ownsRow.lt hv1 b hb).1)⟩
              clear hv1
              refine ⟨?_, ?_⟩
              · gi_wp2_with (gi_at_builtin; refine wpListIn_append_own _ rfl _ _ 23 rfl w.heap.size 9 i0 (.string ByteArray.empty) 1 16 Tryd.underlying23 hi hz0 hz1 hz2 rfl (by decide) _ _ _ rfl (hrow.alloc _) ⟨W1.heap.size, 0, none⟩ 1 1 [.string X] rfl rfl (cell_one_new _ _ _) (by simp [Value.oneCell']) (by unfold maxLen; omega) (by omega) (by have := hb2.size; simp; omega) ?_; intro v' w3 hown' hgrow _; have HFi := hid (fin _ _ _ hown' hgrow); clear hown' hgrow)
                go_wp2_with fail
                go_roundw
                case rel => exact ⟨k + 1, by omega, by go_num, hid ⟨_, HS2.out, HFi.out.1⟩, HFi.out.2⟩
                case measure => simp [intOf]; omega
              · gi_wp2_with (gi_at_builtin; refine wpListIn_append_own _ rfl _ _ 23 rfl w.heap.size 9 i0 (.string ByteArray.empty) 1 16 Tryd.underlying23 hi hz0 hz1 hz2 rfl (by decide) _ _ _ rfl (hrow.alloc _) ⟨W1.heap.size, 0, none⟩ 1 1 [.string X] rfl rfl (cell_one_new _ _ _) (by simp [Value.oneCell']) (by unfold maxLen; omega) (by omega) (by have := hb2.size; simp; omega) ?_; intro v' w3 hown' hgrow _; have HFi := hid (fin _ _ _ hown' hgrow); clear hown' hgrow)
                go_wp2_with fail
                go_roundw
                case rel => exact ⟨k + 1, by omega, by go_num, hid ⟨_, HS2.out, HFi.out.1⟩, HFi.out.2⟩
                case measure => simp [intOf]; omega
            · rw [begB_no hp] at HBg
              have HS2 := hid (st1_no HS.out (.inr (by rw [e1, e2]; exact hp)))
              generalize wat ws i = X1 at c1 HBg
              generalize wat ws k = X2 at c2 HBg
              clear hp e1 e2 s1 s2 hik
              go_wp2_with fail
              go_quiet ((go_at_call 14; exact Calls.quiet_of_same (HBg _).out))
              go_wp2_with fail
              go_roundw
              case rel => exact ⟨k + 1, by omega, by go_num, hid ⟨l, HS2.out, HOw.out.drewN _⟩, below_drewN hb _⟩
              case measure => simp [intOf]; omega
        · obtain rfl : k = n := by omega
          have HO2 : Hid (∃ l, St1 (wl ws) l (i + 1) 0 ∧ OwnS wr w.heap.size 9 _ l) := hid (by
            obtain ⟨l, h1, h2⟩ := HO.out
            exact ⟨l, st1_row (by rw [HWl.out]; exact h1) (by rw [HWl.out]; exact h6), h2⟩)
          clear HO
          go_wp2_with fail
          go_roundw
          case rel => exact ⟨i + 1, by omega, by go_num, HO2, hb⟩
          case measure => simp [intOf]; omega
    · obtain rfl : i = n := by omega
      have HO2 : Hid (∃ l, St2 (wl ws) l 0 0 ∧ OwnS wr w.heap.size 9 u3 l) := hid (by
        obtain ⟨l, h1, h2⟩ := HO.out
        exact ⟨l, st2_start (by rw [HWl.out]; exact h1) (by rw [HWl.out]; exact h6), h2⟩)
      clear HO hin hlt
      go_wp2_with fail
      obtain ⟨wy, rfl⟩ : ∃ q, q = wr := ⟨_, rfl⟩
      go_loopw [3, 6] (fun v x wr => ∃ m : Nat, m ≤ 96 ∧ x = .int .i64 m ∧ Hid (∃ l, m ≤ l.length ∧ St2 (wl ws) l m 0 ∧ OwnS wr w.heap.size 9 v l) ∧ Below w.heap.size w wr) (fun _ x _ => 97 - (intOf x).toNat)
      case atStart => exact ⟨0, by omega, rfl, hid (by obtain ⟨l, h1, h2⟩ := HO2.out; exact ⟨l, by omega, h1, h2⟩), hb⟩
      case round =>
        clear HO2 hb
        obtain ⟨m, hm96, rfl, HO, hb⟩ := hrel
        obtain ⟨l, hml, hS, hO⟩ := HO.out
        have hlen : l.length ≤ 96 := st2_few hS (by rw [HWl.out]; exact h6) (fun x hx => by
          have := (fine_wl HF.out).2 x hx
          exact this.1)
        obtain ⟨A2, c2, rfl, hI⟩ := hO.strs
        by_cases hlt : m < l.length
        · obtain ⟨g2, off2, rfl, hg2, hc2⟩ := hI.2 (by omega)
          have c1 : wr.cell? ⟨g2, off2 + m, none⟩ = some (.string (l.getD m ByteArray.empty)) := hc2 m hlt
          have HS := hid hS
          have HOw := hid hO
          have HDa : Hid (Dang (wl ws) (bs (l.getD m ByteArray.empty))) := hid (hS.sound _ (by rw [List.getD_eq_getElem?_getD, List.getElem?_eq_getElem hlt]; exact List.getElem_mem hlt))
          obtain ⟨N2, hN2⟩ : ∃ N2, N2 = l.length := ⟨_, rfl⟩
          have HN2 := hid hN2
          rw [← hN2] at hlt hlen ⊢
          rw [← hN2] at HOw
          clear hN2 hS hO HO hI hc2 hml
          have m1 : (m : Int) < (N2 : Int) := by omega
          by_cases h0 : (l.getD m ByteArray.empty).size = 0
          · have HU := hid (st2_void HS.out (by rw [← HN2.out]; exact hlt) h0)
            generalize l.getD m ByteArray.empty = a at c1 h0
            clear HS HOw HDa
            go_wp2_with fail
            go_ret
            exact ⟨.inr ⟨HU.out, rfl⟩, hb⟩
          · obtain ⟨a, ha⟩ : ∃ a, a = l.getD m ByteArray.empty := ⟨_, rfl⟩
            rw [← ha] at c1 h0 HDa
            have HSt : Hid (∃ l', m < l'.length ∧ l'.getD m ByteArray.empty = a ∧ St2 (wl ws) l' m 0 ∧ OwnS wr w.heap.size 9 (.slice (some ⟨g2, off2, none⟩) N2 c2) l') := hid ⟨l, by rw [← HN2.out]; exact hlt, ha.symm, HS.out, HOw.out⟩
            have has : a.size ≤ 8 := by
              obtain ⟨j, hj, p, e⟩ := dang_end_of HDa.out
              rw [HWl.out] at hj
              have h1 := HSz.out j hj
              rw [HW.out j hj] at e
              have h2 := congrArg List.length e
              rw [List.length_append, bs_len, bs_len] at h2
              omega
            have z1 : ¬ ((a.size : Int) = 0) := by omega
            have z2 : ((a.size : Int) == 0) = false := by simpa using h0
            clear ha HS HOw HDa HN2 l
            go_wp2_with fail
            clear c1
            obtain ⟨wz, rfl⟩ : ∃ q, q = wr := ⟨_, rfl⟩
            go_loopw [3, 8] (fun v x wr => ∃ j : Nat, j ≤ i ∧ x = .int .i64 j ∧ Hid (∃ l', m < l'.length ∧ l'.getD m ByteArray.empty = a ∧ St2 (wl ws) l' m j ∧ OwnS wr w.heap.size 9 v l') ∧ Below w.heap.size w wr) (fun _ x _ => i - (intOf x).toNat)
            case atStart => exact ⟨0, by omega, rfl, HSt, hb⟩
            case round =>
              clear HSt hb
              obtain ⟨j, hji, rfl, HSt, hb⟩ := hrel
              obtain ⟨l, hml, hla, hS, hO⟩ := HSt.out
              have hsz := hb.size
              by_cases hlj : j < i
              · obtain ⟨g, off, rfl, hg, hc⟩ := HX.out (by omega)
                have c1 := (hb.cell (p := ⟨g, off + j, none⟩) hg).trans (hc j hlj)
                have hl96 : l.length ≤ 96 := st2_few hS (by rw [HWl.out]; exact h6) (fun x hx => ((fine_wl HF.out).2 x hx).1)
                have s1 := HSz.out j hlj
                have e1 := HW.out j hlj
                have j1 : (j : Int) < (i : Int) := by omega
                obtain ⟨A3, c3, rfl, hI⟩ := hO.strs
                have HS := hid hS
                have HOw := hid hO
                have HIs := hid hI
                have hll : l.length ≤ 1099511627776 := by omega
                clear hS hO hI HSt hc
                have HB1 := fun W => hid (begins_any (wat ws j) a W (by omega) (by omega))
                have HB2 := fun W => hid (begins_any a (wat ws j) W (by omega) (by omega))
                have HNx : Hid (∀ r : ByteArray, (bs (wat ws j) = bs a ++ bs r ∨ bs a = bs (wat ws j) ++ bs r) → (r ∈ l → St2 (wl ws) l m (j + 1)) ∧ (r ∉ l → St2 (wl ws) (l ++ [r]) m (j + 1) ∧ m < (l ++ [r]).length ∧ (l ++ [r]).getD m ByteArray.empty = a)) := hid (fun r hr => by
                  rw [← e1] at hr
                  refine ⟨fun hm => st2_old HS.out (fun _ => by rw [hla]; exact shut_in hr hm), fun hm => ⟨st2_new HS.out hml (by rw [HWl.out]; exact hlj) (by rw [hla]; exact hr) hm, by rw [List.length_append]; omega, by rw [getD_more l [r] hml]; exact hla⟩⟩)
                have HNo : Hid (¬ bs a <+: bs (wat ws j) → ¬ bs (wat ws j) <+: bs a → St2 (wl ws) l m (j + 1)) := hid (fun h1 h2 => st2_old HS.out (fun _ => by rw [hla]; exact shut_no (by rw [e1]; exact h1) (by rw [e1]; exact h2)))
                have HMl := hid (show m < l.length ∧ l.getD m ByteArray.empty = a from ⟨hml, hla⟩)
                have HHs := fun (s : ByteArray) (W : World) (hW : IsStrs W W.heap.size A3 l.length l) => hid (rhas_any A3 l.length c3 l s W (by omega) hW)
                clear HS e1 hml hla
                by_cases hp1 : bs a <+: bs (wat ws j)
                focus
                  rw [begB_iff.2 hp1] at HB1
                  have hNx := HNx.out (rst (wat ws j) a) (.inl (rst_bs hp1))
                  have hle := hp1.length_le
                  rw [bs_len, bs_len] at hle
                  have hcut : ∀ W : World, Sem.run Tryd.prog (Instr.slice 9 (.string (wat ws j)) (some (.int .i64 (a.size : Int))) none none) W = .ok (.string (rst (wat ws j) a)) W := fun W =>
                    run_slice_string_l W 9 (wat ws j) Tryd.underlying9 .i64 (a.size : Int) (by omega) (by omega)
                  generalize rst (wat ws j) a = X at hNx hcut
                  have HNy := hid hNx
                  have hcs : (wat ws j).size ≤ 8 := s1
                  generalize wat ws j = X1 at c1 HB1 hcut
                  clear hp1 hNx hle HNx HNo HB2 s1
                  go_wp2_with fail
                  refine (HB1 _).out.mono ?_
                  rintro e w5 ⟨rfl, hw5⟩
                  subst w5
                  go_wp2_with fail
                rotate_left
                by_cases hp2 : bs (wat ws j) <+: bs a
                focus
                  rw [begB_no hp1] at HB1
                  rw [begB_iff.2 hp2] at HB2
                  have hNx := HNx.out (rst a (wat ws j)) (.inr (rst_bs hp2))
                  have hle := hp2.length_le
                  rw [bs_len, bs_len] at hle
                  have hcut : ∀ W : World, Sem.run Tryd.prog (Instr.slice 9 (.string a) (some (.int .i64 ((wat ws j).size : Int))) none none) W = .ok (.string (rst a (wat ws j))) W := fun W =>
                    run_slice_string_l W 9 a Tryd.underlying9 .i64 ((wat ws j).size : Int) (by omega) (by omega)
                  generalize rst a (wat ws j) = X at hNx hcut
                  have HNy := hid hNx
                  have hcs : (wat ws j).size ≤ 8 := s1
                  generalize wat ws j = X1 at c1 HB1 HB2 hcut
                  clear hp1 hp2 hNx hle HNx HNo s1
                  go_wp2_with fail
                  refine (HB1 _).out.mono ?_
                  rintro e w5 ⟨rfl, hw5⟩
                  subst w5
                  go_wp2_with fail
                  refine (HB2 _).out.mono ?_
                  rintro e w5 ⟨rfl, hw5⟩
                  subst w5
                  go_wp2_with fail
                  clear HB2
                rotate_left
                focus
                  rw [begB_no hp1] at HB1
                  rw [begB_no hp2] at HB2
                  have HS2 := hid (HNo.out hp1 hp2)
                  generalize wat ws j = X1 at c1 HB1 HB2
                  clear hp1 hp2 HNx HNo s1 HHs
                  go_wp2_with fail
                  refine (HB1 _).out.mono ?_
                  rintro e w5 ⟨rfl, hw5⟩
                  subst w5
                  go_wp2_with fail
                  refine (HB2 _).out.mono ?_
                  rintro e w5 ⟨rfl, hw5⟩
                  subst w5
                  go_wp2_with fail
                  go_roundw
                  case rel => exact ⟨j + 1, by omega, by go_num, hid ⟨l, HMl.out.1, HMl.out.2, HS2.out, HOw.out⟩, hb⟩
                  case measure => simp [intOf]; omega
                all_goals (
                  refine (HHs X _ HIs.out).out.mono ?_
                  rintro e w5 ⟨h, hw5⟩
                  subst w5
                  clear hcut HB1
                  rcases h with ⟨hm, rfl⟩ | ⟨hm, rfl⟩
                  · have HS2 := hid (HNy.out.1 hm)
                    clear hm HNy HHs
                    go_wp2_with fail
                    go_roundw
                    case rel => exact ⟨j + 1, by omega, by go_num, hid ⟨l, HMl.out.1, HMl.out.2, HS2.out, HOw.out⟩, hb⟩
                    case measure => simp [intOf]; omega
                  · have HS2 := hid (HNy.out.2 hm)
                    clear hm HNy HHs
                    go_wp2_with (at_builtin; refine wpList_append_str _ rfl (.tmp 102) (.tmp 104) 23 rfl w.heap.size 9 i0 Tryd.underlying23 hi hz0 hz1 hz2 _ l rfl HOw.out X rfl hll hsz ?_)
                    intro v' w7 hown7 hb7
                    have HO7 := hid hown7
                    clear hown7
                    go_wp2_with fail
                    go_roundw
                    case rel => exact ⟨j + 1, by omega, by go_num, hid ⟨_, HS2.out.2.1, HS2.out.2.2, HS2.out.1, HO7.out⟩, hb.trans hb7⟩
                    case measure => simp [intOf]; omega)
              · obtain rfl : j = i := by omega
                have HO2 : Hid (∃ l', m + 1 ≤ l'.length ∧ St2 (wl ws) l' (m + 1) 0 ∧ OwnS wr w.heap.size 9 _ l') := hid ⟨l, by omega, st2_row (by rw [HWl.out]; exact hS) (by rw [hla]; omega), hO⟩
                have hm95 : m + 1 ≤ 96 := by
                  have := st2_few hS (by rw [HWl.out]; exact h6) (fun x hx => ((fine_wl HF.out).2 x hx).1)
                  omega
                clear HSt hS hO hla hml
                go_wp2_with fail
                go_roundw
                case rel => exact ⟨m + 1, hm95, by go_num, HO2, hb⟩
                case measure => simp [intOf]; omega
        · have hml2 : m = l.length := by omega
          have HU : Hid (UD (wl ws)) := hid (st2_end (by rw [← hml2]; exact hS) (by
            have h1 := fine_wl HF.out
            exact ⟨h1.1, fun x hx e => by have := (h1.2 x hx).2; rw [e] at this; simp at this⟩))
          generalize l.length = N2 at hlt hlen hml hI hml2 ⊢
          have m1 : ¬ ((m : Int) < (N2 : Int)) := by omega
          clear hS hO HO hI hml2
          go_wp2_with fail
          go_ret
          exact ⟨.inl ⟨HU.out, rfl⟩, hb⟩
end Go.Proofs.YtlfncplldppncaaDoor
