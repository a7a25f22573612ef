/-
  A trie in memory: nodes and their maps, kept by whatever leaves them alone, with one word's place set, with one node more. No condition.
-/
import Derived.Test.YtdkbgikniacekaaBase
import Derived.Test.YtdkbgikniacekaaStrs
import Derived.Test.YtdkbgikniacekaaMaps
namespace Go.Proofs.Ytdkbgikniacekaa
open Go.RowKit Go.Maps

/-! ### Which nodes there are -/
def nodeB (W : List Wd) (p : List UInt8) : Bool := p.isEmpty || !(subs p W).isEmpty
/-- The nodes of the words W, and of the first k signs of the word x. -/
def sk (W : List Wd) (x : List UInt8) (k : Nat) (p : List UInt8) : Bool := nodeB W p || (p.isPrefixOf x && decide (p.length ≤ k))
theorem sk_zero (W : List Wd) (x : List UInt8) : sk W x 0 = nodeB W := by
  funext p
  cases p with
  | nil => simp [sk, nodeB]
  | cons c p => simp [sk]
theorem pre_take {p x : List UInt8} (h : p <+: x) : p = x.take p.length := (List.prefix_iff_eq_take.1 h)
theorem sk_succ (W : List Wd) {x : List UInt8} {k : Nat} (hk : k < x.length) : sk W x (k + 1) = fun q => sk W x k q || decide (q = x.take (k + 1)) := by
  funext p
  rw [Bool.eq_iff_iff]
  simp only [sk, Bool.or_eq_true, Bool.and_eq_true, List.isPrefixOf_iff_prefix, decide_eq_true_eq]
  constructor
  · rintro (h | ⟨h, hl⟩)
    · exact .inl (.inl h)
    · by_cases e : p.length = k + 1
      · exact .inr (by have := pre_take h; rw [e] at this; exact this)
      · exact .inl (.inr ⟨h, by omega⟩)
  · rintro ((h | ⟨h, hl⟩) | rfl)
    · exact .inl h
    · exact .inr ⟨h, by omega⟩
    · exact .inr ⟨List.take_prefix _ _, by rw [List.length_take]; omega⟩
theorem sk_at (W : List Wd) {x : List UInt8} {k : Nat} : sk W x k (x.take k) = true := by
  simp only [sk, Bool.or_eq_true, Bool.and_eq_true, List.isPrefixOf_iff_prefix, decide_eq_true_eq]
  exact .inr ⟨List.take_prefix _ _, by rw [List.length_take]; omega⟩
theorem sk_next (W : List Wd) {x : List UInt8} {k : Nat} (hk : k < x.length) : sk W x k (x.take (k + 1)) = nodeB W (x.take (k + 1)) := by
  have : decide ((x.take (k + 1)).length ≤ k) = false := by rw [List.length_take, decide_eq_false_iff_not]; omega
  simp only [sk, this, Bool.and_false, Bool.or_false]
theorem sk_end (W : List Wd) (x : List UInt8) (i : Nat) : sk W x x.length = nodeB (W ++ [(x, i)]) := by
  funext p
  rw [Bool.eq_iff_iff]
  simp only [sk, nodeB, Bool.or_eq_true, Bool.and_eq_true, List.isPrefixOf_iff_prefix, decide_eq_true_eq, List.isEmpty_iff, Bool.not_eq_true', List.isEmpty_eq_false_iff, subs_append]
  by_cases h : p <+: x
  · obtain ⟨r, rfl⟩ := h
    rw [subs_one_yes]
    simp
  · rw [subs_one_no h]
    simp [h]
theorem wd_snoc_other {L : List Wd} {r : List UInt8} {i : Nat} (h : r ≠ []) : wd (L ++ [(r, i)]) = wd L := by
  unfold wd
  rw [List.find?_append]
  cases hf : L.find? (fun p => p.1.isEmpty) with
  | some p => rfl
  | none => simp [h]
theorem wd_snoc_new {L : List Wd} {i : Nat} (h : ∀ j, ([], j) ∉ L) : wd (L ++ [([], i)]) = i := by
  have hf : L.find? (fun p => p.1.isEmpty) = none := by
    rw [List.find?_eq_none]
    rintro ⟨x, j⟩ hm he
    have : x = [] := by simpa using he
    subst this
    exact h j hm
  unfold wd
  rw [List.find?_append, hf]
  simp
theorem wd_set {W : List Wd} {x : List UInt8} {i : Nat} (h : ∀ j, (x, j) ∉ W) : (fun q => if q = x then (i : Int) else wd (subs q W)) = fun q => wd (subs q (W ++ [(x, i)])) := by
  funext q
  rw [subs_append]
  by_cases hq : q <+: x
  · obtain ⟨r, rfl⟩ := hq
    rw [subs_one_yes]
    by_cases hr : r = []
    · subst hr
      rw [if_pos (by simp), wd_snoc_new]
      intro j hj
      exact h j (mem_subs.1 hj)
    · rw [if_neg (by simpa using fun e => hr e), wd_snoc_other hr]
  · rw [subs_one_no hq, List.append_nil, if_neg]
    rintro rfl
    exact hq (List.prefix_refl _)
theorem wd_fresh {W : List Wd} {p : List UInt8} (h : nodeB W p = false) : wd (subs p W) = -1 := by
  have : subs p W = [] := by
    simp only [nodeB, Bool.or_eq_false_iff, Bool.not_eq_false', List.isEmpty_iff] at h
    exact h.2
  rw [this]; rfl
theorem nodeB_kid {W : List Wd} {p : List UInt8} {c : UInt8} : nodeB W (p ++ [c]) = !(kid c (subs p W)).isEmpty := by
  rw [nodeB, subs_snoc]; simp
theorem nodeB_closed {W : List Wd} {p : List UInt8} {c : UInt8} (h : nodeB W (p ++ [c]) = true) : nodeB W p = true := by
  rw [nodeB_kid] at h
  simp only [nodeB, Bool.or_eq_true]
  right
  cases e : subs p W with
  | nil => rw [e] at h; simp [kid] at h
  | cons => rfl
theorem nodeB_root (W : List Wd) : nodeB W [] = true := rfl

/-! ### In memory -/
/-- The map's datum D leads from the node p to the nodes of one sign more. -/
def Kids (D : DataW Unit) (S : List UInt8 → Bool) (B : List UInt8 → Nat) (p : List UInt8) : Prop :=
  IsMap D ∧ ∀ c : UInt8, Maps.has D (keyL c) = S (p ++ [c]) ∧ (S (p ++ [c]) = true → ∀ z, D.atKey (keyL c) z = .lit (.int .i64 (B (p ++ [c]) : Int)))
structure Tr (w : World) (base top N : Nat) (S : List UInt8 → Bool) (X : List UInt8 → Int) (B C : List UInt8 → Nat) : Prop where
  root : S [] = true
  closed : ∀ p c, S (p ++ [c]) = true → S p = true
  cell : ∀ p, S p = true → w.heap[B p]? = some (.cells #[.int .i64 (X p), .map (some (C p))] 89 (0, 0))
  map : ∀ p, S p = true → ∃ D, w.ownsMap Try.prog 5 ptrE (C p) N D ∧ Kids D S B p
  inj : ∀ p q, S p = true → S q = true → B p = B q → p = q
  injC : ∀ p q, S p = true → S q = true → C p = C q → p = q
  lo : ∀ p, S p = true → base ≤ B p ∧ base ≤ C p
  hi : ∀ p, S p = true → B p < top ∧ C p < top
  le : top ≤ w.heap.size
theorem ownsMap_block {w w' : World} {b n : Nat} {D : DataW Unit} (h : w.ownsMap Try.prog 5 ptrE b n D) (e : w'.heap[b]? = w.heap[b]?) : w'.ownsMap Try.prog 5 ptrE b n D := by
  obtain ⟨es, clock, hb, r⟩ := h
  exact ⟨es, clock, e.trans hb, r⟩
theorem Tr.below {w w' : World} {base top N : Nat} {S : List UInt8 → Bool} {X : List UInt8 → Int} {B C : List UInt8 → Nat} (h : Tr w base top N S X B C) (hb : Below top w w') : Tr w' base top N S X B C where
  root := h.root
  closed := h.closed
  cell p hp := (hb.block _ (h.hi p hp).1).trans (h.cell p hp)
  map p hp := by
    obtain ⟨D, hm, hk⟩ := h.map p hp
    exact ⟨D, ownsMap_block hm (hb.block _ (h.hi p hp).2), hk⟩
  inj := h.inj
  injC := h.injC
  lo := h.lo
  hi := h.hi
  le := Nat.le_trans h.le hb.size
theorem Tr.mono {w : World} {base top N N' : Nat} {S : List UInt8 → Bool} {X : List UInt8 → Int} {B C : List UInt8 → Nat} (h : Tr w base top N S X B C) (hN : N ≤ N') : Tr w base top N' S X B C where
  root := h.root
  closed := h.closed
  cell := h.cell
  map p hp := by
    obtain ⟨D, hm, hk⟩ := h.map p hp
    exact ⟨D, hm.mono hN, hk⟩
  inj := h.inj
  injC := h.injC
  lo := h.lo
  hi := h.hi
  le := h.le
theorem Tr.c0 {w : World} {base top N : Nat} {S : List UInt8 → Bool} {X : List UInt8 → Int} {B C : List UInt8 → Nat} (h : Tr w base top N S X B C) {p : List UInt8} (hp : S p = true) : w.cell? ⟨B p, 0, none⟩ = some (.int .i64 (X p)) := by
  simp [World.cell?, h.cell p hp]
theorem Tr.c1 {w : World} {base top N : Nat} {S : List UInt8 → Bool} {X : List UInt8 → Int} {B C : List UInt8 → Nat} (h : Tr w base top N S X B C) {p : List UInt8} (hp : S p = true) : w.cell? ⟨B p, 1, none⟩ = some (.map (some (C p))) := by
  simp [World.cell?, h.cell p hp]
theorem Tr.f0 {w : World} {base top N : Nat} {S : List UInt8 → Bool} {X : List UInt8 → Int} {B C : List UInt8 → Nat} (h : Tr w base top N S X B C) {p : List UInt8} (hp : S p = true) : w.frozen? ⟨B p, 0, none⟩ = false := by
  simp [World.frozen?, h.cell p hp]
theorem Tr.neBC {w : World} {base top N : Nat} {S : List UInt8 → Bool} {X : List UInt8 → Int} {B C : List UInt8 → Nat} (h : Tr w base top N S X B C) {p q : List UInt8} (hp : S p = true) (hq : S q = true) : B p ≠ C q := by
  intro e
  obtain ⟨D, ⟨es, clock, hb, _⟩, _⟩ := h.map q hq
  have := h.cell p hp
  rw [e, hb] at this
  cases this

theorem heap_setCell_two {w : World} {b : Nat} {u v : Value} {t : TypeId} (x : Value) (h : w.heap[b]? = some (.cells #[u, v] t (0, 0))) : (w.setCell ⟨b, 0, none⟩ x).heap[b]? = some (.cells #[x, v] t (0, 0)) := by
  obtain ⟨hlt, hk⟩ := Array.getElem?_eq_some_iff.1 h
  show (w.heap.modify b _)[b]? = _
  rw [Array.getElem?_eq_getElem (by rw [Array.size_modify]; exact hlt), Array.getElem_modify_self, hk]
  rfl
/-- A word's place set at its node. -/
theorem Tr.word {w : World} {base top N : Nat} {S : List UInt8 → Bool} {X : List UInt8 → Int} {B C : List UInt8 → Nat} (h : Tr w base top N S X B C) {p : List UInt8} (hp : S p = true) (i : Int) :
    Tr (w.setCell ⟨B p, 0, none⟩ (.int .i64 i)) base top N S (fun q => if q = p then i else X q) B C where
  root := h.root
  closed := h.closed
  cell q hq := by
    by_cases e : q = p
    · subst e
      simp only [if_true]
      exact heap_setCell_two _ (h.cell q hq)
    · simp only [if_neg e]
      exact (Below.heap_setCell _ _ _ _ (fun e' => e (h.inj _ _ hq hp e'))).trans (h.cell q hq)
  map q hq := by
    obtain ⟨D, hm, hk⟩ := h.map q hq
    exact ⟨D, ownsMap_block hm (Below.heap_setCell _ _ _ _ (fun e' => h.neBC hp hq e'.symm)), hk⟩
  inj := h.inj
  injC := h.injC
  lo := h.lo
  hi := h.hi
  le := by
    have := h.le
    have e : (w.setCell ⟨B p, 0, none⟩ (.int .i64 i)).heap.size = w.heap.size := by simp
    omega
/-- One node more. -/
theorem Tr.add {w w1 w2 : World} {base top N : Nat} {S : List UInt8 → Bool} {X : List UInt8 → Int} {B C : List UInt8 → Nat} (h : Tr w base top N S X B C) {p : List UInt8} {c : UInt8} (hp : S p = true) (hc : S (p ++ [c]) = false)
    {D : DataW Unit} (hD : Kids D S B p) {b m : Nat} (hb1 : Below w.heap.size w w1) (hbase : base ≤ w.heap.size) (hb : w.heap.size ≤ b) (hm : w.heap.size ≤ m)
    (hm1 : w1.ownsMap Try.prog 5 ptrE m 0 (.map [])) (hb2 : w1.heap[b]? = some (.cells #[.int .i64 (X (p ++ [c])), .map (some m)] 89 (0, 0)))
    (hg : w1.grownBy w2 (some (C p))) (hown : w2.ownsMap Try.prog 5 ptrE (C p) (N + 1) (D.put (keyL c) (.lit (.int .i64 (b : Int))))) :
    Tr w2 base w2.heap.size (N + 1) (fun q => S q || decide (q = p ++ [c])) X (fun q => if q = p ++ [c] then b else B q) (fun q => if q = p ++ [c] then m else C q) := by
  have hle := h.le
  have hbl : b < w1.heap.size := (Array.getElem?_eq_some_iff.1 hb2).1
  have hml : m < w1.heap.size := hm1.lt
  have hsz := hg.size
  have hnp : p ≠ p ++ [c] := fun e => by have := congrArg List.length e; simp at this
  have hCp := (h.hi p hp).2
  have old : ∀ k, k < w.heap.size → k ≠ C p → w2.heap[k]? = w.heap[k]? := fun k hk hne =>
    (hg.block k (by have := hb1.size; omega) (fun e => hne (by simpa using e))).trans (hb1.block k hk)
  have new : ∀ k, w.heap.size ≤ k → k < w1.heap.size → w2.heap[k]? = w1.heap[k]? := fun k hk hk' => hg.block k hk' (fun e => by have : k = C p := by simpa using e
                                                                                                                                omega)
  have hS : ∀ q, (S q || decide (q = p ++ [c])) = true → q = p ++ [c] ∨ (q ≠ p ++ [c] ∧ S q = true) := by
    intro q hq
    by_cases e : q = p ++ [c]
    · exact .inl e
    · simp [e] at hq; exact .inr ⟨e, hq⟩
  have hkid : ∀ q d, q ≠ p → (S (q ++ [d]) || decide (q ++ [d] = p ++ [c])) = S (q ++ [d]) := by
    intro q d hq
    have : q ++ [d] ≠ p ++ [c] := fun e => hq (List.append_inj' e rfl).1
    simp [this]
  refine { root := by simp [h.root], closed := ?_, cell := ?_, map := ?_, inj := ?_, injC := ?_, lo := ?_, hi := ?_, le := Nat.le_refl _ }
  · intro q d hq
    by_cases e : q ++ [d] = p ++ [c]
    · obtain ⟨rfl, _⟩ := List.append_inj' e rfl
      simp [hp]
    · simp only [e, decide_false, Bool.or_false] at hq
      simp [h.closed q d hq]
  · intro q hq
    rcases hS q hq with rfl | ⟨e, hq'⟩
    · simp only [if_true]
      exact (new b hb hbl).trans hb2
    · simp only [if_neg e]
      exact (old _ (by have := (h.hi q hq').1; omega) (h.neBC hq' hp)).trans (h.cell q hq')
  · intro q hq
    rcases hS q hq with rfl | ⟨e, hq'⟩
    · simp only [if_true]
      refine ⟨.map [], (ownsMap_block hm1 (new m hm hml)).mono (by omega), isMap_empty, fun d => ?_⟩
      have h1 : S (p ++ [c] ++ [d]) = false := by
        cases e : S (p ++ [c] ++ [d]) with
        | false => rfl
        | true => have := h.closed _ _ e; rw [hc] at this; cases this
      have h2 : p ++ [c] ++ [d] ≠ p ++ [c] := fun e => by have := congrArg List.length e; simp at this
      have h3 : (S (p ++ [c] ++ [d]) || decide (p ++ [c] ++ [d] = p ++ [c])) = false := by rw [h1]; simp
      refine ⟨h3.symm, fun h' => ?_⟩
      exact absurd (h3.symm.trans h') (by simp)
    · simp only [if_neg e]
      by_cases ep : q = p
      · subst ep
        refine ⟨_, hown, hD.1.put _ _, fun d => ?_⟩
        by_cases ed : d = c
        · subst ed
          refine ⟨by rw [has_put_same hD.1 (keyL_key _)]; simp, fun _ z => ?_⟩
          rw [atKey_put_same hD.1 (keyL_key _)]; simp
        · have hne : q ++ [d] ≠ q ++ [c] := fun e' => ed (by simpa using e')
          rw [has_put_other (keyL_ne ed)]
          refine ⟨by rw [(hD.2 d).1]; simp [hne], fun h' z => ?_⟩
          rw [atKey_put_other (keyL_ne ed)]
          simp only [if_neg hne]
          exact (hD.2 d).2 (by simpa [hne, ed] using h') z
      · obtain ⟨E, hE, hk⟩ := h.map q hq'
        refine ⟨E, (ownsMap_block hE (old _ (by have := (h.hi q hq').2; omega) (fun e' => ep (h.injC _ _ hq' hp e')))).mono (by omega), hk.1, fun d => ?_⟩
        have hne : q ++ [d] ≠ p ++ [c] := fun e' => ep (List.append_inj' e' rfl).1
        have hs := hkid q d ep
        refine ⟨(hk.2 d).1.trans hs.symm, fun h' z => ?_⟩
        simp only [if_neg hne]
        exact (hk.2 d).2 (hs.symm.trans h') z
  · intro q r hq hr e
    rcases hS q hq with rfl | ⟨e1, hq'⟩
    · rcases hS r hr with rfl | ⟨e2, hr'⟩
      · rfl
      · simp only [if_true, if_neg e2] at e
        have := (h.hi r hr').1; omega
    · rcases hS r hr with rfl | ⟨e2, hr'⟩
      · simp only [if_true, if_neg e1] at e
        have := (h.hi q hq').1; omega
      · simp only [if_neg e1, if_neg e2] at e
        exact h.inj _ _ hq' hr' e
  · intro q r hq hr e
    rcases hS q hq with rfl | ⟨e1, hq'⟩
    · rcases hS r hr with rfl | ⟨e2, hr'⟩
      · rfl
      · simp only [if_true, if_neg e2] at e
        have := (h.hi r hr').2; omega
    · rcases hS r hr with rfl | ⟨e2, hr'⟩
      · simp only [if_true, if_neg e1] at e
        have := (h.hi q hq').2; omega
      · simp only [if_neg e1, if_neg e2] at e
        exact h.injC _ _ hq' hr' e
  · intro q hq
    rcases hS q hq with rfl | ⟨e, hq'⟩
    · simp only [if_true]; omega
    · simp only [if_neg e]; exact h.lo q hq'
  · intro q hq
    rcases hS q hq with rfl | ⟨e, hq'⟩
    · simp only [if_true]; omega
    · simp only [if_neg e]; have := h.hi q hq'; have := hb1.size; omega
/-- The trie of the words W, its root in block r. -/
def TrW (w : World) (base N : Nat) (W : List Wd) (r : Nat) : Prop := ∃ top B C, Tr w base top N (nodeB W) (fun p => wd (subs p W)) B C ∧ B [] = r
end Go.Proofs.Ytdkbgikniacekaa
