/-
  Contracts of trie.Order: the places of the words in the words' order, in new memory; of the function that collects them, and of (*node).walk. Conditions: words as they should be, or the error of the first fault.
-/
import Derived.Test.YtkcocdlfhgincaaDoorTsort
namespace Go.Proofs.YtkcocdlfhgincaaDoor
open Go.RowKit Go.Maps Go.Proofs

/-! ### Plain facts -/
/-- A node's own word, where it has one. -/
def own (x : Int) : List Int := if x = -1 then [] else [x]
/-- The signs of a node's children, in their order. -/
def keysOf (S : List UInt8 → Bool) (p : List UInt8) : List UInt8 := ((List.range 256).map UInt8.ofNat).filter fun c => S (p ++ [c])
theorem all_pair : ((List.range 256).map UInt8.ofNat).Pairwise (· < ·) := by
  rw [List.pairwise_map]
  exact List.pairwise_lt_range.imp_of_mem fun _ hb h => u8_lt h (List.mem_range.1 hb)
theorem keysOf_mem {S : List UInt8 → Bool} {p : List UInt8} (c : UInt8) : c ∈ keysOf S p ↔ S (p ++ [c]) = true := by
  rw [keysOf, List.mem_filter]
  refine ⟨fun h => h.2, fun h => ⟨List.mem_map.2 ⟨c.toNat, List.mem_range.2 c.toNat_lt, u8_back c⟩, h⟩⟩
theorem keysOf_is {S : List UInt8 → Bool} {p : List UInt8} {cs : List UInt8} (hn : cs.Nodup) (hs : cs.Pairwise (· ≤ ·)) (hm : ∀ c, c ∈ cs ↔ S (p ++ [c]) = true) : cs = keysOf S p := by
  have hp : (keysOf S p).Pairwise (· < ·) := all_pair.filter _
  have hn' : (keysOf S p).Nodup := List.Pairwise.imp (fun {a b} (h : a < b) (e : a = b) => UInt8.lt_irrefl b (by rw [e] at h; exact h)) hp
  refine List.Perm.eq_of_pairwise (le := fun a b => a ≤ b) (fun a b _ _ h h' => UInt8.le_antisymm h h') hs (hp.imp fun h => UInt8.le_of_lt h) ((List.perm_ext_iff_of_nodup hn hn').2 fun c => ?_)
  rw [hm c, keysOf_mem]
theorem flat_take_le (f : UInt8 → List Int) (cs : List UInt8) (j : Nat) : ((cs.take j).flatMap f).length ≤ (cs.flatMap f).length := by
  have : cs.flatMap f = (cs.take j).flatMap f ++ (cs.drop j).flatMap f := by rw [← List.flatMap_append, List.take_append_drop]
  rw [this, List.length_append]; omega
theorem few_sub {l m : List Wd} (hn : l.Nodup) (hs : ∀ x ∈ l, x ∈ m) : l.length ≤ m.length := by
  induction l generalizing m with
  | nil => simp
  | cons a l ih =>
    have ⟨h1, h2⟩ := List.nodup_cons.1 hn
    have ha := hs a (by simp)
    have := ih (m := m.erase a) h2 fun x hx => (List.mem_erase_of_ne (show x ≠ a from fun e => h1 (by rw [← e]; exact hx))).2 (hs x (by simp [hx]))
    have := List.length_erase_of_mem ha
    have : 0 < m.length := List.length_pos_of_mem ha
    simp; omega
/-- A node has no more children than words. -/
theorem keys_few {L : List Wd} {cs : List UInt8} (hn : cs.Nodup) (h : ∀ c ∈ cs, (kid c L).isEmpty = false) : cs.length ≤ L.length := by
  have hex : ∀ c : UInt8, ∃ q : Wd, c ∈ cs → (c :: q.1, q.2) ∈ L := fun c => by
    by_cases hc : c ∈ cs
    · have := h c hc
      cases e : kid c L with
      | nil => rw [e] at this; cases this
      | cons q r =>
        obtain ⟨x, i⟩ := q
        exact ⟨(x, i), fun _ => mem_kid.1 (by rw [e]; simp)⟩
    · exact ⟨([], 0), fun h' => absurd h' hc⟩
  obtain ⟨g, hg⟩ := Classical.axiomOfChoice hex
  have := few_sub (l := cs.map fun c => (c :: (g c).1, (g c).2)) (m := L) (List.pairwise_map.2 (List.Pairwise.imp (fun {a b} (h : a ≠ b) (e : ((a :: (g a).1, (g a).2) : Wd) = (b :: (g b).1, (g b).2)) => h (List.cons.inj (Prod.mk.inj e).1).1) hn)) (by
    intro x hx
    obtain ⟨c, hc, rfl⟩ := List.mem_map.1 hx
    exact hg c hc)
  simpa using this
/-- What Order answers, as numbers. -/
def odI : Nat → List Wd → List Int
  | 0, L => own (wd L)
  | k + 1, L => own (wd L) ++ (((List.range 256).map UInt8.ofNat).filter fun c => !(kid c L).isEmpty).flatMap fun c => odI k (kid c L)
theorem own_empties {L : List Wd} (hO : Once L) : ((L.filter fun p => p.1.isEmpty).map fun p => (p.2 : Int)) = own (wd L) := by
  have h1 := empties_one hO
  have hmem : ∀ p ∈ L.filter (fun p => p.1.isEmpty), p.1 = [] ∧ p ∈ L := fun p hp => ⟨by simpa using (List.mem_filter.1 hp).2, (List.mem_filter.1 hp).1⟩
  cases e : L.filter (fun p => p.1.isEmpty) with
  | nil =>
    have : wd L = -1 := wd_none fun i hi => by
      have : ([], i) ∈ L.filter (fun p => p.1.isEmpty) := List.mem_filter.2 ⟨hi, rfl⟩
      rw [e] at this; cases this
    simp [own, this]
  | cons p r =>
    rw [e] at h1 hmem
    have hr : r = [] := by
      cases r with
      | nil => rfl
      | cons q r =>
        have h2 := (List.pairwise_cons.1 h1).1 q (by simp)
        rw [(hmem p (by simp)).1, (hmem q (by simp)).1] at h2
        exact absurd h2 (lt_irr _)
    subst hr
    obtain ⟨x, i⟩ := p
    have hx := hmem (x, i) (by simp)
    simp at hx
    obtain ⟨rfl, hi⟩ := hx
    have := wd_mem hO hi
    rw [own, this, if_neg (by omega)]
    rfl
theorem flat_filter (q : UInt8 → Bool) (f : UInt8 → List Int) (l : List UInt8) : (l.filter q).flatMap f = l.flatMap fun c => if q c then f c else [] := by
  induction l with
  | nil => rfl
  | cons a l ih =>
    rw [List.filter_cons, List.flatMap_cons]
    split
    · rename_i h; rw [List.flatMap_cons, ih]
    · rw [ih, List.nil_append]
theorem odI_od (k : Nat) : ∀ L : List Wd, Once L → odI k L = (od k L).map fun i : Nat => (i : Int) := by
  induction k with
  | zero => intro L hO; rw [odI, od, List.map_map, ← own_empties hO]; rfl
  | succ k ih =>
    intro L hO
    rw [odI, od, List.map_append, List.map_map, ← own_empties hO, flat_filter, List.flatMap_map, List.map_flatMap]
    congr 1
    refine congrArg (fun f => (List.range 256).flatMap f) (funext fun n => ?_)
    cases e : (kid (UInt8.ofNat n) L).isEmpty with
    | true => simp
    | false => simpa using ih _ (once_kid hO)
theorem od_len (k : Nat) (L : List Wd) (hO : Once L) (hl : ∀ p ∈ L, p.1.length ≤ k) : (od k L).length = L.length := by
  obtain ⟨M, hM, e⟩ := od_sorted k L hO hl
  rw [e, List.length_map, (sorted_perm hM hO).length_eq]

/-! ### The list that is filled -/
/-- The captured list: in block Vb, its value v; it holds the numbers xs, in memory from block 'base' on. -/
def Out (w : World) (base Vb : Nat) (v : Value) (xs : List Int) : Prop := Boxed w Vb 28 v ∧ OwnI w base 3 v xs
theorem Out.row_lt {w : World} {base Vb : Nat} {v : Value} {xs : List Int} (h : Out w base Vb v xs) {j : Nat} (e : v.ownBlock = some j) : j < w.heap.size := (World.ownsRow.lt h.2 j e).2
theorem Out.below {w w' : World} {base Vb : Nat} {v : Value} {xs : List Int} (h : Out w base Vb v xs) (hb : Below w.heap.size w w') : Out w' base Vb v xs :=
  ⟨(hb.block _ h.1.lt).trans h.1, h.2.below hb (Nat.le_refl _)⟩
/-- All blocks of w but the list's own two are kept; and none of them has become the list's. -/
structure Keeps (w w' : World) (Vb : Nat) (v v' : Value) : Prop where
  size : w.heap.size ≤ w'.heap.size
  same : ∀ k, k < w.heap.size → k ≠ Vb → some k ≠ v.ownBlock → w'.heap[k]? = w.heap[k]? ∧ some k ≠ v'.ownBlock
theorem Keeps.refl (w : World) (Vb : Nat) (v : Value) : Keeps w w Vb v v := ⟨Nat.le_refl _, fun _ _ _ h => ⟨rfl, h⟩⟩
theorem Keeps.trans {a b c : World} {Vb : Nat} {u v x : Value} (h : Keeps a b Vb u v) (k : Keeps b c Vb v x) : Keeps a c Vb u x :=
  ⟨Nat.le_trans h.size k.size, fun i hi h1 h2 => by
    obtain ⟨e1, n1⟩ := h.same i hi h1 h2
    obtain ⟨e2, n2⟩ := k.same i (Nat.lt_of_lt_of_le hi h.size) h1 n1
    exact ⟨e2.trans e1, n2⟩⟩
theorem Keeps.of_below {w w' : World} {base Vb : Nat} {v : Value} {xs : List Int} (_h : Out w base Vb v xs) (hb : Below w.heap.size w w') : Keeps w w' Vb v v := ⟨hb.size, fun k hk _ h => ⟨hb.block k hk, h⟩⟩
theorem Keeps.cell {w w' : World} {Vb : Nat} {v v' : Value} (h : Keeps w w' Vb v v') {g : Nat} (hg : g < w.heap.size) (h1 : g ≠ Vb) (h2 : some g ≠ v.ownBlock) (j : Nat) : w'.cell? ⟨g, j, none⟩ = w.cell? ⟨g, j, none⟩ := by
  simp [World.cell?, (h.same g hg h1 h2).1]

theorem visit_any (k : Int) (base Vb : Nat) (v : Value) (xs : List Int) (w : World) (hO : Out w base Vb v xs) (hl : xs.length ≤ 1000) (hbw : base ≤ w.heap.size) (hbV : base ≤ Vb) :
    Calls Tryd.prog 21 #[.int .i64 k, .pointer (some ⟨Vb, 0, none⟩)] w fun e w' => e = .returned (.tuple #[]) ∧ ∃ v', Out w' base Vb v' (xs ++ [k]) ∧ Keeps w w' Vb v v' ∧ Below base w w' := by
  obtain ⟨i0, hi, hz0, hz1, hz2⟩ := info_parts int_info
  have hv := hO.1
  have hrow := hO.2
  have hc := hv.cell
  have HO := hid hO
  unfold OwnI at hrow
  clear hO
  generalize hn : xs.length = n at hrow
  generalize hys : xs.map (Value.int .i64) = ys at hrow
  have HE := hid (And.intro hn hys)
  clear hn hys
  go_enter Tryd.func21, Tryd.ntmps21
  go_wp2_with (at_builtin; refine wpList_append_own_at _ rfl _ _ 28 rfl base 3 i0 (.int .i64 0) 1 8 Tryd.underlying28 hi hz0 hz1 hz2 rfl (by decide) _ _ _ rfl (hrow.alloc _) ⟨w.heap.size, 0, none⟩ 1 1 [.int .i64 k] rfl rfl (cell_one_new _ _ _) (by simp [Value.oneCell']) (by have := HE.out.1; unfold maxLen; omega) (by have := HE.out.1; omega) (by simp; omega) ?_; intro v' w1 hown' hgrow hnil hloc; obtain ⟨g', cap', rfl⟩ := ownsRow_succ hown'; obtain ⟨hv1, hv2, hr2, hk2, hb2⟩ := hv.appended (by decide) hrow hbw hbV hown' hgrow; have hc1 := hv1.cell; have hf1 := hv1.frozen; have HL := hid hloc; have HG := hid hgrow; clear hloc hgrow hnil)
  go_end0
  obtain ⟨hn, hys⟩ := HE.out
  refine ⟨rfl, _, ⟨hv2, ?_⟩, ⟨hk2.size, fun j hj h1 h2 => ⟨?_, fun e => ?_⟩⟩, hb2⟩
  · unfold OwnI
    rw [List.length_append, List.map_append, hn, hys]
    exact hr2
  · exact (Below.heap_setCell _ _ _ _ h1).trans ((HG.out.block j (by simp; omega) h2).trans (Below.heap_alloc _ _ j hj))
  · rcases HL.out with h' | h'
    · exact h2 (e.trans h')
    · rw [h'] at e
      have : j = w.heap.size + 1 := by simpa using e
      omega

theorem sorted_at (b nn : Nat) (D : DataW Unit) (w1 : World) (hm : w1.ownsMap Tryd.prog 5 ptrE b nn D) (hfew : ∀ cs : List UInt8, cs.Nodup → (∀ c, c ∈ cs → Maps.has D (keyL c) = true) → cs.length ≤ 6) :
    Calls Tryd.prog 25 #[.func (.func 33) #[] #[.pointer (some ⟨w1.heap.size, 0, none⟩)]] (w1.alloc (.cells #[.map (some b)] 51)) fun e w' =>
      ∃ (A : Option Addr) (c : Nat) (cs : List UInt8), e = .returned (.slice A cs.length c) ∧ cs.Nodup ∧ cs.Pairwise (· ≤ ·) ∧ (∀ c, c ∈ cs ↔ Maps.has D (keyL c) = true) ∧ cs.length ≤ 6 ∧
        (0 < cs.length → ∃ g, A = some ⟨g, 0, none⟩ ∧ w1.heap.size ≤ g ∧ g < w'.heap.size ∧ ∀ j, j < cs.length → w'.cell? ⟨g, j, none⟩ = some (.int .u8 ((cs.getD j 0).toNat : Int))) ∧ Below w1.heap.size w1 w' := by
  have hB : Below w1.heap.size w1 (w1.alloc (.cells #[.map (some b)] 51)) := (Below.refl _ _).alloc (Nat.le_refl _) _
  refine (sorted_any w1.heap.size b nn D _ (by simp) (cell_of_one (heap_alloc_new w1 _)) (hm.alloc _) hfew).mono ?_
  rintro e w' ⟨A, c, cs, he, h1, h2, h3, h4, h5, h6⟩
  refine ⟨A, c, cs, he, h1, h2, h3, h4, fun h0 => ?_, hB.trans (h6.mono hB.size)⟩
  obtain ⟨g, e1, e2, e3, e4⟩ := h5 h0
  exact ⟨g, e1, Nat.le_trans hB.size e2, e3, e4⟩

set_option maxRecDepth 100000 in
set_option maxHeartbeats 2000000 in
theorem walk_step {w0 w : World} {base0 base top N Vb : Nat} {S : List UInt8 → Bool} {X : List UInt8 → Int} {B C : List UInt8 → Nat} (h : Tr w0 base0 top N S X B C) (p : List UInt8) (hp : S p = true) (hb : Below top w0 w) (hbase : top ≤ base) (hbV : base ≤ Vb) (hbw : base ≤ w.heap.size)
    (v : Value) (xs : List Int) (hO : Out w base Vb v xs) (f : UInt8 → List Int)
    (ih : ∀ c w' v' xs', S (p ++ [c]) = true → Below top w0 w' → Out w' base Vb v' xs' → xs'.length + (f c).length ≤ 1000 → base ≤ w'.heap.size →
      Calls Tryd.prog 20 #[.pointer (some ⟨B (p ++ [c]), 0, none⟩), .func (.func 21) #[] #[.pointer (some ⟨Vb, 0, none⟩)]] w' fun e w'' => e = .returned (.tuple #[]) ∧ ∃ v'', Out w'' base Vb v'' (xs' ++ f c) ∧ Keeps w' w'' Vb v' v'' ∧ Below base w' w'')
    (few : ∀ cs : List UInt8, cs.Nodup → (∀ c, c ∈ cs → S (p ++ [c]) = true) → cs.length ≤ 6)
    (hbd : xs.length + (own (X p)).length + ((keysOf S p).flatMap f).length ≤ 1000) :
    Calls Tryd.prog 20 #[.pointer (some ⟨B p, 0, none⟩), .func (.func 21) #[] #[.pointer (some ⟨Vb, 0, none⟩)]] w fun e w' => e = .returned (.tuple #[]) ∧
      ∃ v', Out w' base Vb v' (xs ++ own (X p) ++ (keysOf S p).flatMap f) ∧ Keeps w w' Vb v v' ∧ Below base w w' := by
  have IH := hid ih
  clear ih
  have hcw := (h.below hb).c0 hp
  by_cases hx : X p = -1
  · rw [hx] at hcw
    have HBD := hid (show xs.length + ((keysOf S p).flatMap f).length ≤ 1000 by omega)
    obtain ⟨w1, hw1⟩ : ∃ z, z = w := ⟨_, rfl⟩
    obtain ⟨v1, hv1⟩ : ∃ z, z = v := ⟨_, rfl⟩
    obtain ⟨xs1, hxs1⟩ : ∃ z, z = xs := ⟨_, rfl⟩
    have HO1 := hid (show Out w1 base Vb v1 xs1 by rw [hw1, hv1, hxs1]; exact hO)
    have HKP1 := hid (show Keeps w w1 Vb v v1 by rw [hw1, hv1]; exact Keeps.refl _ _ _)
    have hBw : Below base w w1 := by rw [hw1]; exact Below.refl _ _
    have hbw1 : base ≤ w1.heap.size := by rw [hw1]; exact hbw
    have HX1 := hid (show xs1 = xs ++ own (X p) by rw [hx, hxs1]; simp [own])
    rw [← hxs1] at HBD
    rw [← hw1] at hcw
    have hBt : Below top w0 w1 := by rw [hw1]; exact hb
    have hgoal : ∀ R, Calls Tryd.prog 20 #[.pointer (some ⟨B p, 0, none⟩), .func (.func 21) #[] #[.pointer (some ⟨Vb, 0, none⟩)]] w1 R → Calls Tryd.prog 20 #[.pointer (some ⟨B p, 0, none⟩), .func (.func 21) #[] #[.pointer (some ⟨Vb, 0, none⟩)]] w R := fun R hR => by rw [← hw1]; exact hR
    refine hgoal _ ?_
    clear hgoal hw1 hv1 hxs1 hbd hO hx
    have hc1 := (h.below hBt).c1 hp
    go_enter Tryd.func20, Tryd.ntmps20
    go_wp2_with fail
    have hT1 := h.below hBt
    have hc1 := hT1.c1 hp
    have hlt1 := hT1.hi p hp
    have htop1 := hT1.le
    obtain ⟨D, hm, hD⟩ := hT1.map p hp
    have hfew : ∀ cs : List UInt8, cs.Nodup → (∀ c, c ∈ cs → Maps.has D (keyL c) = true) → cs.length ≤ 6 := fun cs hn hc => few cs hn fun c hcs => by rw [← (hD.2 c).1]; exact hc c hcs
    have HSO := hid (sorted_at (C p) N D w1 hm hfew)
    have HK := hid (keys_any (some (C p)) w1)
    have HD := hid hD
    clear hfew hm hT1 hD
    go_wp2_with (first
      | (go_at_call 26; refine HK.out.mono ?_; rintro e wk ⟨rfl, rfl⟩)
      | (go_at_call 25; refine HSO.out.mono ?_; rintro e w3 ⟨A, cc, cs, rfl, hnd, hso, hmem, h6, hcs, hB13⟩))
    have hkeys : cs = keysOf S p := keysOf_is hnd hso fun c => by rw [hmem c, (HD.out.2 c).1]
    have HO3 := hid (HO1.out.below hB13)
    have HKP3 := hid (HKP1.out.trans (Keeps.of_below HO1.out hB13))
    have hB03 : Below base w w3 := hBw.trans (hB13.mono hbw1)
    have hbw3 : base ≤ w3.heap.size := Nat.le_trans hbw1 hB13.size
    have HCS := hid (show 0 < cs.length → ∃ g, A = some ⟨g, 0, none⟩ ∧ g ≠ Vb ∧ some g ≠ v1.ownBlock ∧ g < w3.heap.size ∧ ∀ j, j < cs.length → w3.cell? ⟨g, j, none⟩ = some (.int .u8 ((cs.getD j 0).toNat : Int)) from fun h0 => by
      obtain ⟨g, e, hg1, hg2, hg3⟩ := hcs h0
      have hVl := HO1.out.1.lt
      refine ⟨g, e, by omega, fun e' => ?_, hg2, hg3⟩
      have := HO1.out.row_lt e'.symm
      omega)
    have HM := hid (show ∀ c ∈ cs, S (p ++ [c]) = true from fun c hc => by rw [← (HD.out.2 c).1]; exact (hmem c).1 hc)
    have HKY := hid hkeys
    clear hnd hso hmem hcs hkeys HSO HK HO1 hc1
    generalize hn : cs.length = n at HCS h6
    have HN := hid hn
    clear hn
    go_wp2_with fail
    go_loopw [24] (fun x wr => ∃ (j : Nat) (v' : Value), j ≤ n ∧ x = .int .i64 j ∧ Hid (Out wr base Vb v' (xs1 ++ (cs.take j).flatMap f)) ∧ Hid (Keeps w3 wr Vb v1 v') ∧ Below base w3 wr) (fun x _ => n - (intOf x).toNat)
    case atStart => exact ⟨0, v1, by omega, rfl, hid (by simpa using HO3.out), hid (Keeps.refl _ _ _), Below.refl _ _⟩
    case round =>
      obtain ⟨j, v', hj, rfl, HO, HKP, hbr⟩ := hrel
      have hbR : Below base w wr := hB03.trans hbr
      have hbT : Below top w0 wr := hb.trans (hbR.mono hbase)
      by_cases hlt : j < n
      · obtain ⟨g, rfl, hg1, hg2, hg3, hgc⟩ := HCS.out (by omega)
        have hx : wr.cell? ⟨g, j, none⟩ = some (.int .u8 ((cs.getD j 0).toNat : Int)) := (HKP.out.cell hg3 hg1 hg2 j).trans (hgc j hlt)
        have hcj : cs.getD j 0 ∈ cs := by
          have : j < cs.length := by have := HN.out; omega
          rw [List.getD_eq_getElem?_getD, List.getElem?_eq_getElem this]; exact List.getElem_mem _
        have hSc := HM.out _ hcj
        have hTr := h.below hbT
        have hcr := hTr.c1 hp
        obtain ⟨E, hE, hEk⟩ := hTr.map p hp
        have HAT := hid ((hEk.2 (cs.getD j 0)).2 hSc)
        have hstep : (cs.take (j + 1)).flatMap f = (cs.take j).flatMap f ++ f (cs.getD j 0) := by
          have : j < cs.length := by have := HN.out; omega
          rw [List.take_succ_eq_append_getElem this, List.flatMap_append]
          simp [List.getD_eq_getElem?_getD, this]
        have hbd : xs1.length + ((cs.take j).flatMap f).length + (f (cs.getD j 0)).length ≤ 1000 := by
          have h1 : ((cs.take (j + 1)).flatMap f).length ≤ (cs.flatMap f).length := flat_take_le f cs (j + 1)
          rw [hstep, List.length_append] at h1
          have h2 := HBD.out
          rw [← HKY.out] at h2
          omega
        have HC := hid (IH.out (cs.getD j 0) wr v' _ hSc hbT HO.out (by rw [List.length_append]; exact hbd) (Nat.le_trans hbw3 hbr.size))
        have HST := hid hstep
        have hkey := key_byte (cs.getD j 0)
        clear hgc hcj hSc hTr hEk hstep hbd
        generalize cs.getD j 0 = cj at hx HAT HC hkey HST
        go_wp2_with (first
          | (at_lookup; refine wpList_lookup_ptr _ rfl _ _ 51 rfl 5 44 byte_keyed Tryd.underlying51 (zero_ptr _) (C p) N E rfl hE _ _ rfl hkey (B (p ++ [cj])) HAT.out ?_)
          | (go_at_call 20; refine HC.out.mono ?_; rintro e w4 ⟨rfl, v4, hO4, hK4, hB4⟩; have HO4 := hid hO4; have HK4 := hid hK4; clear hO4 hK4))
        go_wp2_with fail
        go_roundw
        case rel => exact ⟨j + 1, v4, by omega, by go_num, hid (by rw [HST.out, ← List.append_assoc]; exact HO4.out), hid (HKP.out.trans HK4.out), hbr.trans hB4⟩
        case measure => simp [intOf]; omega
      · have hfin : xs ++ own (X p) ++ (keysOf S p).flatMap f = xs1 ++ (cs.take j).flatMap f := by
          rw [HX1.out, ← HKY.out, List.take_of_length_le (by have := HN.out; omega)]
        have HFI := hid hfin
        clear hfin
        go_wp2_with fail
        go_end0
        exact ⟨rfl, v', by rw [HFI.out]; exact HO.out, HKP3.out.trans HKP.out, hbR⟩
  · have hq : (X p != -1) = true := by simpa using hx
    have ho : own (X p) = [X p] := if_neg hx
    have HV := hid (visit_any (X p) base Vb v xs w hO (by omega) hbw hbV)
    have HBD0 := hid (show xs.length + 1 + ((keysOf S p).flatMap f).length ≤ 1000 by rw [ho] at hbd; simpa using hbd)
    have HXP := hid (And.intro hx ho)
    obtain ⟨x, hxx⟩ : ∃ z, z = X p := ⟨_, rfl⟩
    rw [← hxx] at hcw hq HV
    have HXX := hid hxx
    clear hbd hO hx hxx ho
    go_enter Tryd.func20, Tryd.ntmps20
    go_wp2_with (go_at_call 21; refine HV.out.mono ?_; rintro e w1 ⟨rfl, v1, hO1, hKP1, hBw⟩; have HO1 := hid hO1; have HKP1 := hid hKP1; clear hO1 hKP1; have hc1 := (h.below (hb.trans (hBw.mono hbase))).c1 hp)
    obtain ⟨xs1, hxs1⟩ : ∃ z, z = xs ++ [x] := ⟨_, rfl⟩
    rw [← hxs1] at HO1
    have HX1 := hid (show xs1 = xs ++ own (X p) by rw [hxs1, HXP.out.2, ← HXX.out])
    have HBD := hid (show xs1.length + ((keysOf S p).flatMap f).length ≤ 1000 by rw [hxs1, List.length_append]; exact HBD0.out)
    have hbw1 : base ≤ w1.heap.size := Nat.le_trans hbw hBw.size
    have hBt : Below top w0 w1 := hb.trans (hBw.mono hbase)
    clear hxs1 HBD0 HXP
    have hT1 := h.below hBt
    have hc1 := hT1.c1 hp
    have hlt1 := hT1.hi p hp
    have htop1 := hT1.le
    obtain ⟨D, hm, hD⟩ := hT1.map p hp
    have hfew : ∀ cs : List UInt8, cs.Nodup → (∀ c, c ∈ cs → Maps.has D (keyL c) = true) → cs.length ≤ 6 := fun cs hn hc => few cs hn fun c hcs => by rw [← (hD.2 c).1]; exact hc c hcs
    have HSO := hid (sorted_at (C p) N D w1 hm hfew)
    have HK := hid (keys_any (some (C p)) w1)
    have HD := hid hD
    clear hfew hm hT1 hD
    go_wp2_with (first
      | (go_at_call 26; refine HK.out.mono ?_; rintro e wk ⟨rfl, rfl⟩)
      | (go_at_call 25; refine HSO.out.mono ?_; rintro e w3 ⟨A, cc, cs, rfl, hnd, hso, hmem, h6, hcs, hB13⟩))
    have hkeys : cs = keysOf S p := keysOf_is hnd hso fun c => by rw [hmem c, (HD.out.2 c).1]
    have HO3 := hid (HO1.out.below hB13)
    have HKP3 := hid (HKP1.out.trans (Keeps.of_below HO1.out hB13))
    have hB03 : Below base w w3 := hBw.trans (hB13.mono hbw1)
    have hbw3 : base ≤ w3.heap.size := Nat.le_trans hbw1 hB13.size
    have HCS := hid (show 0 < cs.length → ∃ g, A = some ⟨g, 0, none⟩ ∧ g ≠ Vb ∧ some g ≠ v1.ownBlock ∧ g < w3.heap.size ∧ ∀ j, j < cs.length → w3.cell? ⟨g, j, none⟩ = some (.int .u8 ((cs.getD j 0).toNat : Int)) from fun h0 => by
      obtain ⟨g, e, hg1, hg2, hg3⟩ := hcs h0
      have hVl := HO1.out.1.lt
      refine ⟨g, e, by omega, fun e' => ?_, hg2, hg3⟩
      have := HO1.out.row_lt e'.symm
      omega)
    have HM := hid (show ∀ c ∈ cs, S (p ++ [c]) = true from fun c hc => by rw [← (HD.out.2 c).1]; exact (hmem c).1 hc)
    have HKY := hid hkeys
    clear hnd hso hmem hcs hkeys HSO HK HO1 hc1
    generalize hn : cs.length = n at HCS h6
    have HN := hid hn
    clear hn
    go_wp2_with fail
    go_loopw [24] (fun x wr => ∃ (j : Nat) (v' : Value), j ≤ n ∧ x = .int .i64 j ∧ Hid (Out wr base Vb v' (xs1 ++ (cs.take j).flatMap f)) ∧ Hid (Keeps w3 wr Vb v1 v') ∧ Below base w3 wr) (fun x _ => n - (intOf x).toNat)
    case atStart => exact ⟨0, v1, by omega, rfl, hid (by simpa using HO3.out), hid (Keeps.refl _ _ _), Below.refl _ _⟩
    case round =>
      obtain ⟨j, v', hj, rfl, HO, HKP, hbr⟩ := hrel
      have hbR : Below base w wr := hB03.trans hbr
      have hbT : Below top w0 wr := hb.trans (hbR.mono hbase)
      by_cases hlt : j < n
      · obtain ⟨g, rfl, hg1, hg2, hg3, hgc⟩ := HCS.out (by omega)
        have hx : wr.cell? ⟨g, j, none⟩ = some (.int .u8 ((cs.getD j 0).toNat : Int)) := (HKP.out.cell hg3 hg1 hg2 j).trans (hgc j hlt)
        have hcj : cs.getD j 0 ∈ cs := by
          have : j < cs.length := by have := HN.out; omega
          rw [List.getD_eq_getElem?_getD, List.getElem?_eq_getElem this]; exact List.getElem_mem _
        have hSc := HM.out _ hcj
        have hTr := h.below hbT
        have hcr := hTr.c1 hp
        obtain ⟨E, hE, hEk⟩ := hTr.map p hp
        have HAT := hid ((hEk.2 (cs.getD j 0)).2 hSc)
        have hstep : (cs.take (j + 1)).flatMap f = (cs.take j).flatMap f ++ f (cs.getD j 0) := by
          have : j < cs.length := by have := HN.out; omega
          rw [List.take_succ_eq_append_getElem this, List.flatMap_append]
          simp [List.getD_eq_getElem?_getD, this]
        have hbd : xs1.length + ((cs.take j).flatMap f).length + (f (cs.getD j 0)).length ≤ 1000 := by
          have h1 : ((cs.take (j + 1)).flatMap f).length ≤ (cs.flatMap f).length := flat_take_le f cs (j + 1)
          rw [hstep, List.length_append] at h1
          have h2 := HBD.out
          rw [← HKY.out] at h2
          omega
        have HC := hid (IH.out (cs.getD j 0) wr v' _ hSc hbT HO.out (by rw [List.length_append]; exact hbd) (Nat.le_trans hbw3 hbr.size))
        have HST := hid hstep
        have hkey := key_byte (cs.getD j 0)
        clear hgc hcj hSc hTr hEk hstep hbd
        generalize cs.getD j 0 = cj at hx HAT HC hkey HST
        go_wp2_with (first
          | (at_lookup; refine wpList_lookup_ptr _ rfl _ _ 51 rfl 5 44 byte_keyed Tryd.underlying51 (zero_ptr _) (C p) N E rfl hE _ _ rfl hkey (B (p ++ [cj])) HAT.out ?_)
          | (go_at_call 20; refine HC.out.mono ?_; rintro e w4 ⟨rfl, v4, hO4, hK4, hB4⟩; have HO4 := hid hO4; have HK4 := hid hK4; clear hO4 hK4))
        go_wp2_with fail
        go_roundw
        case rel => exact ⟨j + 1, v4, by omega, by go_num, hid (by rw [HST.out, ← List.append_assoc]; exact HO4.out), hid (HKP.out.trans HK4.out), hbr.trans hB4⟩
        case measure => simp [intOf]; omega
      · have hfin : xs ++ own (X p) ++ (keysOf S p).flatMap f = xs1 ++ (cs.take j).flatMap f := by
          rw [HX1.out, ← HKY.out, List.take_of_length_le (by have := HN.out; omega)]
        have HFI := hid hfin
        clear hfin
        go_wp2_with fail
        go_end0
        exact ⟨rfl, v', by rw [HFI.out]; exact HO.out, HKP3.out.trans HKP.out, hbR⟩

theorem walk_any {w0 : World} {base0 base top N Vb : Nat} {W : List Wd} {B C : List UInt8 → Nat} (h : Tr w0 base0 top N (nodeB W) (fun p => wd (subs p W)) B C) (hW : W.length ≤ 6) (hbase : top ≤ base) (hbV : base ≤ Vb) (k : Nat) :
    ∀ (p : List UInt8) (w : World) (v : Value) (xs : List Int), nodeB W p = true → (∀ q ∈ subs p W, q.1.length ≤ k) → Below top w0 w → Out w base Vb v xs → xs.length + (odI k (subs p W)).length ≤ 1000 → base ≤ w.heap.size →
    Calls Tryd.prog 20 #[.pointer (some ⟨B p, 0, none⟩), .func (.func 21) #[] #[.pointer (some ⟨Vb, 0, none⟩)]] w fun e w' => e = .returned (.tuple #[]) ∧ ∃ v', Out w' base Vb v' (xs ++ odI k (subs p W)) ∧ Keeps w w' Vb v v' ∧ Below base w w' := by
  have few : ∀ p, ∀ cs : List UInt8, cs.Nodup → (∀ c, c ∈ cs → nodeB W (p ++ [c]) = true) → cs.length ≤ 6 := fun p cs hn hc => by
    have := keys_few (L := subs p W) hn fun c hcs => by have := hc c hcs; rw [nodeB_kid] at this; simpa using this
    have := subs_len p W
    omega
  have hk : ∀ p, keysOf (nodeB W) p = ((List.range 256).map UInt8.ofNat).filter fun c => !(kid c (subs p W)).isEmpty := fun p => by
    unfold keysOf
    exact congrArg (fun q => ((List.range 256).map UInt8.ofNat).filter q) (funext fun c => nodeB_kid)
  induction k with
  | zero =>
    intro p w v xs hp hlen hb hOut hbd hbw
    have hno : keysOf (nodeB W) p = [] := by
      rw [List.eq_nil_iff_forall_not_mem]
      intro c hc
      have := (keysOf_mem c).1 hc
      rw [nodeB_kid] at this
      cases e : kid c (subs p W) with
      | nil => rw [e] at this; cases this
      | cons q r =>
        obtain ⟨x, i⟩ := q
        have := hlen _ (mem_kid.1 (show (x, i) ∈ kid c (subs p W) by rw [e]; simp))
        simp at this
    refine (walk_step h p hp hb hbase hbV hbw v xs hOut (fun _ => []) (fun c w' v' xs' hc => by have := (keysOf_mem (S := nodeB W) (p := p) c).2 hc; rw [hno] at this; cases this) (few p) (by rw [hno]; rw [odI] at hbd; simpa using hbd)).mono fun e w' ⟨he, v', h1, h2⟩ => ⟨he, v', ?_, h2⟩
    rw [hno] at h1
    simpa [odI] using h1
  | succ k ih =>
    intro p w v xs hp hlen hb hOut hbd hbw
    rw [odI, ← hk p] at hbd ⊢
    rw [← List.append_assoc]
    refine walk_step h p hp hb hbase hbV hbw v xs hOut (fun c => odI k (kid c (subs p W))) (fun c w' v' xs' hc hb' hO' hl' hbw' => ?_) (few p) (by rw [List.length_append] at hbd; omega)
    have := ih (p ++ [c]) w' v' xs' hc (by rw [subs_snoc]; exact kid_short hlen c) hb' hO' (by rw [subs_snoc]; exact hl') hbw'
    rwa [subs_snoc] at this

/-- What Order answers. -/
def orderL (ws : List ByteArray) : List Int := (od 8 (wds (wl ws))).map fun i : Nat => (i : Int)
theorem orderL_len {ws : List ByteArray} (hf : Fine ws) : (orderL ws).length = ws.length := by
  have h := fine_len hf
  rw [orderL, List.length_map, od_len 8 _ (wds_once.2 (fine_wl hf).1) (fun q hq => (h.2 q hq).1)]
  simp [wds, wl]
theorem order_ok (A : Option Addr) (n c : Nat) (ws : List ByteArray) (w : World) (hf : Fine ws) (h : IsStrs w w.heap.size A n ws) :
    Calls Tryd.prog 10 #[.slice A n c] w fun e w' => ∃ v, e = .returned (.tuple #[v, .nilIface]) ∧ OwnI w' w.heap.size 3 v (orderL ws) ∧ Below w.heap.size w w' := by
  have hmf : ∀ (fn : Fn) (first cap : Array Value) (w : World), (Instr.makeFunc fn first cap).run Tryd.prog w = .ok (.func fn first cap) w := fun _ _ _ _ => rfl
  have HC := hid (build_ok A n c ws w hf h)
  have HF := hid hf
  clear h hf
  go_enter Tryd.func10, Tryd.ntmps10
  go_wp2_with (go_at_call 18; refine HC.out.mono ?_; rintro e w1 ⟨r, base, rfl, ht, hbase, hb1⟩; have HT := hid ht; clear ht)
  obtain ⟨top, B, C, h, hr⟩ := HT.out
  have h8 := fine_len HF.out
  have hO := wds_once.2 (fine_wl HF.out).1
  obtain ⟨w2, hw2⟩ : ∃ z, z = w1.alloc (.cells #[.slice none 0 0] 28) := ⟨_, rfl⟩
  have hB2 : Below w1.heap.size w1 w2 := by rw [hw2]; exact (Below.refl _ _).alloc (Nat.le_refl _) _
  have hOut : Out w2 w1.heap.size w1.heap.size (.slice none 0 0) [] := by rw [hw2]; exact ⟨Boxed.new _ _ _, OwnI.nil _ _ _⟩
  have hod := odI_od 8 (wds (wl ws)) hO
  have HK := hid (walk_any h h8.1 h.le (Nat.le_refl _) 8 [] w2 _ [] (nodeB_root _) (fun q hq => (h8.2 q hq).1) (hB2.mono h.le) hOut (by
    rw [show subs [] (wds (wl ws)) = wds (wl ws) from rfl, hod, List.length_map, od_len 8 _ hO (fun q hq => (h8.2 q hq).1)]; simp; omega) hB2.size)
  rw [show subs [] (wds (wl ws)) = wds (wl ws) from rfl, hod, List.nil_append, hr] at HK
  have hBs : Below w.heap.size w w2 := hb1.trans (hB2.mono hb1.size)
  rw [hw2] at HK hBs
  clear h hr h8 HT HC hO hOut hod hw2 hB2
  go_wp2_with (go_at_call 20; refine HK.out.mono ?_; rintro e w3 ⟨rfl, v3, hO3, _, hB3⟩; have hc3 := hO3.1.cell; have HO3 := hid hO3; clear hO3)
  go_wp2_with fail
  go_ret2
  exact ⟨v3, rfl, HO3.out.2.base hb1.size, hBs.trans (hB3.mono hb1.size)⟩
theorem order_bad (A : Option Addr) (n c : Nat) (ws : List ByteArray) (k : Int) (w : World) (hn : n ≤ maxLen) (hs : ∀ i, i < n → (wat ws i).size ≤ maxLen) (hk : Bad ws k) (h : IsStrs w w.heap.size A n ws) :
    Calls Tryd.prog 10 #[.slice A n c] w fun e w' => e = .returned (.tuple #[.slice none 0 0, .iface 39 (.int .i64 k)]) ∧ Below w.heap.size w w' := by
  have HC := hid (build_bad A n c ws k w hn hs hk h)
  clear h hs hk hn
  go_enter Tryd.func10, Tryd.ntmps10
  go_wp2_with (go_at_call 18; refine HC.out.mono ?_; rintro e w1 ⟨rfl, hb1⟩)
  go_wp2_with fail
  go_ret2
  exact ⟨rfl, hb1⟩
end Go.Proofs.YtkcocdlfhgincaaDoor
