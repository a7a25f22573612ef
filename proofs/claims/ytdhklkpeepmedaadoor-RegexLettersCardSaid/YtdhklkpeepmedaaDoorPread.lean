/-
  Contracts of the pattern reader's small parts: the next sign, one node more; the old memory is left alone. Conditions: fewer than a thousand nodes.
-/
import Derived.Test.YtdhklkpeepmedaaDoorBase
import Derived.Test.YtdhklkpeepmedaaDoorBs
import Derived.Test.YtdhklkpeepmedaaDoorFit
import Derived.Test.YtdhklkpeepmedaaDoorXapp
import Derived.Laws.Rows
import Derived.Laws.Tables
import Derived.Laws.ResultCell
import Derived.Deep.MidRow
namespace Go.Proofs.YtdhklkpeepmedaaDoor
open Go.RowKit

/-- A pattern's value: its nodes, what is left, is it bad, its top. -/
def pvA (v : Value) (s : ByteArray) (b : Bool) (k : Int) : Value := .agg #[v, .string s, .bool b, .int .i64 k]
/-- A node's cells. -/
def encN (x : Nd) : List Value := [.int .i64 (x.1 : Int), .int .u8 (x.2.1.toNat : Int), .int .i64 (x.2.2.1 : Int), .int .i64 (x.2.2.2 : Int)]
/-- A node as a value. -/
def ndA (x : Nd) : Value := .agg #[.int .i64 (x.1 : Int), .int .u8 (x.2.1.toNat : Int), .int .i64 (x.2.2.1 : Int), .int .i64 (x.2.2.2 : Int)]
theorem encN_len (x : Nd) : (encN x).length = 4 := rfl
theorem encN_one (x : Nd) : ∀ u ∈ encN x, u.oneCell' = true := by
  intro u hu; simp [encN] at hu; rcases hu with rfl | rfl | rfl | rfl <;> rfl
/-- The next sign, 0 where there is none. -/
def nxt (s : ByteArray) : UInt8 := if 0 < s.size then sg s 0 else 0

set_option maxHeartbeats 400000 in
theorem next_any (v : Value) (s : ByteArray) (b : Bool) (k : Int) (w : World) :
    Calls Tryd.prog 27 #[pvA v s b k] w fun e w' => e = .returned (.int .u8 ((nxt s).toNat : Int)) ∧ Below w.heap.size w w' := by
  unfold pvA
  by_cases h : 0 < s.size
  · have h0 : ((s.size : Int) == 0) = false := beq_eq_false_iff_ne.2 (by omega)
    have hn : nxt s = s[0] := by unfold nxt; rw [if_pos h, sg_eq s 0 h]
    rw [hn]
    clear hn
    go_enter Tryd.func27, Tryd.ntmps27
    go_wp2
    go_ret
    exact ⟨rfl, (Below.refl _ _).alloc (Nat.le_refl _) _⟩
  · have h0 : ((s.size : Int) == 0) = true := beq_iff_eq.2 (by omega)
    have hn : nxt s = 0 := by unfold nxt; rw [if_neg h]
    rw [hn]
    clear hn
    go_enter Tryd.func27, Tryd.ntmps27
    go_wp2
    go_ret
    exact ⟨rfl, (Below.refl _ _).alloc (Nat.le_refl _) _⟩

theorem nodeI : (Tryd.prog.info? 57).map (fun i => (i.zero, i.size, i.bytes)) = some (some (.agg #[.int .i64 0, .int .u8 0, .int .i64 0, .int .i64 0]), 4, 32) := by kernel_rfl
theorem patI : (Tryd.prog.info? 24).map (fun i => (i.zero, i.size)) = some (some (pvA (.slice none 0 0) ByteArray.empty false 0), 4) := by kernel_rfl

theorem patS : (Tryd.prog.info? 24).map (·.size) = some 4 := by kernel_rfl
/-- Block g is a variable that holds a pattern. -/
def PatB (w : World) (g : Nat) (v : Value) (s : ByteArray) (b : Bool) (k : Int) : Prop := w.heap[g]? = some (.cells #[v, .string s, .bool b, .int .i64 k] 24 (0, 0))
section
variable {w : World} {g : Nat} {v : Value} {s : ByteArray} {b : Bool} {k : Int}
theorem PatB.lt (h : PatB w g v s b k) : g < w.heap.size := by
  rcases Nat.lt_or_ge g w.heap.size with hlt | hge
  · exact hlt
  · unfold PatB at h; rw [Array.getElem?_eq_none hge] at h; cases h
theorem PatB.cells (h : PatB w g v s b k) : w.cell? ⟨g, 0, none⟩ = some v ∧ w.cell? ⟨g, 1, none⟩ = some (.string s) ∧ w.cell? ⟨g, 2, none⟩ = some (.bool b) ∧ w.cell? ⟨g, 3, none⟩ = some (.int .i64 k) :=
  ⟨cell_of_row w g 0 _ _ _ h, cell_of_row w g 1 _ _ _ h, cell_of_row w g 2 _ _ _ h, cell_of_row w g 3 _ _ _ h⟩
theorem PatB.frozen (h : PatB w g v s b k) (j : Nat) : w.frozen? ⟨g, j, none⟩ = false := frozen_of_row w g j _ _ h
theorem PatB.keeps {w' : World} (h : PatB w g v s b k) (he : w'.heap[g]? = w.heap[g]?) : PatB w' g v s b k := by unfold PatB; rw [he]; exact h
theorem PatB.below {w' : World} {B : Nat} (h : PatB w g v s b k) (hb : Below B w w') (hg : g < B) : PatB w' g v s b k := h.keeps (hb.block g hg)
theorem PatB.set0 (h : PatB w g v s b k) (x : Value) : PatB (w.setCell ⟨g, 0, none⟩ x) g x s b k := by unfold PatB; rw [heap_setCell_same w g 0 _ _ _ h]; rfl
theorem PatB.set1 (h : PatB w g v s b k) (x : ByteArray) : PatB (w.setCell ⟨g, 1, none⟩ (.string x)) g v x b k := by unfold PatB; rw [heap_setCell_same w g 1 _ _ _ h]; rfl
theorem PatB.set2 (h : PatB w g v s b k) (x : Bool) : PatB (w.setCell ⟨g, 2, none⟩ (.bool x)) g v s x k := by unfold PatB; rw [heap_setCell_same w g 2 _ _ _ h]; rfl
theorem PatB.set3 (h : PatB w g v s b k) (x : Int) : PatB (w.setCell ⟨g, 3, none⟩ (.int .i64 x)) g v s b x := by unfold PatB; rw [heap_setCell_same w g 3 _ _ _ h]; rfl
end
theorem set_other (w : World) (g i j : Nat) (x : Value) (h : j ≠ g) : (w.setCell ⟨g, i, none⟩ x).heap[j]? = w.heap[j]? := heap_setCell_other _ _ _ _ (by simp; omega)
theorem patU : ∃ fs, Tryd.prog.underlying 24 = some (.struct fs) := ⟨_, Tryd.underlying24⟩
/-- The whole variable is read. -/
theorem wpList_load_pat {ops : Array Oper} {rest : List Oper} {o : Oper} {a : Act} {w : World} {Q : Exit → Act → World → Prop} (hgd : o.guard = none) (x : Operand) (ho : o.op = .load 24 x)
    (g : Nat) (hx : a.eval x = .pointer (some ⟨g, 0, none⟩)) (v : Value) (s : ByteArray) (b : Bool) (k : Int) (hB : PatB w g v s b k)
    (h : wpList Tryd.prog ops Q rest (a.put o.dst (pvA v s b k)) w) : wpList Tryd.prog ops Q (o :: rest) a w := by
  obtain ⟨fs, hu⟩ := patU
  exact wpList_load_row hgd _ x ho g hx _ _ _ _ hB hu rfl patS h
/-- The whole variable is written. -/
theorem wpList_store_pat {ops : Array Oper} {rest : List Oper} {o : Oper} {a : Act} {w : World} {Q : Exit → Act → World → Prop} (hgd : o.guard = none) (x y : Operand) (ho : o.op = .store 24 x y)
    (g : Nat) (v v0 : Value) (s s0 : ByteArray) (b b0 : Bool) (k k0 : Int) (hx : a.eval x = .pointer (some ⟨g, 0, none⟩)) (hy : a.eval y = pvA v s b k) (h1 : v.oneCell' = true) (hB : PatB w g v0 s0 b0 k0)
    (h : ∀ w', PatB w' g v s b k → Below g w w' → (∀ j, j ≠ g → w'.heap[j]? = w.heap[j]?) → w'.heap.size = w.heap.size → wpList Tryd.prog ops Q rest (a.put o.dst undef) w') : wpList Tryd.prog ops Q (o :: rest) a w := by
  refine wpList_plain hgd fun _ hK => ?_
  have hs := run_storeVar_row (P := Tryd.prog) w g _ 24 _ #[v, .string s, .bool b, .int .i64 k] hB patS rfl (all_oneCell_toArray (cs := [v, .string s, .bool b, .int .i64 k]) fun u hu => by
    simp only [List.mem_cons, List.not_mem_nil, or_false] at hu
    rcases hu with rfl | rfl | rfl | rfl
    · exact h1
    · rfl
    · rfl
    · rfl)
  unfold Oper.wp execOp
  simp only [ho, hx, hy, pvA, Instr.storeAt, Instr.sureAddr, Sem.run_bind, Sem.run_pure, Result.andThen_ok, hs]
  exact hK _ _ (h (w.setRow g #[v, .string s, .bool b, .int .i64 k]) (setRow_heap w g _ _ _ _ hB) ⟨rfl, rfl, rfl, by simp, fun j hj => setRow_other w g j _ (by omega)⟩ (fun j hj => setRow_other w g j _ hj) (by simp))
/-- A pattern in a result's variable. -/
theorem run_results_pat {fn : Func} {p : Tmp} (h : fn.results = #[.cell p 24]) (tmps : Array Value) (w : World) (g : Nat) (v : Value) (s : ByteArray) (b : Bool) (k : Int)
    (hp : tmps.getD p undef = .pointer (some ⟨g, 0, none⟩)) (hB : PatB w g v s b k) : (results fn tmps).run Tryd.prog w = .ok (pvA v s b k) w := by
  obtain ⟨fs, hu⟩ := patU
  exact results_cell_row h tmps w g _ _ _ _ hp hB hu rfl patS
theorem RdX.one {w : World} {v : Value} {N : List Nd} (h : RdX encN 4 w v N) : v.oneCell' = true := by
  obtain ⟨A, c, rfl⟩ := h.shape
  rfl

set_option maxRecDepth 100000 in
set_option maxHeartbeats 1000000 in
theorem with_any (v : Value) (s : ByteArray) (b : Bool) (k : Int) (N : List Nd) (x : Nd) (w : World) (hN : RdX encN 4 w v N) (hl : N.length ≤ 1000) :
    Calls Tryd.prog 28 #[pvA v s b k, ndA x] w fun e w' => ∃ v', e = .returned (pvA v' s b (N.length : Nat)) ∧ RdX encN 4 w' v' (N ++ [x]) ∧ Below w.heap.size w w' ∧ ∀ g, v'.ownBlock = some g → w.heap.size ≤ g := by
  unfold pvA ndA
  obtain ⟨i0, hi, hz0, hz1, hz2⟩ := info_parts nodeI
  obtain ⟨xk, xs, xl, xr⟩ := x
  simp only
  have HN := hid hN
  clear hN
  go_enter Tryd.func28, Tryd.ntmps28
  have key : ∀ (wz : World), ((w.alloc (.cells #[v, .string s, .bool b, .int .i64 k] 24)).alloc (.cells #[.int .i64 (xk : Int), .int .u8 (xs.toNat : Int), .int .i64 (xl : Int), .int .i64 (xr : Int)] 57)).alloc (.cells #[.slice none 0 0, .string ByteArray.empty, .bool false, .int .i64 0] 24) = wz →
      Below w.heap.size w wz ∧ wz.heap.size = w.heap.size + 1 + 1 + 1 ∧ PatB wz w.heap.size v s b k ∧ PatB wz (w.heap.size + 1 + 1) (.slice none 0 0) ByteArray.empty false 0 ∧
        wz.heap[w.heap.size + 1]? = some (.cells #[.int .i64 (xk : Int), .int .u8 (xs.toNat : Int), .int .i64 (xl : Int), .int .i64 (xr : Int)] 57 (0, 0)) := fun wz hwz => by
    subst hwz
    refine ⟨(((Below.refl _ w).alloc (Nat.le_refl _) _).alloc (by simp) _).alloc (by simp; omega) _, by simp, ?_, ?_, ?_⟩
    · unfold PatB
      rw [Below.heap_alloc _ _ _ (by simp; omega), Below.heap_alloc _ _ _ (by simp)]
      exact heap_alloc_new w _
    · have := heap_alloc_new ((w.alloc (.cells #[v, .string s, .bool b, .int .i64 k] 24)).alloc (.cells #[.int .i64 (xk : Int), .int .u8 (xs.toNat : Int), .int .i64 (xl : Int), .int .i64 (xr : Int)] 57)) (.cells #[.slice none 0 0, .string ByteArray.empty, .bool false, .int .i64 0] 24)
      unfold PatB
      rw [← this]
      simp
    · rw [Below.heap_alloc _ _ _ (by simp)]
      have := heap_alloc_new (w.alloc (.cells #[v, .string s, .bool b, .int .i64 k] 24)) (.cells #[.int .i64 (xk : Int), .int .u8 (xs.toNat : Int), .int .i64 (xl : Int), .int .i64 (xr : Int)] 57)
      rw [← this]
      simp
  have HK := hid key
  clear key
  go_wp2_with (at_builtin; generalize hwz : World.alloc (World.alloc (World.alloc w _) _) _ = wz; refine wpList_append_xs wz rfl (.tmp 6) (.tmp 8) 22 rfl w.heap.size 57 i0 encN 4 _ 32 encN_len encN_one (by decide) (by decide) Tryd.underlying22 hi hz0 hz1 hz2 rfl (.slice none 0 0) [] rfl (OwnX.nil _ _ _ _ _) v N rfl (HN.out.below (HK.out _ hwz).1) (by simp; omega) (HK.out _ hwz).1.size ?_)
  obtain ⟨hbz, hsz, hP, hR, hX⟩ := HK.out _ hwz
  clear HK hwz HN
  intro v1 w1 hown1 ht1
  have hne : ∀ j, some j ≠ (Value.slice none 0 0).ownBlock := fun j e => by cases e
  have hb1 : Below wz.heap.size wz w1 := ht1.below (Nat.le_refl _) (fun j e => by cases e)
  have hown1 : OwnX encN 4 w1 wz.heap.size 57 v1 N := by
    refine ⟨hown1.1, ?_⟩
    rcases hown1.2 with h' | ⟨g, cap, cur, h1, h2, h3⟩
    · exact .inl h'
    · refine .inr ⟨g, cap, cur, h1, ?_, h3⟩
      subst h1
      rcases ht1.here with e | ⟨g', e, hg'⟩
      · cases e
      · have e : g = g' := by injection e
        omega
  have hP1 := hP.below hb1 (by omega)
  have hR1 := hR.below hb1 (by omega)
  have hX1 : w1.heap[w.heap.size + 1]? = some (.cells #[.int .i64 (xk : Int), .int .u8 (xs.toNat : Int), .int .i64 (xl : Int), .int .i64 (xr : Int)] 57 (0, 0)) := (hb1.block _ (by omega)).trans hX
  have c0 := cell_of_row w1 _ 0 _ _ _ hX1
  have c1 := cell_of_row w1 _ 1 _ _ _ hX1
  have c2 := cell_of_row w1 _ 2 _ _ _ hX1
  have c3 := cell_of_row w1 _ 3 _ _ _ hX1
  have hs1 := hb1.size
  have hbw1 := hbz.trans (hb1.mono hbz.size)
  have HX := hid (And.intro hown1 (And.intro hP1 hR1))
  clear hP hR hX hX1 hown1 hP1 hR1 ht1 hne hbz hb1
  simp at c0 c1 c2 c3
  obtain ⟨A1, C1, hv1, _⟩ := HX.out.1.read encN_len
  subst hv1
  go_wp2_with (at_builtin; refine wpList_append_x w1 rfl (.tmp 10) (.tmp 12) 22 rfl wz.heap.size 57 i0 encN 4 _ 32 encN_len encN_one (by decide) (by decide) Tryd.underlying22 hi hz0 hz1 hz2 rfl (.slice A1 N.length C1) N rfl HX.out.1 (xk, xs, xl, xr) rfl (by omega) hs1 ?_)
  intro v2 w2 hown2 ht2
  have hb2 : Below wz.heap.size w1 w2 := ht2.below hs1 (fun j hj => (HX.out.1.lt hj).1)
  obtain ⟨A2, C2, hv2, _⟩ := hown2.read encN_len
  obtain ⟨m2, hm2⟩ : ∃ m, m = (N ++ [(xk, xs, xl, xr)]).length := ⟨_, rfl⟩
  rw [← hm2] at hv2
  subst hv2
  clear hm2
  have hP2 := HX.out.2.1.below hb2 (by omega)
  have hR2 := HX.out.2.2.below hb2 (by omega)
  have hO2 := RdX.of_own encN_len hown2 (by simp)
  have hbw2 := hbw1.trans (hb2.mono (by omega))
  have one2 := RdX.one hO2
  obtain ⟨p0, _, _, p3⟩ := hP2.cells
  have f0 := hP2.frozen 0
  have f3 := hP2.frozen 3
  have hPa := hP2.set0 (.slice A2 m2 C2)
  have hPb := hPa.set3 (N.length : Nat)
  have hb2s := hb2.size
  have hRb : PatB ((w2.setCell ⟨w.heap.size, 0, none⟩ (.slice A2 m2 C2)).setCell ⟨w.heap.size, 3, none⟩ (.int .i64 (N.length : Nat))) (w.heap.size + 1 + 1) (.slice none 0 0) ByteArray.empty false 0 :=
    hR2.keeps (by rw [set_other _ w.heap.size _ _ _ (by omega), set_other _ w.heap.size _ _ _ (by omega)])
  have hbx : Below w.heap.size w ((w2.setCell ⟨w.heap.size, 0, none⟩ (.slice A2 m2 C2)).setCell ⟨w.heap.size, 3, none⟩ (.int .i64 (N.length : Nat))) :=
    (hbw2.setCell (p := ⟨w.heap.size, 0, none⟩) (Nat.le_refl _) _).setCell (p := ⟨w.heap.size, 3, none⟩) (Nat.le_refl _) _
  have hkb : ∀ j, (Value.slice A2 m2 C2).ownBlock = some j → ((w2.setCell ⟨w.heap.size, 0, none⟩ (.slice A2 m2 C2)).setCell ⟨w.heap.size, 3, none⟩ (.int .i64 (N.length : Nat))).heap[j]? = w2.heap[j]? := fun j hj => by
    have h := (hown2.lt hj).1
    rw [set_other _ w.heap.size _ j _ (by omega), set_other _ w.heap.size _ j _ (by omega)]
  have hOb := hown2.keep hkb
  have HF := hid (And.intro hPb (And.intro hRb hOb))
  clear hkb c0 c1 c2 c3 HX hown2 ht2 hP2 hR2 hO2 hPa hPb hRb hb2 hOb hown1 hbw1 hbw2
  go_wp2_with (first | refine wpList_load_pat rfl _ rfl w.heap.size rfl _ _ _ _ HF.out.1 ?_ | (refine wpList_store_pat rfl _ _ rfl (w.heap.size + 1 + 1) (.slice A2 m2 C2) _ s _ b _ (N.length : Nat) _ rfl rfl one2 HF.out.2.1 ?_))
  intro w4 hR4 hb4 ho4 hs4
  have hO4 := HF.out.2.2.keep fun j hj => ho4 j (by have := (HF.out.2.2.lt hj).1; omega)
  go_wp2_with fail
  refine bodyPost_ret (run_results_pat rfl _ _ (w.heap.size + 1 + 1) (.slice A2 m2 C2) s b (N.length : Nat) rfl hR4) rfl ?_
  exact ⟨_, rfl, RdX.of_own encN_len hO4 (by simp), hbx.trans (hb4.mono (by omega)), fun g hg => by have := (HF.out.2.2.lt hg).1; omega⟩
end Go.Proofs.YtdhklkpeepmedaaDoor
