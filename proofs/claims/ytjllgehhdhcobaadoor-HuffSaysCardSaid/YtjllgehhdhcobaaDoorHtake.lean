/-
  Contract of the function that huff.Long makes: it takes the first one of the lightest heaps out. Conditions: there is a heap, and there is room for at most ten.
-/
import Derived.Test.YtjllgehhdhcobaaDoorHlight
import Derived.Test.YtjllgehhdhcobaaDoorHdel
namespace Go.Proofs.YtjllgehhdhcobaaDoor
open Go.RowKit

/-- The variable in block V holds the heaps ts, which lie in block T. -/
structure Trs (w : World) (V T cap : Nat) (ts : List Tr) : Prop where
  v : BlkAt w V 43 [.slice (some ⟨T, 0, none⟩) ts.length cap]
  t : TreesAt w T 46 cap ts
  ne : V ≠ T
theorem Trs.chg {S : Nat → Prop} {w w' : World} {V T cap : Nat} {ts : List Tr} (h : Trs w V T cap ts) (hc : Chg S w w') (h1 : ¬ S V) (h2 : ¬ S T) : Trs w' V T cap ts := ⟨h.v.chg hc h1, h.t.chg hc h2, h.ne⟩
theorem Trs.below {w w' : World} {V T cap : Nat} {ts : List Tr} (h : Trs w V T cap ts) (hb : Below w.heap.size w w') : Trs w' V T cap ts := h.chg (S := fun _ => False) (Chg.of_below hb) (fun h => h) (fun h => h)

set_option maxRecDepth 100000 in
set_option maxHeartbeats 2000000 in
theorem take_any (V T cap : Nat) (ts : List Tr) (w : World) (h : Trs w V T cap ts) (h0 : 0 < ts.length) (h10 : cap ≤ 10) :
    Calls Tryd.prog 16 #[.pointer (some ⟨V, 0, none⟩)] w fun e w' => ∃ k : Nat, FMin (ts.map Prod.fst) k ∧ k < ts.length ∧ e = .returned (.agg #[.int .i64 (ts.getD k tz).1, sv (ts.getD k tz)]) ∧ Trs w' V T cap (ts.eraseIdx k) ∧ Chg (fun b => b = V ∨ b = T) w w' := by
  have hcap := h.t.1
  have hVlt := h.v.lt
  have hTlt := h.t.lt
  have hne := h.ne
  have cV := h.v.cell (k := 0) (v := .slice (some ⟨T, 0, none⟩) ts.length cap) rfl
  have HL := fun (w1 : World) (h1 : TreesAt w1 T 46 cap ts) => hid (lightest_any T cap ts.length ts w1 h1 rfl h0 (by omega))
  have HD : ∀ (k : Nat) (w1 : World), TreesAt w1 T 46 cap ts → k < ts.length → Hid (Calls Tryd.prog 18 #[.slice (some ⟨T, 0, none⟩) ts.length cap, .int .i64 (k : Int), .int .i64 ((k : Int) + 1)] w1
      fun e w' => e = .returned (.slice (some ⟨T, 0, none⟩) (ts.length - 1) cap) ∧ TreesAt w' T 46 cap (ts.eraseIdx k) ∧ Only T w1 w') :=
    fun k w1 h1 h2 => hid (delete_any T cap ts.length k (k + 1) ts w1 h1 rfl h2 rfl)
  have HH := hid h
  clear h
  obtain ⟨n, hn⟩ : ∃ n, n = ts.length := ⟨_, rfl⟩
  have HN := hid hn
  rw [← hn] at h0 hcap cV HL HD ⊢
  clear hn
  go_enter Tryd.func16, Tryd.ntmps16
  go_wp2_with fail
  generalize hwa : World.alloc w _ = wa
  have hba : Below w.heap.size w wa := by rw [← hwa]; exact (Below.refl _ _).alloc (Nat.le_refl _) _
  have hRa : wa.heap.size = w.heap.size + 1 := by rw [← hwa]; simp
  have hr0 : wa.heap[w.heap.size]? = some (.cells #[.int .i64 0, .slice none 0 0] 46 (0, 0)) := by rw [← hwa]; exact heap_alloc_new w _
  clear hwa cV
  have HHa := hid (HH.out.below hba)
  refine ((HL wa HHa.out.t).out).mono ?_
  rintro e w1 ⟨k, hmin, rfl, hb1⟩
  have hkn : k < n := by have := hmin.1; rw [List.length_map, ← HN.out] at this; exact this
  have HM := hid hmin
  have HH1 := hid (HHa.out.below hb1)
  have hb01 := hba.trans (hb1.mono (by omega))
  have cV := HH1.out.v.cell (k := 0) (v := .slice (some ⟨T, 0, none⟩) ts.length cap) rfl
  rw [← HN.out] at cV
  obtain ⟨c1, c2⟩ := HH1.out.t.cell (k := k) (by have := HN.out; omega)
  unfold sv at c2
  have k1 : (k : Int) < (n : Int) := by omega
  have k2 : (0 : Int) ≤ (k : Int) := by omega
  have l1 := hb01.size
  have l2 := hb1.size
  have hV1 : V < w1.heap.size := by omega
  have hT1 : T < w1.heap.size := by omega
  have hR1 : w.heap.size < w1.heap.size := by omega
  have hr1 := (hb1.block w.heap.size (by omega)).trans hr0
  clear hmin hr0 HHa hba hb1 HH
  obtain ⟨X, hX⟩ : ∃ X, X = (ts.getD k tz).1 := ⟨_, rfl⟩
  obtain ⟨G, hG⟩ : ∃ G, G = (ts.getD k tz).2.1.1 := ⟨_, rfl⟩
  obtain ⟨C, hC⟩ : ∃ C, C = (ts.getD k tz).2.1.2 := ⟨_, rfl⟩
  obtain ⟨M, hM⟩ : ∃ M, M = (ts.getD k tz).2.2.length := ⟨_, rfl⟩
  have HE : Hid (Value.agg #[.int .i64 (ts.getD k tz).1, sv (ts.getD k tz)] = .agg #[.int .i64 X, .slice (some ⟨G, 0, none⟩) M C]) := hid (by rw [hX, hG, hC, hM]; rfl)
  rw [← hX] at c1
  rw [← hG, ← hC, ← hM] at c2
  clear hX hG hC hM
  have HLt := hid (show V < w.heap.size ∧ T < w.heap.size from ⟨hVlt, hTlt⟩)
  clear hVlt hTlt
  go_wp2_with fail
  generalize hwb : World.alloc w1 _ = w2
  have hb2 : Below w1.heap.size w1 w2 := by rw [← hwb]; exact (Below.refl _ _).alloc (Nat.le_refl _) _
  have hq2 : BlkAt w2 w1.heap.size 46 [.int .i64 X, .slice (some ⟨G, 0, none⟩) M C] := by rw [← hwb]; exact heap_alloc_new w1 _
  have hr2 : BlkAt w2 w.heap.size 46 [.int .i64 0, .slice none 0 0] := (hb2.block w.heap.size hR1).trans hr1
  have HH2 := hid (HH1.out.below hb2)
  have hb02 := hb01.trans (hb2.mono l1)
  clear hwb HH1 hb2 cV c1 c2 hr1
  refine ((HD k w2 HH2.out.t hkn).out).mono ?_
  rintro e w3 ⟨rfl, hT3, hO3⟩
  have q3 := hq2.only hO3 (by omega)
  have r3 := hr2.only hO3 (by have := HLt.out; omega)
  have v3 := HH2.out.v.only hO3 hne
  obtain ⟨v4, hO4⟩ := v3.stored 0 (.slice (some ⟨T, 0, none⟩) (n - 1) cap)
  have q4 := q3.only hO4 (by omega)
  have r4 := r3.only hO4 (by have := HLt.out; omega)
  have t4 := hT3.only hO4 (Ne.symm hne)
  obtain ⟨r5, hO5⟩ := r4.stored 0 (.int .i64 X)
  obtain ⟨r6, hO6⟩ := r5.stored 1 (.slice (some ⟨G, 0, none⟩) M C)
  have hF : Hid (Trs (((w3.setCell ⟨V, 0, none⟩ (.slice (some ⟨T, 0, none⟩) (n - 1) cap)).setCell ⟨w.heap.size, 0, none⟩ (.int .i64 X)).setCell ⟨w.heap.size, 1, none⟩ (.slice (some ⟨G, 0, none⟩) M C)) V T cap (ts.eraseIdx k) ∧
      Chg (fun b => b = V ∨ b = T) w (((w3.setCell ⟨V, 0, none⟩ (.slice (some ⟨T, 0, none⟩) (n - 1) cap)).setCell ⟨w.heap.size, 0, none⟩ (.int .i64 X)).setCell ⟨w.heap.size, 1, none⟩ (.slice (some ⟨G, 0, none⟩) M C))) := by
    have hl := HLt.out
    have he : (ts.eraseIdx k).length = n - 1 := by rw [List.length_eraseIdx_of_lt (by have := HN.out; omega), ← HN.out]
    refine ⟨⟨?_, (t4.only hO5 (by omega)).only hO6 (by omega), hne⟩, ?_⟩
    · rw [he]
      exact (v4.only hO5 (by omega)).only hO6 (by omega)
    · have hc2 : Chg (fun b => b = V ∨ b = T) w w2 := Chg.of_below hb02
      have hc4 := (hc2.trans (Chg.of_only hO3 (.inr rfl))).trans (Chg.of_only hO4 (.inl rfl))
      have hc6 := (hO5.below (B := w.heap.size) (Nat.le_refl _)).trans (hO6.below (B := w.heap.size) (Nat.le_refl _))
      exact ⟨hc6.os.trans hc4.os, hc6.tape.trans hc4.tape, hc6.output.trans hc4.output, Nat.le_trans hc4.size hc6.size, fun b hb hs => (hc6.block b hb).trans (hc4.block b hb hs)⟩
  have cV := v3.cell (k := 0) rfl
  have fV := v3.frozen 0
  have cQ0 := q4.cell (k := 0) rfl
  have cQ1 := q4.cell (k := 1) rfl
  have cR0 := r4.cell (k := 0) rfl
  have cR1 := r4.cell (k := 1) rfl
  have fR0 := r4.frozen 0
  have fR1 := r4.frozen 1
  have HR6 := hid r6
  clear hT3 hO3 q3 r3 v3 v4 hO4 q4 r4 t4 r5 hO5 r6 hO6 HH2 hq2 hr2 hb02
  go_wp2_with fail
  refine bodyPost_ret (run_results_blk rfl _ _ w.heap.size _ _ rfl HR6.out Tryd.underlying46 (by kernel_rfl)) rfl ?_
  exact ⟨k, HM.out, hkn, by rw [HE.out]; rfl, hF.out⟩
end Go.Proofs.YtjllgehhdhcobaaDoor
