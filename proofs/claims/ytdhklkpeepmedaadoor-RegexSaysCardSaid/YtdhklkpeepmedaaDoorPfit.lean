/-
  Contract of letterbeckref3's Fits: whether a text fits a pattern. Conditions: the pattern as its nodes; a text of at most a thousand signs.
-/
import Derived.Test.YtdhklkpeepmedaaDoorPeit
import Derived.Test.YtdhklkpeepmedaaDoorTwoc
import Derived.Test.YtdhklkpeepmedaaDoorCuts
namespace Go.Proofs.YtdhklkpeepmedaaDoor
open Go.RowKit

/-- A text against a pattern, whatever text. -/
def FiC (r : Re UInt8) : Prop := ∀ (s : ByteArray) (v : Value) (t : ByteArray) (b : Bool) (kk : Int) (N : List Nd) (k : Nat) (w : World), s.size ≤ 1000 → TreeAt N r k → RdX encN 4 w v N →
  Calls Tryd.prog 20 #[pvA v t b kk, .int .i64 (k : Nat), .string s] w fun e w' => e = .returned (.bool (mtB r (bs s))) ∧ Below w.heap.size w w'
/-- Block g is a variable that holds a node. -/
def NodB (w : World) (g : Nat) (x : Nd) : Prop := w.heap[g]? = some (.cells #[.int .i64 (x.1 : Int), .int .u8 (x.2.1.toNat : Int), .int .i64 (x.2.2.1 : Int), .int .i64 (x.2.2.2 : Int)] 57 (0, 0))
theorem NodB.lt {w : World} {g : Nat} {x : Nd} (h : NodB w g x) : g < w.heap.size := by
  rcases Nat.lt_or_ge g w.heap.size with hlt | hge
  · exact hlt
  · unfold NodB at h; rw [Array.getElem?_eq_none hge] at h; cases h
/-- The pattern in block P, its node in the next one. -/
structure FitW (w W : World) (v : Value) (t : ByteArray) (b : Bool) (kk : Int) (N : List Nd) (x : Nd) : Prop where
  pat : PatB W w.heap.size v t b kk
  nod : NodB W (w.heap.size + 1) x
  rd : RdX encN 4 W v N
  bel : Below w.heap.size w W
theorem FitW.calm {w W W' : World} {v : Value} {t : ByteArray} {b : Bool} {kk : Int} {N : List Nd} {x : Nd} (h : FitW w W v t b kk N x) (hb : Below W.heap.size W W') : FitW w W' v t b kk N x :=
  ⟨h.pat.below hb h.pat.lt, (hb.block _ h.nod.lt).trans h.nod, h.rd.below hb, h.bel.trans (hb.mono h.bel.size)⟩
theorem FitW.drewN {w W : World} {v : Value} {t : ByteArray} {b : Bool} {kk : Int} {N : List Nd} {x : Nd} (h : FitW w W v t b kk N x) (q : Nat) : FitW w (W.drewN q) v t b kk N x := ⟨h.pat, h.nod, h.rd, below_drewN h.bel q⟩
theorem FitW.cells {w W : World} {v : Value} {t : ByteArray} {b : Bool} {kk : Int} {N : List Nd} {x : Nd} (h : FitW w W v t b kk N x) :
    (W.cell? ⟨w.heap.size, 0, none⟩ = some v ∧ W.cell? ⟨w.heap.size, 1, none⟩ = some (.string t) ∧ W.cell? ⟨w.heap.size, 2, none⟩ = some (.bool b) ∧ W.cell? ⟨w.heap.size, 3, none⟩ = some (.int .i64 kk)) ∧
    W.cell? ⟨w.heap.size + 1, 0, none⟩ = some (.int .i64 (x.1 : Int)) ∧ W.cell? ⟨w.heap.size + 1, 1, none⟩ = some (.int .u8 (x.2.1.toNat : Int)) ∧ W.cell? ⟨w.heap.size + 1, 2, none⟩ = some (.int .i64 (x.2.2.1 : Int)) ∧ W.cell? ⟨w.heap.size + 1, 3, none⟩ = some (.int .i64 (x.2.2.2 : Int)) :=
  ⟨h.pat.cells, cell_of_row W _ 0 _ _ _ h.nod, cell_of_row W _ 1 _ _ _ h.nod, cell_of_row W _ 2 _ _ _ h.nod, cell_of_row W _ 3 _ _ _ h.nod⟩
/-- The node that is read, as cells, when the pattern has been laid. -/
theorem fit_node {w : World} {v : Value} {N : List Nd} {k : Nat} {x : Nd} (h : RdX encN 4 w v N) (hx : N[k]? = some x) : ∃ g c, v = .slice (some ⟨g, 0, none⟩) N.length c ∧ k < N.length ∧
    ∀ W, Below w.heap.size w W → W.cell? ⟨g, k * 4, none⟩ = some (.int .i64 (x.1 : Int)) ∧ W.cell? ⟨g, k * 4 + 1, none⟩ = some (.int .u8 (x.2.1.toNat : Int)) ∧ W.cell? ⟨g, k * 4 + 2, none⟩ = some (.int .i64 (x.2.2.1 : Int)) ∧ W.cell? ⟨g, k * 4 + 3, none⟩ = some (.int .i64 (x.2.2.2 : Int)) := by
  obtain ⟨hk, hxk⟩ := List.getElem?_eq_some_iff.1 hx
  rcases h with ⟨rfl, _⟩ | ⟨g, c, rfl, hg, hc⟩
  · exact absurd hk (by simp)
  · refine ⟨g, c, rfl, hk, fun W hb => ?_⟩
    have h0 := hc k hk 0 (by omega)
    have h1 := hc k hk 1 (by omega)
    have h2 := hc k hk 2 (by omega)
    have h3 := hc k hk 3 (by omega)
    rw [hxk] at h0 h1 h2 h3
    exact ⟨(hb.cell hg).trans h0, (hb.cell hg).trans h1, (hb.cell hg).trans h2, (hb.cell hg).trans h3⟩
theorem fit_start {w W : World} {v : Value} {t : ByteArray} {b : Bool} {kk : Int} {N : List Nd} (x : Nd) (h : RdX encN 4 w v N)
    (hW : (w.alloc (.cells #[v, .string t, .bool b, .int .i64 kk] 24)).alloc (.cells #[.int .i64 (x.1 : Int), .int .u8 (x.2.1.toNat : Int), .int .i64 (x.2.2.1 : Int), .int .i64 (x.2.2.2 : Int)] 57) = W) : FitW w W v t b kk N x := by
  subst hW
  have hb : Below w.heap.size w ((w.alloc (.cells #[v, .string t, .bool b, .int .i64 kk] 24)).alloc (.cells #[.int .i64 (x.1 : Int), .int .u8 (x.2.1.toNat : Int), .int .i64 (x.2.2.1 : Int), .int .i64 (x.2.2.2 : Int)] 57)) := ((Below.refl _ w).alloc (Nat.le_refl _) _).alloc (by simp) _
  refine ⟨?_, ?_, h.below hb, hb⟩
  · unfold PatB
    rw [Below.heap_alloc _ _ _ (by simp)]
    exact heap_alloc_new w _
  · have := heap_alloc_new (w.alloc (.cells #[v, .string t, .bool b, .int .i64 kk] 24)) (.cells #[.int .i64 (x.1 : Int), .int .u8 (x.2.1.toNat : Int), .int .i64 (x.2.2.1 : Int), .int .i64 (x.2.2.2 : Int)] 57)
    unfold NodB
    rw [← this]
    simp
set_option maxRecDepth 100000 in
set_option maxHeartbeats 4000000 in
theorem fits_eps : FiC .eps := by
  intro s v t b kk N k w hs hT hN
  obtain ⟨xc, xl, xr, hx⟩ := hT
  obtain ⟨g, c, rfl, hk, hcell⟩ := fit_node hN hx
  have hkI : (k : Int) < (N.length : Int) := by omega
  have HF := hid (fun W hW => fit_start (W := W) (t := t) (b := b) (kk := kk) (0, xc, xl, xr) hN hW)
  obtain ⟨m0, m1, m2, m3⟩ := hcell (w.alloc (.cells #[.slice (some ⟨g, 0, none⟩) N.length c, .string t, .bool b, .int .i64 kk] 24)) ((Below.refl _ w).alloc (Nat.le_refl _) _)
  obtain ⟨q, hq⟩ : ∃ q, q = mtB .eps (bs s) := ⟨_, rfl⟩
  rw [← hq]
  rw [mtB_eps, bs_len] at hq
  have HQ := hid hq
  clear hx hN hcell hq
  unfold pvA
  go_enter Tryd.func20, Tryd.ntmps20
  go_wp2_with fail
  go_ret
  refine ⟨ret_bool ?_, (HF.out _ rfl).bel⟩
  rw [HQ.out]
  rcases Nat.eq_zero_or_pos s.size with e | e
  · simp [e]
  · rw [decide_eq_false (by omega)]
    exact beq_eq_false_iff_ne.2 (by omega)
set_option maxRecDepth 100000 in
set_option maxHeartbeats 4000000 in
theorem fits_ch (c0 : UInt8) : FiC (.ch c0) := by
  intro s v t b kk N k w hs hT hN
  obtain ⟨xl, xr, hx⟩ := hT
  obtain ⟨g, c, rfl, hk, hcell⟩ := fit_node hN hx
  have hkI : (k : Int) < (N.length : Int) := by omega
  have HF := hid (fun W hW => fit_start (W := W) (t := t) (b := b) (kk := kk) (1, c0, xl, xr) hN hW)
  obtain ⟨m0, m1, m2, m3⟩ := hcell (w.alloc (.cells #[.slice (some ⟨g, 0, none⟩) N.length c, .string t, .bool b, .int .i64 kk] 24)) ((Below.refl _ w).alloc (Nat.le_refl _) _)
  obtain ⟨q, hq⟩ : ∃ q, q = mtB (.ch c0) (bs s) := ⟨_, rfl⟩
  rw [← hq]
  have HQ := hid hq
  clear hx hN hcell hq
  unfold pvA
  by_cases h1 : s.size = 1
  · have h1b : ((s.size : Int) == 1) = true := beq_iff_eq.2 (by omega)
    have h1p : 0 < s.size := by omega
    have H1 := hid h1
    clear h1
    go_enter Tryd.func20, Tryd.ntmps20
    go_wp2_with fail
    go_quiet (fail)
    go_wp2_with fail
    go_ret
    refine ⟨ret_bool ?_, below_drewN (HF.out _ rfl).bel _⟩
    rw [HQ.out, byte_is]
    refine bool_iff ?_
    rw [decide_eq_true_eq, mtB_ch]
    have hb : bs s = [s[0]] := by
      have := bs_get s 0 h1p
      rcases e : bs s with _ | ⟨x, l⟩
      · rw [e] at this; cases this
      · have hl := bs_len s
        rw [e, H1.out] at hl
        have : l = [] := List.eq_nil_of_length_eq_zero (by simpa using hl)
        subst this
        simp_all
    rw [hb]
    simp
  · have h1b : ((s.size : Int) == 1) = false := beq_eq_false_iff_ne.2 (by omega)
    have H1 := hid h1
    clear h1
    go_enter Tryd.func20, Tryd.ntmps20
    go_wp2_with fail
    go_quiet (fail)
    go_wp2_with fail
    go_ret
    refine ⟨ret_bool ?_, below_drewN (HF.out _ rfl).bel _⟩
    rw [HQ.out]
    cases e : mtB (.ch c0) (bs s) with
    | false => rfl
    | true =>
      have h2 := (mtB_ch c0 (bs s)).1 e
      have h3 := bs_len s
      rw [h2] at h3
      exact absurd h3.symm H1.out
set_option maxRecDepth 100000 in
set_option maxHeartbeats 4000000 in
theorem fits_alt (ra rb : Re UInt8) (HA : FiC ra) (HB : FiC rb) : FiC (.alt ra rb) := by
  intro s v t b kk N k w hs hT hN
  obtain ⟨xc, xl, xr, hx, hTa, hTb⟩ := hT
  obtain ⟨g, c, rfl, hk, hcell⟩ := fit_node hN hx
  have hkI : (k : Int) < (N.length : Int) := by omega
  have HF := hid (fun W hW => fit_start (W := W) (t := t) (b := b) (kk := kk) (2, xc, xl, xr) hN hW)
  obtain ⟨m0, m1, m2, m3⟩ := hcell (w.alloc (.cells #[.slice (some ⟨g, 0, none⟩) N.length c, .string t, .bool b, .int .i64 kk] 24)) ((Below.refl _ w).alloc (Nat.le_refl _) _)
  obtain ⟨q, hq⟩ : ∃ q, q = mtB (.alt ra rb) (bs s) := ⟨_, rfl⟩
  rw [← hq]
  rw [mtB_alt] at hq
  have HQ := hid hq
  have HA2 := fun W (h : RdX encN 4 W (.slice (some ⟨g, 0, none⟩) N.length c) N) => hid (HA s (.slice (some ⟨g, 0, none⟩) N.length c) t b kk N xl W hs hTa h)
  have HB2 := fun W (h : RdX encN 4 W (.slice (some ⟨g, 0, none⟩) N.length c) N) => hid (HB s (.slice (some ⟨g, 0, none⟩) N.length c) t b kk N xr W hs hTb h)
  generalize mtB ra (bs s) = qa at HA2 HQ
  generalize mtB rb (bs s) = qb at HB2 HQ
  clear hx hN hcell hq HA HB hTa hTb
  unfold pvA at HA2 HB2 ⊢
  go_enter Tryd.func20, Tryd.ntmps20
  go_wp2_with fail
  have F0 := hid (HF.out _ rfl)
  clear HF m0 m1 m2 m3
  refine (HA2 _ F0.out.rd).out.mono ?_
  rintro e w1 ⟨rfl, hb1⟩
  have F1 := hid (F0.out.calm hb1)
  clear F0 hb1 HA2
  obtain ⟨⟨c0, c1, c2, c3⟩, d0, d1, d2, d3⟩ := F1.out.cells
  cases qa with
  | true =>
    go_wp2_with fail
    go_ret
    exact ⟨ret_bool (by rw [HQ.out]; rfl), F1.out.bel⟩
  | false =>
    go_wp2_with fail
    refine (HB2 _ F1.out.rd).out.mono ?_
    rintro e w2 ⟨rfl, hb2⟩
    have F2 := F1.out.calm hb2
    have hbw := F2.bel
    clear F1 F2 hb2 HB2
    go_wp2_with fail
    go_ret
    exact ⟨ret_bool (by rw [HQ.out]; rfl), hbw⟩
set_option maxRecDepth 100000 in
set_option maxHeartbeats 8000000 in
theorem fits_cat (ra rb : Re UInt8) (HA : FiC ra) (HB : FiC rb) : FiC (.cat ra rb) := by
  intro s v t b kk N k w hs hT hN
  obtain ⟨xc, xl, xr, hx, hTa, hTb⟩ := hT
  obtain ⟨g, c, rfl, hk, hcell⟩ := fit_node hN hx
  have hkI : (k : Int) < (N.length : Int) := by omega
  have HF := hid (fun W hW => fit_start (W := W) (t := t) (b := b) (kk := kk) (3, xc, xl, xr) hN hW)
  obtain ⟨m0, m1, m2, m3⟩ := hcell (w.alloc (.cells #[.slice (some ⟨g, 0, none⟩) N.length c, .string t, .bool b, .int .i64 kk] 24)) ((Below.refl _ w).alloc (Nat.le_refl _) _)
  obtain ⟨q, hq⟩ : ∃ q, q = mtB (.cat ra rb) (bs s) := ⟨_, rfl⟩
  rw [← hq]
  rw [mtB_cat, bs_len] at hq
  have HQ := hid hq
  have HA2 := hid (fun u W (hu : u.size ≤ 1000) (h : RdX encN 4 W (.slice (some ⟨g, 0, none⟩) N.length c) N) => HA u (.slice (some ⟨g, 0, none⟩) N.length c) t b kk N xl W hu hTa h)
  have HB2 := hid (fun u W (hu : u.size ≤ 1000) (h : RdX encN 4 W (.slice (some ⟨g, 0, none⟩) N.length c) N) => HB u (.slice (some ⟨g, 0, none⟩) N.length c) t b kk N xr W hu hTb h)
  clear hx hN hcell hq HA HB hTa hTb
  unfold pvA at HA2 HB2 ⊢
  go_enter Tryd.func20, Tryd.ntmps20
  go_wp2_with fail
  have F0 := hid (HF.out _ rfl)
  clear HF m0 m1 m2 m3
  generalize World.alloc (World.alloc w _) _ = w0 at F0 ⊢
  go_loopw [8] (fun x wr => ∃ i : Nat, x = .int .i64 i ∧ i ≤ s.size + 1 ∧ Hid (FitW w wr (.slice (some ⟨g, 0, none⟩) N.length c) t b kk N (3, xc, xl, xr)) ∧ Hid (cutB ra rb (bs s) i = false)) (fun x _ => s.size + 1 - (intOf x).toNat)
  case atStart => exact ⟨0, rfl, by omega, F0, hid rfl⟩
  case round =>
    clear F0
    obtain ⟨i, rfl, hi, F, HI⟩ := hrel
    by_cases hle : i ≤ s.size
    · have hleI : (i : Int) ≤ (s.size : Int) := by omega
      have hc1 := cut_head s i hle
      have hc2 := cut_tail s i hle
      obtain ⟨⟨c0, c1, c2, c3⟩, d0, d1, d2, d3⟩ := F.out.cells
      obtain ⟨qa, hqa⟩ : ∃ z, z = mtB ra ((bs s).take i) := ⟨_, rfl⟩
      obtain ⟨qb, hqb⟩ : ∃ z, z = mtB rb ((bs s).drop i) := ⟨_, rfl⟩
      have HA3 := fun W (h : FitW w W (.slice (some ⟨g, 0, none⟩) N.length c) t b kk N (3, xc, xl, xr)) => hid ((HA2.out (s.extract 0 i) W (by rw [ByteArray.size_extract]; omega) h.rd).mono fun e w' (he : e = .returned (.bool (mtB ra (bs (s.extract 0 i)))) ∧ Below W.heap.size W w') => (⟨he.1.trans (by rw [bs_head, hqa]), h.calm he.2⟩ : e = .returned (.bool qa) ∧ FitW w w' (.slice (some ⟨g, 0, none⟩) N.length c) t b kk N (3, xc, xl, xr)))
      have HB3 := fun W (h : FitW w W (.slice (some ⟨g, 0, none⟩) N.length c) t b kk N (3, xc, xl, xr)) => hid ((HB2.out (s.extract i s.size) W (by rw [ByteArray.size_extract]; omega) h.rd).mono fun e w' (he : e = .returned (.bool (mtB rb (bs (s.extract i s.size)))) ∧ Below W.heap.size W w') => (⟨he.1.trans (by rw [bs_tail, hqb]), h.calm he.2⟩ : e = .returned (.bool qb) ∧ FitW w w' (.slice (some ⟨g, 0, none⟩) N.length c) t b kk N (3, xc, xl, xr)))
      have HQ2 := hid (And.intro hqa hqb)
      clear hqa hqb
      generalize s.extract 0 i = u1 at hc1 HA3
      generalize s.extract i s.size = u2 at hc2 HB3
      have HI2 := hid hle
      clear hle
      go_wp2_with fail
      refine (wpIn_wide (n := 1)).1 ?_
      refine wpIn_region_two (C := fun w' => ∃ q, w' = wr.drewN q) (lets_wide _) 6 8 14 (by kernel_rfl) (by kernel_rfl) ⟨1, rfl⟩ ?_
      simp only [List.take_succ_cons, List.take_zero, List.drop_succ_cons, List.drop_zero]
      repeat (quiet_step (fail))
      refine wpQuiet_nil ?_
      rintro _ ⟨q1, rfl⟩
      have F1 := hid (F.out.drewN q1)
      clear F c0 c1 c2 c3 d0 d1 d2 d3
      generalize wr.drewN q1 = wy at F1 ⊢
      gi_wp2_with fail
      refine ⟨trivial, (callsIn_wide.2 (HA3 _ F1.out).out).mono ?_⟩
      rintro e w6 ⟨rfl, hF6⟩
      have F6 := hid hF6
      obtain ⟨⟨c0, c1, c2, c3⟩, d0, d1, d2, d3⟩ := hF6.cells
      clear hF6 F1 HA3
      gi_wp2_with fail
      change wpQuiet _ _ _ _ _ _
      rcases Bool.eq_false_or_eq_true qa with hqa | hqa
      · refine wpQuiet_free (wanted_is (j := 7) (b := true) (c := qa) rfl (by kernel_rfl) hqa) ?_
        quiet_step (fail)
        iterate 5 (refine wpQuiet_free (wanted_is (j := 7) (b := true) (c := true) rfl (by kernel_rfl) rfl) ?_; quiet_step (fail))
        refine wpQuiet_nil ?_
        refine wpListIn_free (wanted_is (j := 7) (b := true) (c := true) rfl (by kernel_rfl) rfl) ?_
        gi_wp2_with fail
        refine ⟨trivial, (callsIn_wide.2 (HB3 _ F6.out).out).mono ?_⟩
        rintro e w7 ⟨rfl, hF7⟩
        have F7 := hid hF7
        clear hF7 F6 HB3 c0 c1 c2 c3 d0 d1 d2 d3
        rcases Bool.eq_false_or_eq_true qb with hqb | hqb
        · gi_wp2_with fail
          go_wp2_with fail
          go_ret
          exact ⟨ret_bool (by rw [HQ.out]; exact (cutB_stop (HQ2.out.1.symm.trans hqa) (HQ2.out.2.symm.trans hqb) (by have := HI2.out; omega)).symm), F7.out.bel⟩
        · have HN := hid (show cutB ra rb (bs s) (i + 1) = false by rw [cutB, HI.out, ← HQ2.out.2, hqb, Bool.and_false]; rfl)
          gi_wp2_with fail
          go_wp2_with fail
          go_roundw
          case rel => exact ⟨i + 1, by go_num, by have := HI2.out; omega, F7, HN⟩
          case measure => have := HI2.out; simp [intOf]; omega
      · iterate 6 (refine wpQuiet_skip (wanted_not (j := 7) (b := true) (c := qa) rfl (by kernel_rfl) hqa) ?_; simp only [Act.put, List.setIfInBounds_toArray, List.set_cons_zero, List.set_cons_succ])
        refine wpQuiet_nil ?_
        refine wpListIn_skip (lets_wide _) (wanted_not (j := 7) (b := true) (c := qa) rfl (by kernel_rfl) hqa) ?_
        have HN := hid (show cutB ra rb (bs s) (i + 1) = false by rw [cutB, HI.out, ← HQ2.out.1, hqa]; rfl)
        clear HB3 c0 c1 c2 c3 d0 d1 d2 d3
        gi_wp2_with fail
        go_wp2_with fail
        go_roundw
        case rel => exact ⟨i + 1, by go_num, by have := HI2.out; omega, F6, HN⟩
        case measure => have := HI2.out; simp [intOf]; omega
    · have hge : ¬ (i : Int) ≤ (s.size : Int) := by omega
      obtain rfl : i = s.size + 1 := by omega
      go_wp2_with fail
      go_ret
      exact ⟨ret_bool (by rw [HQ.out, HI.out]), F.out.bel⟩
/-- A text against a pattern, this text. -/
def FiS (r : Re UInt8) (s : ByteArray) : Prop := ∀ (v : Value) (t : ByteArray) (b : Bool) (kk : Int) (N : List Nd) (k : Nat) (w : World), s.size ≤ 1000 → TreeAt N r k → RdX encN 4 w v N →
  Calls Tryd.prog 20 #[pvA v t b kk, .int .i64 (k : Nat), .string s] w fun e w' => e = .returned (.bool (mtB r (bs s))) ∧ Below w.heap.size w w'
set_option maxRecDepth 100000 in
set_option maxHeartbeats 8000000 in
theorem fits_star_step (ra : Re UInt8) (HA : FiC ra) (s : ByteArray) (IH : ∀ u : ByteArray, u.size < s.size → FiS (.star ra) u) : FiS (.star ra) s := by
  intro v t b kk N k w hs hT hN
  have hT0 := hT
  obtain ⟨xc, xl, xr, hx, hTa⟩ := hT
  obtain ⟨g, c, rfl, hk, hcell⟩ := fit_node hN hx
  have hkI : (k : Int) < (N.length : Int) := by omega
  have HF := hid (fun W hW => fit_start (W := W) (t := t) (b := b) (kk := kk) (4, xc, xl, xr) hN hW)
  obtain ⟨m0, m1, m2, m3⟩ := hcell (w.alloc (.cells #[.slice (some ⟨g, 0, none⟩) N.length c, .string t, .bool b, .int .i64 kk] 24)) ((Below.refl _ w).alloc (Nat.le_refl _) _)
  obtain ⟨q, hq⟩ : ∃ q, q = mtB (.star ra) (bs s) := ⟨_, rfl⟩
  rw [← hq]
  have HA2 := hid (fun u W (hu : u.size ≤ 1000) (h : RdX encN 4 W (.slice (some ⟨g, 0, none⟩) N.length c) N) => HA u (.slice (some ⟨g, 0, none⟩) N.length c) t b kk N xl W hu hTa h)
  have HB2 := hid (fun (u : ByteArray) W (hu : u.size < s.size) (hu2 : u.size ≤ 1000) (h : RdX encN 4 W (.slice (some ⟨g, 0, none⟩) N.length c) N) => IH u hu (.slice (some ⟨g, 0, none⟩) N.length c) t b kk N k W hu2 hT0 h)
  rcases Nat.eq_zero_or_pos s.size with h0 | h0
  · have hz : ((s.size : Int) == 0) = true := beq_iff_eq.2 (by omega)
    have hq2 : q = true := by rw [hq, bs_zero h0]; rfl
    have HQ := hid hq2
    clear hx hN hcell hq HA IH hTa hT0 HA2 HB2 h0 hq2
    unfold pvA
    go_enter Tryd.func20, Tryd.ntmps20
    go_wp2_with fail
    have F0 := hid (HF.out _ rfl)
    go_ret
    exact ⟨ret_bool HQ.out.symm, F0.out.bel⟩
  have hz : ((s.size : Int) == 0) = false := beq_eq_false_iff_ne.2 (by omega)
  rw [mtB_star ra (fun e => by have h := bs_len s; rw [e] at h; simp at h; omega), bs_len] at hq
  have HQ := hid hq
  have HP := hid h0
  clear hx hN hcell hq HA IH hTa hT0 h0
  unfold pvA at HA2 HB2 ⊢
  go_enter Tryd.func20, Tryd.ntmps20
  go_wp2_with fail
  have F0 := hid (HF.out _ rfl)
  clear HF m0 m1 m2 m3
  generalize World.alloc (World.alloc w _) _ = w0 at F0 ⊢
  clear hz
  go_loopw [9] (fun x wr => ∃ i : Nat, x = .int .i64 i ∧ 1 ≤ i ∧ i ≤ s.size + 1 ∧ Hid (FitW w wr (.slice (some ⟨g, 0, none⟩) N.length c) t b kk N (4, xc, xl, xr)) ∧ Hid (starB ra (bs s) i = false)) (fun x _ => s.size + 1 - (intOf x).toNat)
  case atStart => exact ⟨1, rfl, Nat.le_refl _, by omega, F0, hid rfl⟩
  case round =>
    clear F0
    obtain ⟨i, rfl, hi1, hi, F, HI⟩ := hrel
    by_cases hle : i ≤ s.size
    · have hleI : (i : Int) ≤ (s.size : Int) := by omega
      have hc1 := cut_head s i hle
      have hc2 := cut_tail s i hle
      obtain ⟨⟨c0, c1, c2, c3⟩, d0, d1, d2, d3⟩ := F.out.cells
      obtain ⟨qa, hqa⟩ : ∃ z, z = mtB ra ((bs s).take i) := ⟨_, rfl⟩
      obtain ⟨qb, hqb⟩ : ∃ z, z = mtB (.star ra) ((bs s).drop i) := ⟨_, rfl⟩
      have HA3 := fun W (h : FitW w W (.slice (some ⟨g, 0, none⟩) N.length c) t b kk N (4, xc, xl, xr)) => hid ((HA2.out (s.extract 0 i) W (by rw [ByteArray.size_extract]; omega) h.rd).mono fun e w' (he : e = .returned (.bool (mtB ra (bs (s.extract 0 i)))) ∧ Below W.heap.size W w') => (⟨he.1.trans (by rw [bs_head, hqa]), h.calm he.2⟩ : e = .returned (.bool qa) ∧ FitW w w' (.slice (some ⟨g, 0, none⟩) N.length c) t b kk N (4, xc, xl, xr)))
      have HB3 := fun W (h : FitW w W (.slice (some ⟨g, 0, none⟩) N.length c) t b kk N (4, xc, xl, xr)) => hid ((HB2.out (s.extract i s.size) W (by rw [ByteArray.size_extract]; omega) (by rw [ByteArray.size_extract]; omega) h.rd).mono fun e w' (he : e = .returned (.bool (mtB (.star ra) (bs (s.extract i s.size)))) ∧ Below W.heap.size W w') => (⟨he.1.trans (by rw [bs_tail, hqb]), h.calm he.2⟩ : e = .returned (.bool qb) ∧ FitW w w' (.slice (some ⟨g, 0, none⟩) N.length c) t b kk N (4, xc, xl, xr)))
      have HQ2 := hid (And.intro hqa hqb)
      clear hqa hqb
      generalize s.extract 0 i = u1 at hc1 HA3
      generalize s.extract i s.size = u2 at hc2 HB3
      have HI2 := hid hle
      clear hle
      go_wp2_with fail
      refine (wpIn_wide (n := 1)).1 ?_
      refine wpIn_region_two (C := fun w' => ∃ q, w' = wr.drewN q) (lets_wide _) 6 8 13 (by kernel_rfl) (by kernel_rfl) ⟨1, rfl⟩ ?_
      simp only [List.take_succ_cons, List.take_zero, List.drop_succ_cons, List.drop_zero]
      repeat (quiet_step (fail))
      refine wpQuiet_nil ?_
      rintro _ ⟨q1, rfl⟩
      have F1 := hid (F.out.drewN q1)
      clear F c0 c1 c2 c3 d0 d1 d2 d3
      generalize wr.drewN q1 = wy at F1 ⊢
      gi_wp2_with fail
      refine ⟨trivial, (callsIn_wide.2 (HA3 _ F1.out).out).mono ?_⟩
      rintro e w6 ⟨rfl, hF6⟩
      have F6 := hid hF6
      obtain ⟨⟨c0, c1, c2, c3⟩, d0, d1, d2, d3⟩ := hF6.cells
      clear hF6 F1 HA3
      gi_wp2_with fail
      change wpQuiet _ _ _ _ _ _
      rcases Bool.eq_false_or_eq_true qa with hqa | hqa
      · refine wpQuiet_free (wanted_is (j := 7) (b := true) (c := qa) rfl (by kernel_rfl) hqa) ?_
        quiet_step (fail)
        iterate 4 (refine wpQuiet_free (wanted_is (j := 7) (b := true) (c := true) rfl (by kernel_rfl) rfl) ?_; quiet_step (fail))
        refine wpQuiet_nil ?_
        refine wpListIn_free (wanted_is (j := 7) (b := true) (c := true) rfl (by kernel_rfl) rfl) ?_
        gi_wp2_with fail
        refine ⟨trivial, (callsIn_wide.2 (HB3 _ F6.out).out).mono ?_⟩
        rintro e w7 ⟨rfl, hF7⟩
        have F7 := hid hF7
        clear hF7 F6 HB3 c0 c1 c2 c3 d0 d1 d2 d3
        rcases Bool.eq_false_or_eq_true qb with hqb | hqb
        · gi_wp2_with fail
          go_wp2_with fail
          go_ret
          exact ⟨ret_bool (by rw [HQ.out]; exact (starB_stop hi1 (HQ2.out.1.symm.trans hqa) (HQ2.out.2.symm.trans hqb) (by have := HI2.out; omega)).symm), F7.out.bel⟩
        · have HN := hid (show starB ra (bs s) (i + 1) = false by rw [starB_succ ra (bs s) hi1, HI.out, ← HQ2.out.2, hqb, Bool.and_false]; rfl)
          gi_wp2_with fail
          go_wp2_with fail
          go_roundw
          case rel => exact ⟨i + 1, by go_num, by omega, by have := HI2.out; omega, F7, HN⟩
          case measure => have := HI2.out; simp [intOf]; omega
      · iterate 5 (refine wpQuiet_skip (wanted_not (j := 7) (b := true) (c := qa) rfl (by kernel_rfl) hqa) ?_; simp only [Act.put, List.setIfInBounds_toArray, List.set_cons_zero, List.set_cons_succ])
        refine wpQuiet_nil ?_
        refine wpListIn_skip (lets_wide _) (wanted_not (j := 7) (b := true) (c := qa) rfl (by kernel_rfl) hqa) ?_
        have HN := hid (show starB ra (bs s) (i + 1) = false by rw [starB_succ ra (bs s) hi1, HI.out, ← HQ2.out.1, hqa]; rfl)
        clear HB3 c0 c1 c2 c3 d0 d1 d2 d3
        gi_wp2_with fail
        go_wp2_with fail
        go_roundw
        case rel => exact ⟨i + 1, by go_num, by omega, by have := HI2.out; omega, F6, HN⟩
        case measure => have := HI2.out; simp [intOf]; omega
    · have hge : ¬ (i : Int) ≤ (s.size : Int) := by omega
      obtain rfl : i = s.size + 1 := by omega
      go_wp2_with fail
      go_ret
      exact ⟨ret_bool (by rw [HQ.out, HI.out]), F.out.bel⟩
theorem fits_star (ra : Re UInt8) (HA : FiC ra) : FiC (.star ra) := by
  have key : ∀ (n : Nat) (s : ByteArray), s.size ≤ n → FiS (.star ra) s := by
    intro n
    induction n with
    | zero => exact fun s hn => fits_star_step ra HA s fun u hu => by omega
    | succ n ih => exact fun s hn => fits_star_step ra HA s fun u hu => ih u (by omega)
  exact fun s => key s.size s (Nat.le_refl _)
theorem fits_all : ∀ r : Re UInt8, FiC r
  | .eps => fits_eps
  | .ch c => fits_ch c
  | .alt a b => fits_alt a b (fits_all a) (fits_all b)
  | .cat a b => fits_cat a b (fits_all a) (fits_all b)
  | .star a => fits_star a (fits_all a)
set_option maxRecDepth 100000 in
theorem Fits_any (p : Value) (r : Re UInt8) (s : ByteArray) (w : World) (hs : s.size ≤ 1000) (hp : PatV w p r) :
    Calls Tryd.prog 10 #[p, .string s] w fun e w' => e = .returned (.bool (mtB r (bs s))) ∧ Below w.heap.size w w' := by
  obtain ⟨v, k, N, rfl, hN, hT⟩ := hp
  have H := fun W (hb : Below w.heap.size w W) => hid (fits_all r s v ByteArray.empty false (k : Nat) N k W hs hT (hN.below hb))
  obtain ⟨q, hq⟩ : ∃ q, q = mtB r (bs s) := ⟨_, rfl⟩
  rw [← hq] at H ⊢
  clear hq hN hT hs
  unfold pvA at H ⊢
  go_enter Tryd.func10, Tryd.ntmps10
  go_wp2_with fail
  have hb0 : Below w.heap.size w (w.alloc (.cells #[v, .string ByteArray.empty, .bool false, .int .i64 (k : Nat)] 24)) := (Below.refl _ w).alloc (Nat.le_refl _) _
  refine (H _ hb0).out.mono ?_
  rintro e w1 ⟨rfl, hb1⟩
  have hbw := hb0.trans (hb1.mono hb0.size)
  clear H hb0 hb1
  go_wp2_with fail
  go_ret
  exact ⟨rfl, hbw⟩
end Go.Proofs.YtdhklkpeepmedaaDoor
