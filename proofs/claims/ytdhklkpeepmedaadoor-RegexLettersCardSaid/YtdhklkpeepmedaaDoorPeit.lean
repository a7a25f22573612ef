/-
  Contracts of the pattern reader's 'either', and of Read: a pattern as its nodes, or what is wrong with its text. Conditions: the row's own sizes.
-/
import Derived.Test.YtdhklkpeepmedaaDoorProw
namespace Go.Proofs.YtdhklkpeepmedaaDoor
open Go.RowKit

/-- Where the alternatives are read. -/
structure EitW (w0 wr : World) (v0 : Value) (N : List Nd) (sz hi g : Nat) (res : Pt) : Prop where
  ex : ∃ (v : Value) (s : ByteArray) (b : Bool) (k : Nat) (N1 : List Nd), PSt w0 wr v0 v s b k N1 ∧ s.size ≤ sz ∧ s.size ≤ g ∧ N1.length + 3 * s.size ≤ hi ∧
    ((b = true ∧ res = none) ∨ (b = false ∧ ∃ a : Re UInt8, res = pA a (bs s) ∧ TreeAt N1 a k ∧ ∃ M, N1 = N ++ M))
set_option maxRecDepth 100000 in
set_option maxHeartbeats 8000000 in
theorem either_any (n : Nat) (HR : RoC n) : EiC n := by
  intro v s k N w hn hN hl
  have HX := fun v s b (k : Nat) W => hid (next_any v s b (k : Nat) W)
  have HW := fun v s b k N x W h1 h2 => hid (with_any v s b k N x W h1 h2)
  have S0 := hid (PSt.start w v s false k N hN)
  obtain ⟨sz, hsz⟩ : ∃ z, z = s.size := ⟨_, rfl⟩
  obtain ⟨hi, hhi⟩ : ∃ z, z = N.length + 3 * s.size + 1 := ⟨_, rfl⟩
  obtain ⟨res, hres⟩ : ∃ z, z = pE (bs s) := ⟨_, rfl⟩
  obtain ⟨Q, hQ⟩ : ∃ z, z = PtOut w v N sz 0 hi res := ⟨_, rfl⟩
  rw [← hhi, ← hres, ← hsz, ← hQ]
  have HQ := hid hQ
  have HC := hid hres
  have HL := hid (And.intro hl (And.intro hn (And.intro hsz hhi)))
  clear hQ hres hsz hhi hn hl hN
  unfold pvA
  go_enter Tryd.func17, Tryd.ntmps17
  go_wp2_with fail
  refine (HR v s k N _ HL.out.2.1 S0.out.rd HL.out.1).mono ?_
  rintro e w1 ⟨v1, s1, b1, k1, N1, rfl, hr1, hb1, hf1, hz1, hh1, hres1⟩
  have hp1 := S0.out.pat.below hb1 S0.out.pat.lt
  go_wp2_with (refine wpList_store_pat rfl _ _ rfl w.heap.size v1 _ s1 _ b1 _ (k1 : Nat) _ rfl rfl (RdX.one hr1) hp1 ?_)
  intro wx hpx hbx hox hzx
  have S1 := S0.out.next hb1 hr1 hf1 hpx hox hzx hbx
  have HS : Hid (EitW w wx v N sz hi sz res) := hid ⟨_, _, _, _, _, S1, by have := HL.out.2.2.1; omega, by have := HL.out.2.2.1; omega, by have := HL.out; omega, by
    have h2 := HC.out
    rw [pE_eq] at h2
    rcases e : pR none (bs s) with _ | ⟨r, t⟩
    · rw [e] at hres1 h2
      exact .inl ⟨hres1, h2⟩
    · rw [e] at hres1 h2
      obtain ⟨hb, hu, hM, hT⟩ := hres1
      exact .inr ⟨hb, r, by rw [h2, hu], hT, hM⟩⟩
  clear S0 S1 hr1 hb1 hf1 hp1 hpx hbx hox hzx hz1 hh1 hres1
  go_wp2_with fail
  go_loopg [3] sz (fun g _ wr => Hid (EitW w wr v N sz hi g res))
  case atStart => exact HS
  case round =>
    clear HS
    obtain ⟨v4, s4, b4, k4, N4, S4, hz4, hg4, hh4, hr4⟩ := hrel.out.ex
    obtain ⟨d0, d1, d2, d3⟩ := S4.pat.cells
    have S4 := hid S4
    have hrel := hrel
    rcases hr4 with ⟨rfl, hr4⟩ | ⟨rfl, a4, hr4, ht4, hm4⟩
    · have HE4 := hid (And.intro hz4 (And.intro hh4 hr4))
      clear hrel hz4 hg4 hh4 hr4
      go_wp2_with (first | refine wpList_load_pat rfl _ rfl w.heap.size rfl _ _ _ _ S4.out.pat ?_ | refine wpList_store_pat rfl _ _ rfl (w.heap.size + 1) v4 _ s4 _ true _ (k4 : Nat) _ rfl rfl (RdX.one S4.out.rd) S4.out.res ?_)
      intro w6 hp6 hb6 ho6 hz6
      go_wp2_with fail
      refine bodyPost_ret (run_results_pat rfl _ _ (w.heap.size + 1) v4 s4 true (k4 : Nat) rfl hp6) rfl ?_
      rw [HQ.out]
      exact pt_end S4.out ho6 hz6 hb6 HE4.out.1 HE4.out.2.1 (by rw [HE4.out.2.2]; rfl)
    have HE4 := hid (And.intro hz4 (And.intro hh4 (And.intro hr4 (And.intro ht4 hm4))))
    have HG4 := hid hg4
    clear hrel hz4 hg4 hh4 hr4 ht4 hm4
    by_cases h124 : nxt s4 = 124
    · have hs4 : 0 < s4.size := by
        rcases Nat.eq_zero_or_pos s4.size with e | e
        · rw [nxt_zero e] at h124; exact absurd h124 (by decide)
        · exact e
      obtain ⟨t5, ht5, ht6⟩ := nxt_pos hs4
      have hcut5 := cut_one s4 hs4
      have hsz5 := cut_size hs4
      generalize s4.extract 1 s4.size = s5 at hcut5 ht6 hsz5
      have H42 := hid (And.intro h124 (And.intro ht5 (And.intro ht6 hsz5)))
      clear h124 ht5 ht6 hsz5 hs4
      go_wp2_with fail
      refine (HX v4 s4 false k4 _).out.mono ?_
      rintro e w5 ⟨rfl, hb5⟩
      rw [H42.out.1]
      have S5 := hid (S4.out.calm hb5)
      clear S4 hb5 d0 d1 d2 d3
      obtain ⟨d0, d1, d2, d3⟩ := S5.out.pat.cells
      have e1 := S5.out.pat.frozen 1
      have S6 := hid (S5.out.left s5)
      clear S5
      go_wp2_with (refine wpList_load_pat rfl _ rfl w.heap.size rfl _ _ _ _ S6.out.pat ?_)
      refine (HR v4 s5 k4 N4 _ (by have := HE4.out.1; have := H42.out.2.2.2; have := HL.out.2; omega) S6.out.rd (by have := HE4.out.2.1; have := H42.out.2.2.2; have := HL.out; omega)).mono ?_
      rintro e w7 ⟨v7, s7, b7, k7, N7, rfl, hr7, hb7, hf7, hz7, hh7, hres7⟩
      have hp7 := S6.out.pat.below hb7 S6.out.pat.lt
      go_wp2_with (refine wpList_store_pat rfl _ _ rfl w.heap.size v7 _ s7 _ b7 _ (k7 : Nat) _ rfl rfl (RdX.one hr7) hp7 ?_)
      intro w8 hp8 hb8 ho8 hz8
      have S8 := hid (S6.out.next hb7 hr7 hf7 hp8 ho8 hz8 hb8)
      have HR7 := hid (And.intro hz7 (And.intro hh7 hres7))
      clear S6 hr7 hb7 hf7 hp7 hp8 hb8 ho8 hz8 hz7 hh7 hres7 d0 d1 d2 d3 e1
      obtain ⟨d0, d1, d2, d3⟩ := S8.out.pat.cells
      go_wp2_with (refine wpList_load_pat rfl _ rfl w.heap.size rfl _ _ _ _ S8.out.pat ?_)
      refine (HW v7 s7 b7 (k7 : Nat) N7 (2, 0, k4, k7) _ S8.out.rd (by have := HE4.out.2.1; have := HR7.out.2.1; have := H42.out.2.2.2; have := HL.out; omega)).out.mono ?_
      rintro e w9 ⟨v9, rfl, hr9, hb9, hf9⟩
      have hp9 := S8.out.pat.below hb9 S8.out.pat.lt
      go_wp2_with (refine wpList_store_pat rfl _ _ rfl w.heap.size v9 _ s7 _ b7 _ (N7.length : Nat) _ rfl rfl (RdX.one hr9) hp9 ?_)
      intro wa hpa hba hoa hza
      have S9 := S8.out.next hb9 hr9 (fun g hg => .inr (hf9 g hg)) hpa hoa hza hba
      have HS8 : Hid (EitW w wa v N sz hi (gk - 1) res) := hid ⟨_, _, _, _, _, S9, by have := HE4.out.1; have := HR7.out.1; have := H42.out.2.2.2; omega, by have := HG4.out; have := HR7.out.1; have := H42.out.2.2.2; omega, by have := HE4.out.2.1; have := HR7.out.2.1; have := H42.out.2.2.2; simp; omega, by
        have hr := HR7.out.2.2
        have h2 := HE4.out.2.2.1
        rw [H42.out.2.1, H42.out.1, pA_bar] at h2
        rw [H42.out.2.2.1] at hr
        rcases e : pR none t5 with _ | ⟨q, u⟩
        · rw [e] at hr h2
          exact .inl ⟨hr, h2⟩
        · rw [e] at hr h2
          obtain ⟨hb, hu, ⟨M, hM⟩, hT⟩ := hr
          obtain ⟨M4, hM4⟩ := HE4.out.2.2.2.2
          have h4 : TreeAt N7 a4 k4 := by rw [hM]; exact HE4.out.2.2.2.1.grow M
          exact .inr ⟨hb, .alt a4 q, by rw [h2, hu], ⟨0, k4, k7, by simp, h4.grow _, hT.grow _⟩, M4 ++ M ++ [(2, 0, k4, k7)], by rw [hM, hM4, List.append_assoc, List.append_assoc, List.append_assoc]⟩⟩
      have hgk : gk - 1 < gk := by have := HG4.out; have := H42.out.2.2.2; omega
      clear S8 S9 HR7 HE4 HG4 H42 hr9 hb9 hf9 hp9 hpa hba hoa hza d0 d1 d2 d3
      go_wp2_with fail
      go_roundg (gk - 1)
      case rel => exact HS8
      all_goals exact hgk
    · have HNo := hid h124
      have q124 : (((nxt s4).toNat : Int) == 124) = false := beq_eq_false_iff_ne.2 (fun e => h124 (UInt8.toNat_inj.1 (show (nxt s4).toNat = 124 by omega)))
      clear h124
      go_wp2_with fail
      refine (HX v4 s4 false k4 _).out.mono ?_
      rintro e w5 ⟨rfl, hb5⟩
      have S5 := hid (S4.out.calm hb5)
      clear S4 hb5 d0 d1 d2 d3
      go_wp2_with (first | refine wpList_load_pat rfl _ rfl w.heap.size rfl _ _ _ _ S5.out.pat ?_ | refine wpList_store_pat rfl _ _ rfl (w.heap.size + 1) v4 _ s4 _ false _ (k4 : Nat) _ rfl rfl (RdX.one S5.out.rd) S5.out.res ?_)
      intro w6 hp6 hb6 ho6 hz6
      go_wp2_with fail
      refine bodyPost_ret (run_results_pat rfl _ _ (w.heap.size + 1) v4 s4 false (k4 : Nat) rfl hp6) rfl ?_
      rw [HQ.out]
      refine pt_end S5.out ho6 hz6 hb6 HE4.out.1 HE4.out.2.1 ?_
      rw [HE4.out.2.2.1]
      have hstop : pA a4 (bs s4) = some (a4, bs s4) := by
        rcases Nat.eq_zero_or_pos s4.size with e | e
        · rw [bs_zero e]; rfl
        · obtain ⟨t5, ht5, _⟩ := nxt_pos e
          rw [ht5]
          exact pA_other a4 _ HNo.out
      rw [hstop]
      exact ⟨rfl, rfl, HE4.out.2.2.2.2, HE4.out.2.2.2.1⟩
/-- All of them, at every length. -/
theorem eiC_all : ∀ n : Nat, EiC n := by
  have zero : PaC 0 := fun v s k N w c t hn hc _ _ => by
    have h : (bs s).length = 0 := by rw [bs_len]; omega
    rw [hc] at h
    exact absurd h (by simp)
  intro n
  induction n with
  | zero => exact either_any 0 (row_any 0 zero)
  | succ n ih => exact either_any (n + 1) (row_any (n + 1) (part_any n ih))

/-- Nothing may be left. -/
def wholeOf : Pt → Option (Re UInt8)
  | some (r, []) => some r
  | _ => none
theorem prs_whole (s : List UInt8) : prs s = wholeOf (pE s) := by
  unfold prs
  rcases pE s with _ | ⟨r, _ | ⟨x, t⟩⟩ <;> rfl
/-- A pattern that has been read: the value. -/
def PatV (w : World) (e : Value) (r : Re UInt8) : Prop := ∃ (v : Value) (k : Nat) (N : List Nd), e = pvA v ByteArray.empty false (k : Nat) ∧ RdX encN 4 w v N ∧ TreeAt N r k
theorem PatV.below {w w' : World} {e : Value} {r : Re UInt8} (h : PatV w e r) (hb : Below w.heap.size w w') : PatV w' e r := by
  obtain ⟨v, k, N, h1, h2, h3⟩ := h
  exact ⟨v, k, N, h1, h2.below hb, h3⟩
theorem run_results_patn {fn : Func} {p u : Tmp} (h : fn.results = #[.cell p 24, .tmp u]) (tmps : Array Value) (w : World) (g : Nat) (v : Value) (s : ByteArray) (b : Bool) (k : Int)
    (hp : tmps.getD p undef = .pointer (some ⟨g, 0, none⟩)) (hB : PatB w g v s b k) :
    (results fn tmps).run Tryd.prog w = .ok (.tuple #[pvA v s b k, tmps.getD u undef]) w := by
  obtain ⟨fs, hu⟩ := patU
  rw [results_cell_tmp h, hp]
  simp only [asAddr, Sem.run_pure, Result.andThen_ok, run_loadVar_row w g _ _ _ _ _ hB hu rfl patS]
  rfl
set_option maxRecDepth 100000 in
set_option maxHeartbeats 4000000 in
theorem read_full (s : ByteArray) (w : World) (h : 12 < s.size) (hs : s.size ≤ maxLen) :
    Calls Tryd.prog 7 #[.string s] w fun e w' => e = .returned (.tuple #[pvA (.slice none 0 0) ByteArray.empty false 0, .int .i64 4]) ∧ Below w.heap.size w w' := by
  unfold maxLen at hs
  have hI : (12 : Int) < (s.size : Int) := by omega
  have hR : PatB (w.alloc (.cells #[.slice none 0 0, .string ByteArray.empty, .bool false, .int .i64 0] 24)) w.heap.size (.slice none 0 0) ByteArray.empty false 0 := heap_alloc_new w _
  have HR := hid hR
  clear hR
  go_enter Tryd.func7, Tryd.ntmps7
  go_wp2_with (refine wpList_store_pat rfl _ _ rfl w.heap.size (.slice none 0 0) _ ByteArray.empty _ false _ 0 _ rfl rfl rfl HR.out ?_)
  intro w3 hp3 hb3 ho3 hz3
  go_wp2_with fail
  refine bodyPost_ret (run_results_patn rfl _ _ w.heap.size _ _ _ _ rfl hp3) rfl ?_
  exact ⟨rfl, ((Below.refl _ w).alloc (Nat.le_refl _) _).trans hb3⟩
set_option maxRecDepth 100000 in
set_option maxHeartbeats 4000000 in
theorem read_any (s : ByteArray) (w : World) (h : s.size ≤ 12) :
    Calls Tryd.prog 7 #[.string s] w fun e w' => (match prs (bs s) with
      | some r => ∃ v, e = .returned (.tuple #[v, .int .i64 0]) ∧ PatV w' v r
      | none => e = .returned (.tuple #[pvA (.slice none 0 0) ByteArray.empty false 0, .int .i64 2])) ∧ Below w.heap.size w w' := by
  have HE := fun W (h : RdX encN 4 W (.slice none 0 0) []) => hid (eiC_all 12 (.slice none 0 0) s 0 [] W (by omega) h (by simp; omega))
  have hno : ¬ (12 : Int) < (s.size : Int) := by omega
  obtain ⟨res, hres⟩ : ∃ z, z = pE (bs s) := ⟨_, rfl⟩
  rw [← hres] at HE
  have hprs : prs (bs s) = wholeOf res := by rw [hres]; exact prs_whole _
  obtain ⟨Q, hQ⟩ : ∃ z : Ending → World → Prop, z = fun e w' => (match prs (bs s) with
      | some r => ∃ v, e = .returned (.tuple #[v, .int .i64 0]) ∧ PatV w' v r
      | none => e = .returned (.tuple #[pvA (.slice none 0 0) ByteArray.empty false 0, .int .i64 2])) ∧ Below w.heap.size w w' := ⟨_, rfl⟩
  rw [← hQ]
  have HQ := hid (And.intro hQ hprs)
  clear hQ hprs hres
  have hR : PatB (w.alloc (.cells #[.slice none 0 0, .string ByteArray.empty, .bool false, .int .i64 0] 24)) w.heap.size (.slice none 0 0) ByteArray.empty false 0 := heap_alloc_new w _
  have hb0 : Below w.heap.size w ((w.alloc (.cells #[.slice none 0 0, .string ByteArray.empty, .bool false, .int .i64 0] 24)).alloc (.cells #[.slice none 0 0, .string ByteArray.empty, .bool false, .int .i64 0] 24)) :=
    ((Below.refl _ w).alloc (Nat.le_refl _) _).alloc (by simp) _
  have hG : PatB ((w.alloc (.cells #[.slice none 0 0, .string ByteArray.empty, .bool false, .int .i64 0] 24)).alloc (.cells #[.slice none 0 0, .string ByteArray.empty, .bool false, .int .i64 0] 24)) (w.heap.size + 1) (.slice none 0 0) ByteArray.empty false 0 := by
    have := heap_alloc_new (w.alloc (.cells #[.slice none 0 0, .string ByteArray.empty, .bool false, .int .i64 0] 24)) (.cells #[.slice none 0 0, .string ByteArray.empty, .bool false, .int .i64 0] 24)
    unfold PatB
    rw [← this]
    simp
  have hR0 := hR.keeps (w' := (w.alloc (.cells #[.slice none 0 0, .string ByteArray.empty, .bool false, .int .i64 0] 24)).alloc (.cells #[.slice none 0 0, .string ByteArray.empty, .bool false, .int .i64 0] 24)) (Below.heap_alloc _ _ _ (by simp))
  have hsz0 : ((w.alloc (.cells #[.slice none 0 0, .string ByteArray.empty, .bool false, .int .i64 0] 24)).alloc (.cells #[.slice none 0 0, .string ByteArray.empty, .bool false, .int .i64 0] 24)).heap.size = w.heap.size + 1 + 1 := by simp
  have HI := hid (And.intro hG (And.intro hR0 (And.intro hb0 hsz0)))
  clear hR hG hR0 hb0 hsz0 h
  go_enter Tryd.func7, Tryd.ntmps7
  go_wp2_with (refine wpList_store_pat rfl _ _ rfl (w.heap.size + 1) (.slice none 0 0) _ s _ false _ 0 _ rfl rfl rfl HI.out.1 ?_)
  intro w3 hp3 hb3 ho3 hz3
  have hR3 := HI.out.2.1.keeps (ho3 w.heap.size (by omega))
  have hbw3 := HI.out.2.2.1.trans (hb3.mono (Nat.le_succ _))
  have hsz3 : w3.heap.size = w.heap.size + 1 + 1 := by first | exact hz3 | exact hz3.trans HI.out.2.2.2
  have H3 := hid (And.intro hp3 (And.intro hR3 (And.intro hbw3 hsz3)))
  clear HI hp3 hb3 ho3 hz3 hR3 hbw3 hsz3
  go_wp2_with (refine wpList_load_pat rfl _ rfl (w.heap.size + 1) rfl _ _ _ _ H3.out.1 ?_)
  refine (HE _ (RdX.nil _ _ _)).out.mono ?_
  rintro e w4 ⟨v4, s4, b4, k4, N4, rfl, hr4, hb4, hf4, hz4, hh4, hres4⟩
  have hp4 := H3.out.1.below hb4 H3.out.1.lt
  have hR4 := H3.out.2.1.below hb4 H3.out.2.1.lt
  go_wp2_with (refine wpList_store_pat rfl _ _ rfl (w.heap.size + 1) v4 _ s4 _ b4 _ (k4 : Nat) _ rfl rfl (RdX.one hr4) hp4 ?_)
  intro w5 hp5 hb5 ho5 hz5
  have hR5 := hR4.keeps (ho5 w.heap.size (by omega))
  have hfr : ∀ g, v4.ownBlock = some g → w.heap.size + 1 + 1 ≤ g := fun g hg => by
    rcases hf4 g hg with e | e
    · cases e
    · have := H3.out.2.2.2; omega
  have hr5 := hr4.keepB (Nat.le_of_eq hz5.symm) (fun g hg => ho5 g (by have := hfr g hg; omega))
  have hb5w := (H3.out.2.2.1.trans (hb4.mono H3.out.2.2.1.size)).trans (hb5.mono (Nat.le_succ _))
  obtain ⟨d0, d1, d2, d3⟩ := hp5.cells
  have H5 := hid (And.intro hp5 (And.intro hR5 (And.intro hr5 (And.intro hfr (And.intro hb5w hres4)))))
  clear H3 HE hr4 hb4 hf4 hz4 hh4 hp4 hR4 hp5 hb5 ho5 hz5 hR5 hfr hr5 hb5w hres4
  by_cases hok : b4 = false ∧ s4.size = 0
  · obtain ⟨rfl, hs4⟩ := hok
    have hno2 : ¬ ((0 : Int) < (s4.size : Int)) := by omega
    have hE4 := hid hs4
    clear hs4
    go_wp2_with (first | refine wpList_load_pat rfl _ rfl (w.heap.size + 1) rfl _ _ _ _ H5.out.1 ?_ | refine wpList_store_pat rfl _ _ rfl w.heap.size v4 _ s4 _ false _ (k4 : Nat) _ rfl rfl (RdX.one H5.out.2.2.1) H5.out.2.1 ?_)
    intro w6 hp6 hb6 ho6 hz6
    go_wp2_with fail
    refine bodyPost_ret (run_results_patn rfl _ _ w.heap.size _ _ _ _ rfl hp6) rfl ?_
    rw [HQ.out.1, HQ.out.2]
    have hr := H5.out.2.2.2.2.2
    rcases res with _ | ⟨r, t⟩
    · cases hr
    · obtain ⟨_, ht, _, hT⟩ := hr
      rw [bs_zero hE4.out] at ht
      subst ht
      have he : s4 = ByteArray.empty := bs_inj (by rw [bs_zero hE4.out]; rfl)
      subst he
      exact ⟨⟨_, rfl, v4, k4, N4, rfl, H5.out.2.2.1.keepB (Nat.le_of_eq hz6.symm) (fun g hg => ho6 g (by have := H5.out.2.2.2.1 g hg; omega)), hT⟩, H5.out.2.2.2.2.1.trans hb6⟩
  · have hbad : wholeOf res = none := by
      have hr := H5.out.2.2.2.2.2
      rcases res with _ | ⟨r, t⟩
      · rfl
      · obtain ⟨hb, ht, _⟩ := hr
        rcases t with _ | ⟨x, t⟩
        · exact absurd ⟨hb, by rw [← bs_len, ht]; rfl⟩ hok
        · rfl
    have HB := hid hbad
    clear hbad
    cases b4 with
    | true =>
      clear hok
      go_wp2_with (refine wpList_store_pat rfl _ _ rfl w.heap.size (.slice none 0 0) _ ByteArray.empty _ false _ 0 _ rfl rfl rfl H5.out.2.1 ?_)
      intro w6 hp6 hb6 ho6 hz6
      go_wp2_with fail
      refine bodyPost_ret (run_results_patn rfl _ _ w.heap.size _ _ _ _ rfl hp6) rfl ?_
      rw [HQ.out.1, HQ.out.2, HB.out]
      exact ⟨rfl, H5.out.2.2.2.2.1.trans hb6⟩
    | false =>
      have hpos : (0 : Int) < (s4.size : Int) := by
        rcases Nat.eq_zero_or_pos s4.size with e | e
        · exact absurd ⟨rfl, e⟩ hok
        · omega
      have hpos2 : 0 < s4.size := by omega
      clear hok
      go_wp2_with (refine wpList_store_pat rfl _ _ rfl w.heap.size (.slice none 0 0) _ ByteArray.empty _ false _ 0 _ rfl rfl rfl H5.out.2.1 ?_)
      intro w6 hp6 hb6 ho6 hz6
      go_wp2_with fail
      refine bodyPost_ret (run_results_patn rfl _ _ w.heap.size _ _ _ _ rfl hp6) rfl ?_
      rw [HQ.out.1, HQ.out.2, HB.out]
      exact ⟨rfl, H5.out.2.2.2.2.1.trans hb6⟩
end Go.Proofs.YtdhklkpeepmedaaDoor
