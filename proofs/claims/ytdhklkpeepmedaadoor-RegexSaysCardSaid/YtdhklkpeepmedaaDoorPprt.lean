/-
  Contract of the pattern reader's 'part': a letter or a pattern in brackets, and stars behind it. Conditions: what it calls reads shorter texts; fewer than a thousand nodes.
-/
import Derived.Test.YtdhklkpeepmedaaDoorPst
import Derived.Test.YtdhklkpeepmedaaDoorSb1
import Derived.Deep.LoopGhost
namespace Go.Proofs.YtdhklkpeepmedaaDoor
open Go.RowKit

/-- Where the stars behind a part are read. -/
structure StarW (w0 wr : World) (v0 : Value) (N : List Nd) (sz hi g : Nat) (res : Pt) : Prop where
  ex : ∃ (v : Value) (s : ByteArray) (b : Bool) (k : Nat) (N1 : List Nd), PSt w0 wr v0 v s b k N1 ∧ s.size ≤ sz ∧ s.size ≤ g ∧ N1.length + 3 * s.size + 1 ≤ hi ∧
    ((b = true ∧ res = none) ∨ (b = false ∧ ∃ r, res = some (prS r (bs s)) ∧ TreeAt N1 r k ∧ ∃ M, N1 = N ++ M))
theorem nxt_zero {s : ByteArray} (h : s.size = 0) : nxt s = 0 := by unfold nxt; rw [if_neg (by omega)]
theorem nxt_pos {s : ByteArray} (h : 0 < s.size) : ∃ t, bs s = nxt s :: t ∧ bs (s.extract 1 s.size) = t := by
  refine ⟨(bs s).drop 1, ?_, ?_⟩
  · have h0 : 0 < (bs s).length := by rw [bs_len]; exact h
    unfold nxt
    rw [if_pos h, ← bs_sg]
    rcases e : bs s with _ | ⟨x, l⟩
    · rw [e] at h0; exact absurd h0 (by simp)
    · rfl
  · rw [wb_ext, List.take_of_length_le (by rw [bs_len]; exact Nat.le_refl _)]
/-- The end of a reader's function: the pattern in its block is the answer. -/
theorem pt_end {w w3 w4 : World} {v0 v : Value} {s : ByteArray} {b : Bool} {k : Nat} {N N1 : List Nd} {sz lo hi : Nat} {res : Pt} (S : PSt w w3 v0 v s b k N1)
    (ho : ∀ j, j ≠ w.heap.size + 1 → w4.heap[j]? = w3.heap[j]?) (hz : w4.heap.size = w3.heap.size) (hb : Below (w.heap.size + 1) w3 w4) (hsz : s.size ≤ sz) (hh : N1.length + 3 * s.size + lo ≤ hi) (hr : PtRes N N1 b s k res) :
    PtOut w v0 N sz lo hi res (.returned (pvA v s b (k : Nat))) w4 :=
  ⟨v, s, b, k, N1, rfl, S.rd.keepB (by omega) (fun g hg => ho g (S.off hg).2), S.bel.trans (hb.mono (by omega)), fun g hg => by
    rcases S.own g hg with ⟨h, _⟩ | h
    · exact .inl h
    · exact .inr (by omega), hsz, hh, hr⟩

set_option maxRecDepth 100000 in
set_option maxHeartbeats 4000000 in
theorem part_any (n : Nat) (HE : EiC n) : PaC (n + 1) := by
  intro v s k N w c t hn hc hN hl
  have h0 : 0 < s.size := by
    rw [← bs_len, hc]; simp
  obtain ⟨t', hc1, hc2⟩ := nxt_pos h0
  rw [hc] at hc1
  injection hc1 with hc1 ht
  subst ht
  have HX := fun v s b (k : Nat) W => hid (next_any v s b (k : Nat) W)
  have S0 := hid (PSt.start w v s false k N hN)
  have hcut := cut_one s h0
  have hs1 := cut_size h0
  obtain ⟨sz, hsz⟩ : ∃ z, z = s.size - 1 := ⟨_, rfl⟩
  obtain ⟨hi, hhi⟩ : ∃ z, z = N.length + 3 * s.size := ⟨_, rfl⟩
  have hes : (s.extract 1 s.size).size = sz := by omega
  generalize s.extract 1 s.size = s1 at hcut hc2 hes hs1
  rw [← hsz, ← hhi]
  have hl1 : N.length + 3 * sz + 3 = hi := by omega
  have hszn : sz ≤ n := by omega
  obtain ⟨res, hres⟩ : ∃ z, z = pP c t := ⟨_, rfl⟩
  rw [← hres]
  obtain ⟨Q, hQ⟩ : ∃ z, z = PtOut w v N sz 1 hi res := ⟨_, rfl⟩
  rw [← hQ]
  have HQ := hid hQ
  have HC := hid (And.intro hc1 (And.intro hc2 (And.intro hres hes)))
  have HL := hid (And.intro hl (And.intro hl1 (And.intro hszn hhi)))
  clear hQ hc1 hc2 hres hsz hhi hn hl hc hs1 hes hl1 hszn
  unfold pvA
  go_enter Tryd.func35, Tryd.ntmps35
  go_wp2_with fail
  refine (HX v s false k _).out.mono ?_
  rintro e w1 ⟨rfl, hb1⟩
  have S1 := hid (S0.out.calm hb1)
  rw [← HC.out.1]
  clear S0 hb1
  obtain ⟨c0, c1, c2, c3⟩ := S1.out.pat.cells
  have f1 := S1.out.pat.frozen 1
  have S2 := hid (S1.out.left s1)
  clear S1 h0 hN
  have HW := fun v s b k N x W h1 h2 => hid (with_any v s b k N x W h1 h2)
  have hway : ltr c = true ∨ c = 40 ∨ (ltr c = false ∧ c ≠ 40) := by
    cases h : ltr c with
    | true => exact .inl rfl
    | false =>
      by_cases h' : c = 40
      · exact .inr (.inl h')
      · exact .inr (.inr ⟨rfl, h'⟩)
  rcases hway with hl | rfl | ⟨hl, h40⟩
  focus
    obtain ⟨h97, h122⟩ := ltr_num.1 hl
    have k97 : (97 : Int) ≤ (c.toNat : Int) := by omega
    have k122 : (c.toNat : Int) ≤ 122 := by omega
    go_wp2_with (refine wpList_load_pat rfl _ rfl w.heap.size rfl _ _ _ _ S2.out.pat ?_)
    refine (HW v s1 false (k : Nat) N (1, c, 0, 0) _ S2.out.rd (by have := HL.out; omega)).out.mono ?_
    rintro e w3 ⟨v3, rfl, hr3, hb3, hf3⟩
    have hp3 := S2.out.pat.below hb3 S2.out.pat.lt
    go_wp2_with (refine wpList_store_pat rfl _ _ rfl w.heap.size v3 _ s1 _ false _ (N.length : Nat) _ rfl rfl (RdX.one hr3) hp3 ?_)
    intro wx hpx hbx hox hzx
    have S3 := S2.out.next hb3 hr3 (fun g hg => .inr (hf3 g hg)) hpx hox hzx hbx
    have HS : Hid (StarW w wx v N sz hi sz res) := hid ⟨_, _, _, _, _, S3, by have := HC.out.2.2.2; omega, by have := HC.out.2.2.2; omega, by have := HL.out; have := HC.out.2.2.2; simp; omega, .inr ⟨rfl, .ch c, by rw [HC.out.2.2.1, pP_letter t hl, HC.out.2.1], ⟨0, 0, by simp⟩, [(1, c, 0, 0)], rfl⟩⟩
    clear S2 S3 hr3 hb3 hf3 hp3 hpx hbx hox hzx k97 k122 h97 h122 c0 c1 c2 c3 f1
    go_wp2_with fail
  rotate_left
  focus
    go_wp2_with (refine wpList_load_pat rfl _ rfl w.heap.size rfl _ _ _ _ S2.out.pat ?_)
    refine (HE v s1 k N _ (by have := HL.out.2.2.1; have := HC.out.2.2.2; omega) S2.out.rd (by have := HL.out; have := HC.out.2.2.2; omega)).mono ?_
    rintro e w3 ⟨v3, s3, b3, k3, N3, rfl, hr3, hb3, hf3, hz3, hh3, hres3⟩
    have hp3 := S2.out.pat.below hb3 S2.out.pat.lt
    go_wp2_with (refine wpList_store_pat rfl _ _ rfl w.heap.size v3 _ s3 _ b3 _ (k3 : Nat) _ rfl rfl (RdX.one hr3) hp3 ?_)
    intro w4 hp4 hb4 ho4 hz4
    have S4 := hid (S2.out.next hb3 hr3 hf3 hp4 ho4 hz4 hb4)
    have HR3 := hid (And.intro hz3 (And.intro hh3 hres3))
    clear S2 hr3 hb3 hf3 hp3 hp4 hb4 ho4 hz4 hz3 hh3 hres3 c0 c1 c2 c3 f1
    go_wp2_with (refine wpList_load_pat rfl _ rfl w.heap.size rfl _ _ _ _ S4.out.pat ?_)
    refine (HX v3 s3 b3 k3 _).out.mono ?_
    rintro e w5 ⟨rfl, hb5⟩
    have S5 := hid (S4.out.calm hb5)
    clear S4 hb5
    obtain ⟨d0, d1, d2, d3⟩ := S5.out.pat.cells
    by_cases h41 : nxt s3 = 41
    rotate_left
    focus
      have h41q : (((nxt s3).toNat : Int) != 41) = true := by
        rw [bne_iff_ne]
        intro e
        exact h41 (UInt8.toNat_inj.1 (show (nxt s3).toNat = 41 by omega))
      have H41 := hid h41
      clear h41
      have f2 := S5.out.pat.frozen 2
      have S6 := hid S5.out.mark
      clear S5
      go_wp2_with (first | refine wpList_load_pat rfl _ rfl w.heap.size rfl _ _ _ _ S6.out.pat ?_ | refine wpList_store_pat rfl _ _ rfl (w.heap.size + 1) v3 _ s3 _ true _ (k3 : Nat) _ rfl rfl (RdX.one S6.out.rd) S6.out.res ?_)
      intro w6 hp6 hb6 ho6 hz6
      go_wp2_with fail
      refine bodyPost_ret (run_results_pat rfl _ _ (w.heap.size + 1) v3 s3 true (k3 : Nat) rfl hp6) rfl ?_
      rw [HQ.out]
      refine pt_end S6.out ho6 (by simp [hz6]) hb6 (by have := HR3.out.1; have := HC.out.2.2.2; omega) (by have := HR3.out.2.1; have := HL.out; have := HC.out.2.2.2; omega) ?_
      have hnone : pP 40 t = none := by
        have hr := HR3.out.2.2
        rw [HC.out.2.1] at hr
        rw [pP_open]
        rcases e : pE t with _ | ⟨r, u⟩
        · rfl
        · rw [e] at hr
          obtain ⟨_, hu, _⟩ := hr
          rcases u with _ | ⟨d, u⟩
          · rfl
          · have hd : d ≠ 41 := fun hd => by
              have hpos : 0 < s3.size := by rw [← bs_len, hu]; simp
              obtain ⟨t5, ht5, _⟩ := nxt_pos hpos
              rw [hu] at ht5
              injection ht5 with ht5
              exact H41.out (ht5.symm.trans hd)
            simp [hd]
      rw [HC.out.2.2.1, hnone]
      rfl
    focus
      have hs3 : 0 < s3.size := by
        rcases Nat.eq_zero_or_pos s3.size with e | e
        · rw [nxt_zero e] at h41; exact absurd h41 (by decide)
        · exact e
      obtain ⟨t5, ht5, ht6⟩ := nxt_pos hs3
      rw [h41] at ht5
      have hcut5 := cut_one s3 hs3
      have hsz5 := cut_size hs3
      generalize s3.extract 1 s3.size = s5 at hcut5 ht6 hsz5
      rw [h41]
      have e1 := S5.out.pat.frozen 1
      have S6 := S5.out.left s5
      have HS : Hid (StarW w (w5.setCell ⟨w.heap.size, 1, none⟩ (.string s5)) v N sz hi sz res) := hid ⟨_, _, _, _, _, S6, by have := HR3.out.1; have := HC.out.2.2.2; omega, by have := HR3.out.1; have := HC.out.2.2.2; omega, by have := HR3.out.2.1; have := HL.out; have := HC.out.2.2.2; omega, by
        have hr := HR3.out.2.2
        rw [HC.out.2.1] at hr
        rw [HC.out.2.2.1, pP_open]
        rcases e : pE t with _ | ⟨r, u⟩
        · rw [e] at hr
          exact .inl ⟨hr, rfl⟩
        · rw [e] at hr
          obtain ⟨hb, hu, hM, hT⟩ := hr
          rw [← hu, ht5]
          exact .inr ⟨hb, r, by rw [ht6]; rfl, hT, hM⟩⟩
      clear S5 S6 HR3 h41 ht5 ht6 hsz5 hs3
      go_wp2_with fail
      generalize World.setCell w5 _ _ = wx at HS ⊢
  rotate_left
  focus
    obtain ⟨q, hq⟩ : ∃ q : Bool, (decide (97 ≤ (c.toNat : Int)) = q) := ⟨_, rfl⟩
    have h40q : ((c.toNat : Int) == 40) = false := beq_eq_false_iff_ne.2 (fun e => h40 (UInt8.toNat_inj.1 (show c.toNat = 40 by omega)))
    have hno : ¬ (97 ≤ c.toNat ∧ c.toNat ≤ 122) := fun h => by rw [ltr_num.2 h] at hl; cases hl
    obtain ⟨d0, d1, d2, d3⟩ := S2.out.pat.cells
    have f2 := S2.out.pat.frozen 2
    have S3 := S2.out.mark
    have HS : Hid (StarW w ((w1.setCell ⟨w.heap.size, 1, none⟩ (.string s1)).setCell ⟨w.heap.size, 2, none⟩ (.bool true)) v N sz hi sz res) := hid ⟨_, _, _, _, _, S3, by have := HC.out.2.2.2; omega, by have := HC.out.2.2.2; omega, by have := HL.out; have := HC.out.2.2.2; omega, .inl ⟨rfl, by rw [HC.out.2.2.1, pP_bad t hl h40]⟩⟩
    clear S2 S3
    by_cases h97 : 97 ≤ c.toNat
    focus
      have k97 : (97 : Int) ≤ (c.toNat : Int) := by omega
      have k122 : ¬ (c.toNat : Int) ≤ 122 := by omega
      clear hq
      go_wp2_with fail
      generalize World.setCell (World.setCell w1 _ _) _ _ = wx at HS ⊢
    rotate_left
    focus
      have k97 : ¬ (97 : Int) ≤ (c.toNat : Int) := by omega
      clear hq
      go_wp2_with fail
      generalize World.setCell (World.setCell w1 _ _) _ _ = wx at HS ⊢
  all_goals
    go_loopg [50] sz (fun g _ wr => Hid (StarW w wr v N sz hi g res))
    case atStart => exact HS
    case round =>
      clear HS
      obtain ⟨v4, s4, b4, k4, N4, S4, hz4, hg4, hh4, hr4⟩ := hrel.out.ex
      obtain ⟨d0, d1, d2, d3⟩ := S4.pat.cells
      have S4 := hid S4
      have hrel := hrel
      rcases hr4 with ⟨rfl, hr4⟩ | ⟨rfl, r4, hr4, ht4, hm4⟩
      · have HE4 := hid (And.intro hz4 (And.intro hh4 hr4))
        clear hrel hz4 hg4 hh4 hr4
        go_wp2_with (first | refine wpList_load_pat rfl _ rfl w.heap.size rfl _ _ _ _ S4.out.pat ?_ | refine wpList_store_pat rfl _ _ rfl (w.heap.size + 1) v4 _ s4 _ true _ (k4 : Nat) _ rfl rfl (RdX.one S4.out.rd) S4.out.res ?_)
        intro w6 hp6 hb6 ho6 hz6
        go_wp2_with fail
        refine bodyPost_ret (run_results_pat rfl _ _ (w.heap.size + 1) v4 s4 true (k4 : Nat) rfl hp6) rfl ?_
        rw [HQ.out]
        exact pt_end S4.out ho6 hz6 hb6 HE4.out.1 HE4.out.2.1 (by rw [HE4.out.2.2]; rfl)
      · have HE4 := hid (And.intro hz4 (And.intro hh4 (And.intro hr4 (And.intro ht4 hm4))))
        have HG4 := hid hg4
        clear hrel hz4 hg4 hh4 hr4 ht4 hm4
        by_cases h42 : nxt s4 = 42
        · have hs4 : 0 < s4.size := by
            rcases Nat.eq_zero_or_pos s4.size with e | e
            · rw [nxt_zero e] at h42; exact absurd h42 (by decide)
            · exact e
          obtain ⟨t5, ht5, ht6⟩ := nxt_pos hs4
          have hcut5 := cut_one s4 hs4
          have hsz5 := cut_size hs4
          generalize s4.extract 1 s4.size = s5 at hcut5 ht6 hsz5
          have H42 := hid (And.intro h42 (And.intro ht5 (And.intro ht6 hsz5)))
          clear h42 ht5 ht6 hsz5 hs4
          go_wp2_with fail
          refine (HX v4 s4 false k4 _).out.mono ?_
          rintro e w5 ⟨rfl, hb5⟩
          rw [H42.out.1]
          have S5 := hid (S4.out.calm hb5)
          clear S4 hb5 d0 d1 d2 d3
          obtain ⟨d0, d1, d2, d3⟩ := S5.out.pat.cells
          have e1 := S5.out.pat.frozen 1
          have S6 := hid (S5.out.left s5)
          clear S5
          obtain ⟨g0, g1, g2, g3⟩ := S6.out.pat.cells
          go_wp2_with (refine wpList_load_pat rfl _ rfl w.heap.size rfl _ _ _ _ S6.out.pat ?_)
          refine (HW v4 s5 false (k4 : Nat) N4 (4, 0, k4, 0) _ S6.out.rd (by have := HL.out; have := HE4.out.2.1; omega)).out.mono ?_
          rintro e w7 ⟨v7, rfl, hr7, hb7, hf7⟩
          have hp7 := S6.out.pat.below hb7 S6.out.pat.lt
          go_wp2_with (refine wpList_store_pat rfl _ _ rfl w.heap.size v7 _ s5 _ false _ (N4.length : Nat) _ rfl rfl (RdX.one hr7) hp7 ?_)
          intro w8 hp8 hb8 ho8 hz8
          have S8 := S6.out.next hb7 hr7 (fun g hg => .inr (hf7 g hg)) hp8 ho8 hz8 hb8
          have HS8 : Hid (StarW w w8 v N sz hi (gk - 1) res) := hid ⟨_, _, _, _, _, S8, by have := HE4.out.1; have := H42.out.2.2.2; omega, by have := HG4.out; have := H42.out.2.2.2; omega, by have := HE4.out.2.1; have := H42.out.2.2.2; simp; omega,
            .inr ⟨rfl, .star r4, by rw [HE4.out.2.2.1, H42.out.2.1, H42.out.1, prS_star, H42.out.2.2.1], ⟨0, k4, 0, by simp, HE4.out.2.2.2.1.grow _⟩, by
              obtain ⟨M, hM⟩ := HE4.out.2.2.2.2
              exact ⟨M ++ [(4, 0, k4, 0)], by rw [hM, List.append_assoc]⟩⟩⟩
          have hgk : gk - 1 < gk := by have := HG4.out; have := H42.out.2.2.2; omega
          clear S6 S8 hr7 hb7 hf7 hp7 hp8 hb8 ho8 hz8 d0 d1 d2 d3 e1 g0 g1 g2 g3 HE4 HG4 H42
          go_wp2_with fail
          go_roundg (gk - 1)
          case rel => exact HS8
          all_goals exact hgk
        · have HNo := hid h42
          have h42 : ((nxt s4).toNat : Int) ≠ 42 := by
            intro e
            exact h42 (UInt8.toNat_inj.1 (show (nxt s4).toNat = 42 by omega))
          have h42q : (((nxt s4).toNat : Int) == 42) = false := beq_eq_false_iff_ne.2 h42
          go_wp2_with (first | refine wpList_load_pat rfl _ rfl w.heap.size rfl _ _ _ _ S4.out.pat ?_ | refine wpList_store_pat rfl _ _ rfl (w.heap.size + 1) v4 _ s4 _ false _ (k4 : Nat) _ rfl rfl (RdX.one S4.out.rd) S4.out.res ?_)
          refine (HX v4 s4 false k4 _).out.mono ?_
          rintro e w5 ⟨rfl, hb5⟩
          have S5 := hid (S4.out.calm hb5)
          clear S4 hb5 d0 d1 d2 d3
          go_wp2_with (first | refine wpList_load_pat rfl _ rfl w.heap.size rfl _ _ _ _ S5.out.pat ?_ | refine wpList_store_pat rfl _ _ rfl (w.heap.size + 1) v4 _ s4 _ false _ (k4 : Nat) _ rfl rfl (RdX.one S5.out.rd) S5.out.res ?_)
          intro w6 hp6 hb6 ho6 hz6
          go_wp2_with fail
          refine bodyPost_ret (run_results_pat rfl _ _ (w.heap.size + 1) v4 s4 false (k4 : Nat) rfl hp6) rfl ?_
          rw [HQ.out]
          refine pt_end S5.out ho6 hz6 hb6 HE4.out.1 HE4.out.2.1 ?_
          rw [HE4.out.2.2.1]
          have hstop : prS r4 (bs s4) = (r4, bs s4) := by
            rcases Nat.eq_zero_or_pos s4.size with e | e
            · rw [bs_zero e]; rfl
            · obtain ⟨t5, ht5, _⟩ := nxt_pos e
              rw [ht5]
              exact prS_other r4 _ HNo.out
          rw [hstop]
          exact ⟨rfl, rfl, HE4.out.2.2.2.2, HE4.out.2.2.2.1⟩
end Go.Proofs.YtdhklkpeepmedaaDoor
