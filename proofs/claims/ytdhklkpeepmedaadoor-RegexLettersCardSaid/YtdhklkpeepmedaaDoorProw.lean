/-
  Contract of the pattern reader's 'row': parts up to a bar, a shut bracket or the end. Conditions: what it calls reads its parts; fewer than a thousand nodes.
-/
import Derived.Test.YtdhklkpeepmedaaDoorPprt
namespace Go.Proofs.YtdhklkpeepmedaaDoor
open Go.RowKit

/-- Where the parts of a row are read. -/
structure RowW (w0 wr : World) (v0 : Value) (N : List Nd) (sz hi g : Nat) (F : Bool) (res : Pt) : Prop where
  ex : ∃ (v : Value) (s : ByteArray) (b : Bool) (k : Nat) (N1 : List Nd), PSt w0 wr v0 v s b k N1 ∧ s.size ≤ sz ∧ s.size ≤ g ∧ N1.length + 3 * s.size ≤ hi ∧
    ((b = true ∧ res = none) ∨ (b = false ∧ ∃ acc : Option (Re UInt8), res = pR acc (bs s) ∧ F = acc.isNone ∧ TreeAt N1 (acc.getD .eps) k ∧ ∃ M, N1 = N ++ M))
theorem byte_off {x : UInt8} {n : Nat} (h : x.toNat ≠ n) : ((x.toNat : Int) != (n : Int)) = true := by
  rw [bne_iff_ne]; omega
set_option maxRecDepth 100000 in
set_option maxHeartbeats 8000000 in
theorem row_any (n : Nat) (HP : PaC n) : RoC n := by
  intro v s k N w hn hN hl
  have HX := fun v s b (k : Nat) W => hid (next_any v s b (k : Nat) W)
  have HW := fun v s b k N x W h1 h2 => hid (with_any v s b k N x W h1 h2)
  have S0 := hid (PSt.start w v s false k N hN)
  obtain ⟨sz, hsz⟩ : ∃ z, z = s.size := ⟨_, rfl⟩
  obtain ⟨hi, hhi⟩ : ∃ z, z = N.length + 3 * s.size + 1 := ⟨_, rfl⟩
  obtain ⟨res, hres⟩ : ∃ z, z = pR none (bs s) := ⟨_, rfl⟩
  obtain ⟨Q, hQ⟩ : ∃ z, z = PtOut w v N sz 0 hi res := ⟨_, rfl⟩
  rw [← hhi, ← hres, ← hsz, ← hQ]
  have HQ := hid hQ
  have HC := hid hres
  have HL := hid (And.intro hl (And.intro hn (And.intro hsz hhi)))
  clear hQ hres hsz hhi hn hl hN
  unfold pvA
  go_enter Tryd.func26, Tryd.ntmps26
  go_wp2_with fail
  refine (HW v s false (k : Nat) N (0, 0, 0, 0) _ S0.out.rd (by have := HL.out; omega)).out.mono ?_
  rintro e w1 ⟨v1, rfl, hr1, hb1, hf1⟩
  have hp1 := S0.out.pat.below hb1 S0.out.pat.lt
  go_wp2_with (refine wpList_store_pat rfl _ _ rfl w.heap.size v1 _ s _ false _ (N.length : Nat) _ rfl rfl (RdX.one hr1) hp1 ?_)
  intro wx hpx hbx hox hzx
  have S1 := S0.out.next hb1 hr1 (fun g hg => .inr (hf1 g hg)) hpx hox hzx hbx
  have HS : Hid (RowW w wx v N sz hi sz true res) := hid ⟨_, _, _, _, _, S1, by have := HL.out.2.2.1; omega, by have := HL.out.2.2.1; omega, by have := HL.out; simp; omega, .inr ⟨rfl, none, HC.out, rfl, ⟨0, 0, 0, by simp⟩, [(0, 0, 0, 0)], rfl⟩⟩
  clear S0 S1 hr1 hb1 hf1 hp1 hpx hbx hox hzx
  go_wp2_with fail
  go_loopg [3] sz (fun g f wr => ∃ F : Bool, f = .bool F ∧ Hid (RowW w wr v N sz hi g F res))
  case atStart => exact ⟨true, rfl, HS⟩
  case round =>
    clear HS
    obtain ⟨F, rfl, hrel⟩ := hrel
    obtain ⟨v4, s4, b4, k4, N4, S4, hz4, hg4, hh4, hr4⟩ := hrel.out.ex
    obtain ⟨d0, d1, d2, d3⟩ := S4.pat.cells
    have S4 := hid S4
    rcases hr4 with ⟨rfl, hr4⟩ | ⟨rfl, acc, hr4, hF, ht4, hm4⟩
    · have HE4 := hid (And.intro hz4 (And.intro hh4 hr4))
      clear hrel hz4 hg4 hh4 hr4
      go_wp2_with (first | refine wpList_load_pat rfl _ rfl w.heap.size rfl _ _ _ _ S4.out.pat ?_ | refine wpList_store_pat rfl _ _ rfl (w.heap.size + 1) v4 _ s4 _ true _ (k4 : Nat) _ rfl rfl (RdX.one S4.out.rd) S4.out.res ?_)
      intro w6 hp6 hb6 ho6 hz6
      go_wp2_with fail
      refine bodyPost_ret (run_results_pat rfl _ _ (w.heap.size + 1) v4 s4 true (k4 : Nat) rfl hp6) rfl ?_
      rw [HQ.out]
      exact pt_end S4.out ho6 hz6 hb6 HE4.out.1 HE4.out.2.1 (by rw [HE4.out.2.2]; rfl)
    have HE4 := hid (And.intro hz4 (And.intro hh4 (And.intro hr4 (And.intro ht4 (And.intro hm4 hF)))))
    have HG4 := hid hg4
    clear hrel hz4 hg4 hh4 hr4 ht4 hm4 hF
    rcases Nat.eq_zero_or_pos s4.size with he4 | hs4
    · have hres : res = some (acc.getD .eps, []) := by rw [HE4.out.2.2.1, bs_zero he4]; rfl
      have HR := hid hres
      have hno : ¬ (0 < s4.size) := by omega
      have hnoI : ¬ ((0 : Int) < (s4.size : Int)) := by omega
      have hE := hid he4
      clear hres he4
      go_wp2_with (first | refine wpList_load_pat rfl _ rfl w.heap.size rfl _ _ _ _ S4.out.pat ?_ | refine wpList_store_pat rfl _ _ rfl (w.heap.size + 1) v4 _ s4 _ false _ (k4 : Nat) _ rfl rfl (RdX.one S4.out.rd) S4.out.res ?_)
      intro w6 hp6 hb6 ho6 hz6
      go_wp2_with fail
      refine bodyPost_ret (run_results_pat rfl _ _ (w.heap.size + 1) v4 s4 false (k4 : Nat) rfl hp6) rfl ?_
      rw [HQ.out]
      exact pt_end S4.out ho6 hz6 hb6 HE4.out.1 HE4.out.2.1 (by rw [HR.out]; exact ⟨rfl, bs_zero hE.out, HE4.out.2.2.2.2.1, HE4.out.2.2.2.1⟩)
    obtain ⟨t5, ht5, ht6⟩ := nxt_pos hs4
    by_cases h124 : nxt s4 = 124
    · have hres : res = some (acc.getD .eps, bs s4) := by rw [HE4.out.2.2.1, ht5]; exact pR_stop acc t5 (.inl h124)
      have HR := hid hres
      have H124 := hid h124
      clear hres h124 ht5 ht6
      go_wp2_with fail
      refine (HX v4 s4 false k4 _).out.mono ?_
      rintro e w5 ⟨rfl, hb5⟩
      rw [H124.out]
      have S5 := hid (S4.out.calm hb5)
      clear S4 hb5 d0 d1 d2 d3
      go_wp2_with (first | refine wpList_load_pat rfl _ rfl w.heap.size rfl _ _ _ _ S5.out.pat ?_ | refine wpList_store_pat rfl _ _ rfl (w.heap.size + 1) v4 _ s4 _ false _ (k4 : Nat) _ rfl rfl (RdX.one S5.out.rd) S5.out.res ?_)
      intro w6 hp6 hb6 ho6 hz6
      go_wp2_with fail
      refine bodyPost_ret (run_results_pat rfl _ _ (w.heap.size + 1) v4 s4 false (k4 : Nat) rfl hp6) rfl ?_
      rw [HQ.out]
      exact pt_end S5.out ho6 hz6 hb6 HE4.out.1 HE4.out.2.1 (by rw [HR.out]; exact ⟨rfl, rfl, HE4.out.2.2.2.2.1, HE4.out.2.2.2.1⟩)
    have q124 : (((nxt s4).toNat : Int) != 124) = true := byte_off (n := 124) (fun e => h124 (UInt8.toNat_inj.1 e))
    by_cases h41 : nxt s4 = 41
    · have hres : res = some (acc.getD .eps, bs s4) := by rw [HE4.out.2.2.1, ht5]; exact pR_stop acc t5 (.inr h41)
      have HR := hid hres
      have H41 := hid h41
      clear hres h124 h41 ht5 ht6
      go_wp2_with fail
      refine (HX v4 s4 false k4 _).out.mono ?_
      rintro e w5 ⟨rfl, hb5⟩
      have S5 := hid (S4.out.calm hb5)
      clear S4 hb5 d0 d1 d2 d3
      obtain ⟨d0, d1, d2, d3⟩ := S5.out.pat.cells
      go_wp2_with fail
      refine (HX v4 s4 false k4 _).out.mono ?_
      rintro e w6 ⟨rfl, hb6⟩
      rw [H41.out]
      have S6 := hid (S5.out.calm hb6)
      clear S5 hb6 d0 d1 d2 d3
      go_wp2_with (first | refine wpList_load_pat rfl _ rfl w.heap.size rfl _ _ _ _ S6.out.pat ?_ | refine wpList_store_pat rfl _ _ rfl (w.heap.size + 1) v4 _ s4 _ false _ (k4 : Nat) _ rfl rfl (RdX.one S6.out.rd) S6.out.res ?_)
      intro w7 hp7 hb7 ho7 hz7
      go_wp2_with fail
      refine bodyPost_ret (run_results_pat rfl _ _ (w.heap.size + 1) v4 s4 false (k4 : Nat) rfl hp7) rfl ?_
      rw [HQ.out]
      exact pt_end S6.out ho7 hz7 hb7 HE4.out.1 HE4.out.2.1 (by rw [HR.out]; exact ⟨rfl, rfl, HE4.out.2.2.2.2.1, HE4.out.2.2.2.1⟩)
    have q41 : (((nxt s4).toNat : Int) != 41) = true := byte_off (n := 41) (fun e => h41 (UInt8.toNat_inj.1 e))
    have hres : res = match pP (nxt s4) t5 with
        | none => none
        | some (q, u) => pR (some (catO acc q)) u := by
      rw [HE4.out.2.2.1, ht5]
      exact pR_part acc t5 (by simp [h124, h41])
    have HR := hid (And.intro hres (And.intro ht5 hs4))
    clear hres h124 h41 ht6 ht5
    go_wp2_with fail
    refine (HX v4 s4 false k4 _).out.mono ?_
    rintro e w5 ⟨rfl, hb5⟩
    have S5 := hid (S4.out.calm hb5)
    clear S4 hb5 d0 d1 d2 d3
    obtain ⟨d0, d1, d2, d3⟩ := S5.out.pat.cells
    go_wp2_with fail
    refine (HX v4 s4 false k4 _).out.mono ?_
    rintro e w6 ⟨rfl, hb6⟩
    have S6 := hid (S5.out.calm hb6)
    clear S5 hb6 d0 d1 d2 d3 hs4
    obtain ⟨d0, d1, d2, d3⟩ := S6.out.pat.cells
    go_wp2_with (refine wpList_load_pat rfl _ rfl w.heap.size rfl _ _ _ _ S6.out.pat ?_)
    refine (HP v4 s4 k4 N4 _ (nxt s4) t5 (by have := HE4.out.1; have := HL.out.2; omega) HR.out.2.1 S6.out.rd (by have := HE4.out.2.1; have := HL.out; omega)).mono ?_
    rintro e w7 ⟨v7, s7, b7, k7, N7, rfl, hr7, hb7, hf7, hz7, hh7, hres7⟩
    have hp7 := S6.out.pat.below hb7 S6.out.pat.lt
    go_wp2_with (refine wpList_store_pat rfl _ _ rfl w.heap.size v7 _ s7 _ b7 _ (k7 : Nat) _ rfl rfl (RdX.one hr7) hp7 ?_)
    intro w8 hp8 hb8 ho8 hz8
    have S8 := hid (S6.out.next hb7 hr7 hf7 hp8 ho8 hz8 hb8)
    have HR7 := hid (And.intro hz7 (And.intro hh7 hres7))
    clear S6 hr7 hb7 hf7 hp7 hp8 hb8 ho8 hz8 hz7 hh7 hres7 d0 d1 d2 d3
    obtain ⟨d0, d1, d2, d3⟩ := S8.out.pat.cells
    have hgk : gk - 1 < gk := by have := HG4.out; have := HR.out.2.2; omega
    cases F with
    | true =>
      have hacc : acc = none := Option.isNone_iff_eq_none.1 HE4.out.2.2.2.2.2.symm
      have HS8 : Hid (RowW w w8 v N sz hi (gk - 1) false res) := hid ⟨_, _, _, _, _, S8.out, by have := HE4.out.1; have := HR7.out.1; omega, by have := HG4.out; have := HR7.out.1; omega, by have := HE4.out.2.1; have := HR7.out.2.1; omega, by
        have hr := HR7.out.2.2
        have h2 := HR.out.1
        rcases e : pP (nxt s4) t5 with _ | ⟨q, u⟩
        · rw [e] at hr h2
          exact .inl ⟨hr, h2⟩
        · rw [e] at hr h2
          obtain ⟨hb, hu, ⟨M, hM⟩, hT⟩ := hr
          subst hacc
          obtain ⟨M4, hM4⟩ := HE4.out.2.2.2.2.1
          exact .inr ⟨hb, some q, by rw [h2, hu]; rfl, rfl, hT, M4 ++ M, by rw [hM, hM4, List.append_assoc]⟩⟩
      clear S8 HR7 HR HE4 HG4
      go_wp2_with fail
      go_roundg (gk - 1)
      case rel => exact ⟨false, rfl, HS8⟩
      all_goals exact hgk
    | false =>
      obtain ⟨a, hacc⟩ : ∃ a, acc = some a := Option.ne_none_iff_exists'.1 (fun e => by have hF := HE4.out.2.2.2.2.2; rw [e] at hF; cases hF)
      go_wp2_with (refine wpList_load_pat rfl _ rfl w.heap.size rfl _ _ _ _ S8.out.pat ?_)
      refine (HW v7 s7 b7 (k7 : Nat) N7 (3, 0, k4, k7) _ S8.out.rd (by have := HE4.out.2.1; have := HR7.out.2.1; have := HL.out; omega)).out.mono ?_
      rintro e w9 ⟨v9, rfl, hr9, hb9, hf9⟩
      have hp9 := S8.out.pat.below hb9 S8.out.pat.lt
      go_wp2_with (refine wpList_store_pat rfl _ _ rfl w.heap.size v9 _ s7 _ b7 _ (N7.length : Nat) _ rfl rfl (RdX.one hr9) hp9 ?_)
      intro wa hpa hba hoa hza
      have S9 := S8.out.next hb9 hr9 (fun g hg => .inr (hf9 g hg)) hpa hoa hza hba
      have HS8 : Hid (RowW w wa v N sz hi (gk - 1) false res) := hid ⟨_, _, _, _, _, S9, by have := HE4.out.1; have := HR7.out.1; omega, by have := HG4.out; have := HR7.out.1; omega, by have := HE4.out.2.1; have := HR7.out.2.1; simp; omega, by
        have hr := HR7.out.2.2
        have h2 := HR.out.1
        rcases e : pP (nxt s4) t5 with _ | ⟨q, u⟩
        · rw [e] at hr h2
          exact .inl ⟨hr, h2⟩
        · rw [e] at hr h2
          obtain ⟨hb, hu, ⟨M, hM⟩, hT⟩ := hr
          subst hacc
          obtain ⟨M4, hM4⟩ := HE4.out.2.2.2.2.1
          have h4 : TreeAt N7 a k4 := by rw [hM]; exact HE4.out.2.2.2.1.grow M
          exact .inr ⟨hb, some (.cat a q), by rw [h2, hu]; rfl, rfl, ⟨0, k4, k7, by simp, h4.grow _, hT.grow _⟩, M4 ++ M ++ [(3, 0, k4, k7)], by rw [hM, hM4, List.append_assoc, List.append_assoc, List.append_assoc]⟩⟩
      clear S8 S9 HR7 HR HE4 HG4 hr9 hb9 hf9 hp9 hpa hba hoa hza d0 d1 d2 d3
      go_wp2_with fail
      go_roundg (gk - 1)
      case rel => exact ⟨false, rfl, HS8⟩
      all_goals exact hgk
end Go.Proofs.YtdhklkpeepmedaaDoor
