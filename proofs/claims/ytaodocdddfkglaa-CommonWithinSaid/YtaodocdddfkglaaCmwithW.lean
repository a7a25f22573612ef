/-
  The walk of CommonWithin: it returns true at every three texts and two numbers. Conditions: the row's own sizes.
-/
import Derived.Test.YtaodocdddfkglaaCfact
import Derived.Test.YtaodocdddfkglaaIn2
import Derived.Test.YtaodocdddfkglaaStr
namespace Go.Proofs.Ytaodocdddfkglaa
open Go.RowKit

/-- Two texts of any size the row allows: some answer. -/
theorem cwithin_some (a b : ByteArray) (w : World) (ha : a.size ≤ maxLen) (hb : b.size ≤ maxLen) :
    Calls Try.prog 9 #[.string a, .string b] w fun e w' => (∃ v x, e = .returned (.tuple #[v, x])) ∧ Below w.heap.size w w' := by
  by_cases h : a.size ≤ 24 ∧ b.size ≤ 24
  · exact (cwithin_any a b w h.1 h.2).mono fun e w' ⟨h1, h2⟩ => ⟨⟨_, _, h1⟩, h2⟩
  · exact (cwithin_full a b w (by omega) ha hb).mono fun e w' ⟨h1, h2⟩ => ⟨⟨_, _, h1⟩, h2⟩
set_option maxHeartbeats 2000000 in
theorem cmw_bad (a b c : ByteArray) (i j : Int) (w : World) (h : 24 < a.size ∨ 24 < b.size ∨ 24 < c.size) (ha : a.size ≤ maxLen) (hb : b.size ≤ maxLen) (hc : c.size ≤ maxLen) :
    Calls Try.prog 5 #[.string a, .string b, .string c, .int .i64 i, .int .i64 j] w fun e w' => e = .returned (.bool true) ∧ Below w.heap.size w w' := by
  have HF := fun W => hid (cfact_any W)
  have H3 := fun W => hid (cwithin_some a c W ha hc)
  have H4 := fun W => hid (cwithin_some b a W hb ha)
  by_cases h12 : 24 < a.size ∨ 24 < b.size
  · have H1 := fun W => hid (cwithin_full a b W h12 ha hb)
    have H2 := fun W => hid (cwithin_some b c W hb hc)
    have hway : decide (24 < (a.size : Int)) = true ∨ (decide (24 < (a.size : Int)) = false ∧ decide (24 < (b.size : Int)) = true) := by
      by_cases e : 24 < a.size
      · exact .inl (decide_eq_true (by omega))
      · exact .inr ⟨decide_eq_false (by omega), decide_eq_true (by omega)⟩
    clear h h12 ha hb hc
    go_enter Try.func5, Try.ntmps5
    go_wp2_with fail
    refine (HF _).out.mono ?_
    rintro e w1 ⟨rfl, hb1⟩
    go_wp2_with fail
    refine (H1 _).out.mono ?_
    rintro e w2 ⟨rfl, hb2⟩
    have hbA := hb1.trans (hb2.mono hb1.size)
    clear hb1 hb2
    go_wp2_with fail
    refine (H2 _).out.mono ?_
    rintro e w3 ⟨⟨v2, x2, rfl⟩, hb3⟩
    have hbB := hbA.trans (hb3.mono hbA.size)
    clear hbA hb3
    go_wp2_with fail
    refine (H3 _).out.mono ?_
    rintro e w4 ⟨⟨v3, x3, rfl⟩, hb4⟩
    have hbC := hbB.trans (hb4.mono hbB.size)
    clear hbB hb4
    go_wp2_with fail
    refine (H4 _).out.mono ?_
    rintro e w5 ⟨⟨v4, x4, rfl⟩, hb5⟩
    have hbD := hbC.trans (hb5.mono hbC.size)
    clear hbC hb5 HF H1 H2 H3 H4
    rcases hway with d1 | ⟨d1, d2⟩
    all_goals (
      go_wp2_with fail
      go_ret
      exact ⟨by first | rfl | exact ret_bool (by simp [*]), hbD⟩)
  · have H1 := fun W => hid (cwithin_any a b W (by omega) (by omega))
    have H2 := fun W => hid (cwithin_full b c W (by omega) hb hc)
    have d1 : decide (24 < (a.size : Int)) = false := decide_eq_false (by omega)
    have d2 : decide (24 < (b.size : Int)) = false := decide_eq_false (by omega)
    have d3 : decide (24 < (c.size : Int)) = true := decide_eq_true (by omega)
    clear h h12 ha hb hc
    generalize wiB (bs a) (bs b) = x at H1
    go_enter Try.func5, Try.ntmps5
    go_wp2_with fail
    refine (HF _).out.mono ?_
    rintro e w1 ⟨rfl, hb1⟩
    go_wp2_with fail
    refine (H1 _).out.mono ?_
    rintro e w2 ⟨rfl, hb2⟩
    have hbA := hb1.trans (hb2.mono hb1.size)
    clear hb1 hb2
    go_wp2_with fail
    refine (H2 _).out.mono ?_
    rintro e w3 ⟨rfl, hb3⟩
    have hbB := hbA.trans (hb3.mono hbA.size)
    clear hbA hb3
    go_wp2_with fail
    refine (H3 _).out.mono ?_
    rintro e w4 ⟨⟨v3, x3, rfl⟩, hb4⟩
    have hbC := hbB.trans (hb4.mono hbB.size)
    clear hbB hb4
    go_wp2_with fail
    refine (H4 _).out.mono ?_
    rintro e w5 ⟨⟨v4, x4, rfl⟩, hb5⟩
    have hbD := hbC.trans (hb5.mono hbC.size)
    clear hbC hb5 HF H1 H2 H3 H4
    go_wp2_with fail
    go_ret
    exact ⟨by first | rfl | exact ret_bool (by simp [*]), hbD⟩
theorem wiB_false {a b : List UInt8} (h : ¬ a.Sublist b) : wiB a b = false := by
  cases e : wiB a b with
  | false => rfl
  | true => exact absurd ((wiB_iff b a).1 e) h
set_option maxRecDepth 100000 in
set_option maxHeartbeats 4000000 in
theorem cmw_any (a b c : ByteArray) (i j : Int) (w : World) (ha : a.size ≤ maxLen) (hb : b.size ≤ maxLen) (hc : c.size ≤ maxLen) :
    Calls Try.prog 5 #[.string a, .string b, .string c, .int .i64 i, .int .i64 j] w fun e w' => e = .returned (.bool true) ∧ Below w.heap.size w w' := by
  by_cases h : 24 < a.size ∨ 24 < b.size ∨ 24 < c.size
  · exact cmw_bad a b c i j w h ha hb hc
  have ha2 : a.size ≤ 24 := by omega
  have hb2 : b.size ≤ 24 := by omega
  have hc2 : c.size ≤ 24 := by omega
  clear h ha hb hc
  have HF := fun W => hid (cfact_any W)
  have H1 := fun W => hid (cwithin_any a b W ha2 hb2)
  have H2 := fun W => hid (cwithin_any b c W hb2 hc2)
  have H3 := fun W => hid (cwithin_any a c W ha2 hc2)
  have H4 := fun W => hid (cwithin_any b a W hb2 ha2)
  have hway : (wiB (bs a) (bs b) = false ∧ (a.toList == b.toList) = false) ∨ (wiB (bs a) (bs b) = true ∧ (wiB (bs b) (bs c) = false ∨ (wiB (bs b) (bs c) = true ∧ wiB (bs a) (bs c) = true)) ∧
      ((wiB (bs b) (bs a) = true ∧ (a.toList == b.toList) = true) ∨ (wiB (bs b) (bs a) = false ∧ (a.toList == b.toList) = false))) := by
    by_cases h1 : (bs a).Sublist (bs b)
    · refine .inr ⟨(wiB_iff _ _).2 h1, ?_, ?_⟩
      · by_cases h2 : (bs b).Sublist (bs c)
        · exact .inr ⟨(wiB_iff _ _).2 h2, (wiB_iff _ _).2 (h1.trans h2)⟩
        · exact .inl (wiB_false h2)
      · by_cases h3 : (bs b).Sublist (bs a)
        · exact .inl ⟨(wiB_iff _ _).2 h3, same_yes (bs_inj (within_both h1 h3))⟩
        · exact .inr ⟨wiB_false h3, same_no fun e => h3 (by rw [e]; exact List.Sublist.refl _)⟩
    · exact .inl ⟨wiB_false h1, same_no fun e => h1 (by rw [e]; exact List.Sublist.refl _)⟩
  generalize wiB (bs a) (bs b) = x at H1 hway
  generalize wiB (bs b) (bs c) = y at H2 hway
  generalize wiB (bs a) (bs c) = z at H3 hway
  generalize wiB (bs b) (bs a) = u at H4 hway
  obtain ⟨q, hq⟩ : ∃ q, q = (a.toList == b.toList) := ⟨_, rfl⟩
  have hq1 := hq.symm
  rw [← hq] at hway
  clear hq
  go_enter Try.func5, Try.ntmps5
  go_wp2_with fail
  refine (HF _).out.mono ?_
  rintro e w1 ⟨rfl, hb1⟩
  go_wp2_with fail
  refine (H1 _).out.mono ?_
  rintro e w2 ⟨rfl, hb2'⟩
  have hbA := hb1.trans (hb2'.mono hb1.size)
  clear hb1 hb2'
  go_wp2_with fail
  refine (H2 _).out.mono ?_
  rintro e w3 ⟨rfl, hb3⟩
  have hbB := hbA.trans (hb3.mono hbA.size)
  clear hbA hb3
  go_wp2_with fail
  refine (H3 _).out.mono ?_
  rintro e w4 ⟨rfl, hb4⟩
  have hbC := hbB.trans (hb4.mono hbB.size)
  clear hbB hb4
  go_wp2_with fail
  refine (H4 _).out.mono ?_
  rintro e w5 ⟨rfl, hb5⟩
  have hbD := hbC.trans (hb5.mono hbC.size)
  clear hbC hb5 HF H1 H2 H3 H4
  rcases hway with ⟨rfl, rfl⟩ | ⟨rfl, rfl | ⟨rfl, rfl⟩, ⟨rfl, rfl⟩ | ⟨rfl, rfl⟩⟩
  all_goals (go_wp2_with fail)
  all_goals (
    clear hq1
    by_cases hi : 0 ≤ i ∧ i ≤ b.size
    · refine (in_yes i 0 (b.size : Int) _ hi.1 hi.2).mono ?_
      rintro e w6 ⟨rfl, hw6⟩
      subst w6
      go_wp2_with fail
      by_cases hj : i ≤ j ∧ j ≤ b.size
      · refine (in_yes j i (b.size : Int) _ hj.1 hj.2).mono ?_
        rintro e w6 ⟨rfl, hw6⟩
        subst w6
        have hcut : ∀ W : World, Sem.run Try.prog (Instr.slice 9 (.string b) (some (.int .i64 i)) (some (.int .i64 j)) none) W = .ok (.string (b.extract i.toNat j.toNat)) W := fun W =>
          run_slice_string W 9 b .i64 .i64 i j Try.underlying9 (by omega) (by omega) (by omega)
        have H5 := fun W => cwithin_any (b.extract i.toNat j.toNat) b W (by rw [ByteArray.size_extract]; omega) hb2
        rw [show wiB (bs (b.extract i.toNat j.toNat)) (bs b) = true from (wiB_iff _ _).2 (by rw [wb_ext]; exact within_part _ _ _)] at H5
        have H5 := hid H5
        clear hi hj
        generalize b.extract i.toNat j.toNat = t at hcut H5
        go_wp2_with fail
        refine (H5.out _).mono ?_
        rintro e w6 ⟨rfl, hb6⟩
        have hbE := hbD.trans (hb6.mono hbD.size)
        clear hbD hb6 H5
        go_wp2_with fail
        go_ret
        exact ⟨rfl, hbE⟩
      · refine (in_not j i (b.size : Int) _ hj).mono ?_
        rintro e w6 ⟨rfl, hw6⟩
        subst w6
        clear hi hj
        go_wp2_with fail
        go_ret
        exact ⟨rfl, hbD⟩
    · refine (in_not i 0 (b.size : Int) _ hi).mono ?_
      rintro e w6 ⟨rfl, hw6⟩
      subst w6
      clear hi
      go_wp2_with fail
      go_ret
      exact ⟨rfl, hbD⟩)
end Go.Proofs.Ytaodocdddfkglaa
