/-
  The walk of RegexNull: it returns true at every two texts, and leaves the old memory alone. Conditions: texts of at most 2^47 - 4096 bytes, as every text that is read; errors.errorType as the program's text lays it.
-/
import Derived.Test.YtdhklkpeepmedaaDoorRgfact
import Derived.Laws.Concat
namespace Go.Proofs.YtdhklkpeepmedaaDoor
open Go.RowKit

theorem nul_eq {r q : Re UInt8} (h : Mt r [] ↔ Mt q []) : nul r = nul q := bool_iff (by rw [nul_iff, nul_iff]; exact h)
/-- What Null says of a text that is built of patterns: its answer where it is short enough, else the error. -/
def NulC (s : ByteArray) (n : Nat) (x : Bool) : Prop := s.size = n ∧ ∀ W, (n ≤ 12 → Hid (Calls Tryd.prog 13 #[.string s] W fun e w' => e = .returned (.tuple #[.bool x, .nilIface]) ∧ Below W.heap.size W w')) ∧
  (12 < n → Hid (Calls Tryd.prog 13 #[.string s] W fun e w' => e = .returned (.tuple #[.bool false, .iface 43 (.int .i64 4)]) ∧ Below W.heap.size W w'))
theorem nulC_of {s : ByteArray} {r : Re UInt8} {n : Nat} {x : Bool} (hn : s.size = n) (hp : s.size ≤ maxLen) (h : prs (bs s) = some r) (hx : nul r = x) : NulC s n x := by
  subst hn hx
  exact ⟨rfl, fun W => ⟨fun h12 => hid (rgnull_ok s r W ⟨h12, h⟩), fun h12 => hid (rgnull_bad s 4 W hp (.inl ⟨h12, rfl⟩))⟩⟩
theorem NulC.two {s : ByteArray} {n : Nat} {x : Bool} (h : NulC s n x) : (n ≤ 12 ∧ ∀ W, Hid (Calls Tryd.prog 13 #[.string s] W fun e w' => e = .returned (.tuple #[.bool x, .nilIface]) ∧ Below W.heap.size W w')) ∨
    (12 < n ∧ ∀ W, Hid (Calls Tryd.prog 13 #[.string s] W fun e w' => e = .returned (.tuple #[.bool false, .iface 43 (.int .i64 4)]) ∧ Below W.heap.size W w')) := by
  obtain ⟨_, h⟩ := h
  rcases Nat.lt_or_ge 12 n with d | d
  · exact .inr ⟨d, fun W => (h W).2 d⟩
  · exact .inl ⟨d, fun W => (h W).1 d⟩
set_option maxHeartbeats 16000000 in
set_option maxRecDepth 100000 in
theorem regexNull_any (p q : ByteArray) (w : World) (hs : p.size ≤ 140737488351232) (ht : q.size ≤ 140737488351232) (hg : Laid w) :
    Calls Tryd.prog 4 #[.string p, .string q] w fun e w' => e = .returned (.bool true) ∧ Below w.heap.size w w' := by
  have HF := hid (regexFact_any w w hg (Below.refl _ _))
  clear hg
  have any : ∀ (s : ByteArray), s.size ≤ maxLen → Hid (∀ W, Calls Tryd.prog 13 #[.string s] W fun e w' => (∃ b x, e = .returned (.tuple #[.bool b, x]) ∧ (x = .nilIface ∨ ∃ k, x = .iface 43 (.int .i64 k))) ∧ Below W.heap.size W w') := fun s hs => hid fun W => by
    rcases rg_or s with ⟨r, hr⟩ | ⟨k, hk⟩
    · refine (rgnull_ok s r W hr).mono ?_
      rintro e w' ⟨rfl, hb⟩
      exact ⟨⟨_, _, rfl, .inl rfl⟩, hb⟩
    · refine (rgnull_bad s k W hs hk).mono ?_
      rintro e w' ⟨rfl, hb⟩
      exact ⟨⟨_, _, rfl, .inr ⟨k, rfl⟩⟩, hb⟩
  rcases rg_or p with ⟨r, hr⟩ | ⟨k, hk⟩
  rotate_left
  · have H1 := fun W => hid (rgnull_bad p k W (by unfold maxLen; omega) hk)
    have H2 := any q (by unfold maxLen; omega)
    clear any hk hs ht
    go_enter Tryd.func4, Tryd.ntmps4
    go_wp2_with fail
    refine HF.out.mono ?_
    rintro e w1 ⟨rfl, hb1⟩
    clear HF
    go_wp2_with fail
    refine (H1 _).out.mono ?_
    rintro e w2 ⟨rfl, hb2⟩
    have hbA := hb1.trans (hb2.mono hb1.size)
    clear H1 hb1 hb2
    go_wp2_with fail
    refine (H2.out _).mono ?_
    rintro e w3 ⟨⟨b, x, rfl, _⟩, hb3⟩
    have hbB := hbA.trans (hb3.mono hbA.size)
    clear H2 hbA hb3
    go_wp2_with fail
    go_ret
    exact ⟨by first | rfl | simp, hbB⟩
  rcases rg_or q with ⟨u, hu⟩ | ⟨k, hk⟩
  rotate_left
  · have H1 := fun W => hid (rgnull_ok p r W hr)
    have H2 := fun W => hid (rgnull_bad q k W (by unfold maxLen; omega) hk)
    clear any hk hs ht hr
    generalize nul r = x at H1
    go_enter Tryd.func4, Tryd.ntmps4
    go_wp2_with fail
    refine HF.out.mono ?_
    rintro e w1 ⟨rfl, hb1⟩
    clear HF
    go_wp2_with fail
    refine (H1 _).out.mono ?_
    rintro e w2 ⟨rfl, hb2⟩
    have hbA := hb1.trans (hb2.mono hb1.size)
    clear H1 hb1 hb2
    go_wp2_with fail
    refine (H2 _).out.mono ?_
    rintro e w3 ⟨rfl, hb3⟩
    have hbB := hbA.trans (hb3.mono hbA.size)
    clear H2 hbA hb3
    go_wp2_with fail
    go_ret
    exact ⟨by first | rfl | simp, hbB⟩
  have hps := hr.1
  have hqs := hu.1
  have H1 := fun W => hid (rgnull_ok p r W hr)
  have H2 := fun W => hid (rgnull_ok q u W hu)
  have hA1 : (p ++ (⟨#[124]⟩ : ByteArray)).size = p.size + 1 := ByteArray.size_append
  have hA2 : ((p ++ (⟨#[124]⟩ : ByteArray)) ++ q).size = p.size + 1 + q.size := by rw [ByteArray.size_append, hA1]
  have hB1 : ((⟨#[40]⟩ : ByteArray) ++ p).size = 1 + p.size := ByteArray.size_append
  have hB2 : (((⟨#[40]⟩ : ByteArray) ++ p) ++ (⟨#[41, 40]⟩ : ByteArray)).size = 1 + p.size + 2 := by rw [ByteArray.size_append, hB1]; rfl
  have hB3 : ((((⟨#[40]⟩ : ByteArray) ++ p) ++ (⟨#[41, 40]⟩ : ByteArray)) ++ q).size = 1 + p.size + 2 + q.size := by rw [ByteArray.size_append, hB2]
  have hB4 : (((((⟨#[40]⟩ : ByteArray) ++ p) ++ (⟨#[41, 40]⟩ : ByteArray)) ++ q) ++ (⟨#[41]⟩ : ByteArray)).size = 1 + p.size + 2 + q.size + 1 := by rw [ByteArray.size_append, hB3]; rfl
  have hC1 : (((⟨#[40]⟩ : ByteArray) ++ p) ++ (⟨#[41, 42]⟩ : ByteArray)).size = 1 + p.size + 2 := by rw [ByteArray.size_append, hB1]; rfl
  have a1 := fun W => run_string_add_sum (P := Tryd.prog) W p (⟨#[124]⟩ : ByteArray) (by show p.size + 1 ≤ maxLen; unfold maxLen; omega)
  have a2 := fun W => run_string_add_sum (P := Tryd.prog) W (p ++ (⟨#[124]⟩ : ByteArray)) q (by rw [hA1]; omega)
  have b1 := fun W => run_string_add_sum (P := Tryd.prog) W (⟨#[40]⟩ : ByteArray) p (by show 1 + p.size ≤ maxLen; unfold maxLen; omega)
  have b2 := fun W => run_string_add_sum (P := Tryd.prog) W ((⟨#[40]⟩ : ByteArray) ++ p) (⟨#[41, 40]⟩ : ByteArray) (by rw [hB1]; show 1 + p.size + 2 ≤ maxLen; unfold maxLen; omega)
  have b3 := fun W => run_string_add_sum (P := Tryd.prog) W (((⟨#[40]⟩ : ByteArray) ++ p) ++ (⟨#[41, 40]⟩ : ByteArray)) q (by rw [hB2]; omega)
  have b4 := fun W => run_string_add_sum (P := Tryd.prog) W ((((⟨#[40]⟩ : ByteArray) ++ p) ++ (⟨#[41, 40]⟩ : ByteArray)) ++ q) (⟨#[41]⟩ : ByteArray) (by rw [hB3]; show 1 + p.size + 2 + q.size + 1 ≤ maxLen; unfold maxLen; omega)
  have c1 := fun W => run_string_add_sum (P := Tryd.prog) W ((⟨#[40]⟩ : ByteArray) ++ p) (⟨#[41, 42]⟩ : ByteArray) (by rw [hB1]; show 1 + p.size + 2 ≤ maxLen; unfold maxLen; omega)
  obtain ⟨z, hz, hzw⟩ := prs_bar hr.2 hu.2
  have N1 : NulC ((p ++ (⟨#[124]⟩ : ByteArray)) ++ q) (p.size + 1 + q.size) (nul r || nul u) := nulC_of hA2 (by rw [hA2]; unfold maxLen; omega) (r := z) (by
    rw [wb_app, wb_app, List.append_assoc]; exact hz) (bool_iff (by rw [Bool.or_eq_true, nul_iff, nul_iff, nul_iff]; exact hzw []))
  have N2 : NulC (((((⟨#[40]⟩ : ByteArray) ++ p) ++ (⟨#[41, 40]⟩ : ByteArray)) ++ q) ++ (⟨#[41]⟩ : ByteArray)) (1 + p.size + 2 + q.size + 1) (nul r && nul u) := nulC_of hB4 (by rw [hB4]; unfold maxLen; omega) (r := .cat r u) (by
    rw [wb_app, wb_app, wb_app, wb_app, List.append_assoc, List.append_assoc, List.append_assoc]; exact prs_both hr.2 hu.2) rfl
  have N3 : NulC (((⟨#[40]⟩ : ByteArray) ++ p) ++ (⟨#[41, 42]⟩ : ByteArray)) (1 + p.size + 2) true := nulC_of hC1 (by rw [hC1]; unfold maxLen; omega) (r := .star r) (by
    rw [wb_app, wb_app, List.append_assoc]; exact prs_starred hr.2) rfl
  clear any hz hzw hr hu hA1 hA2 hB1 hB2 hB3 hB4 hC1 hs ht
  generalize ((((⟨#[40]⟩ : ByteArray) ++ p) ++ (⟨#[41, 40]⟩ : ByteArray)) ++ q) ++ (⟨#[41]⟩ : ByteArray) = s8 at b4 N2
  generalize (((⟨#[40]⟩ : ByteArray) ++ p) ++ (⟨#[41, 40]⟩ : ByteArray)) ++ q = s7 at b3 b4
  generalize ((⟨#[40]⟩ : ByteArray) ++ p) ++ (⟨#[41, 40]⟩ : ByteArray) = s6 at b2 b3
  generalize ((⟨#[40]⟩ : ByteArray) ++ p) ++ (⟨#[41, 42]⟩ : ByteArray) = s5 at c1 N3
  generalize (⟨#[40]⟩ : ByteArray) ++ p = s4 at b1 b2 c1
  generalize (p ++ (⟨#[124]⟩ : ByteArray)) ++ q = s3 at a2 N1
  generalize p ++ (⟨#[124]⟩ : ByteArray) = s2 at a1 a2
  generalize nul r = x at H1 N1 N2
  generalize nul u = y at H2 N1 N2
  rcases N1.two with ⟨d1, K1⟩ | ⟨d1, K1⟩ <;> rcases N2.two with ⟨d2, K2⟩ | ⟨d2, K2⟩ <;> rcases N3.two with ⟨d3, K3⟩ | ⟨d3, K3⟩
  all_goals first | (exfalso; omega) | skip
  all_goals (
    try have g1 : (11 : Int) < (p.size : Int) + (q.size : Int) := by omega
    try have g2 : (8 : Int) < (p.size : Int) + (q.size : Int) := by omega
    try have g3 : (9 : Int) < (p.size : Int) := by omega
    clear N1 N2 N3 d1 d2 d3
    go_enter Tryd.func4, Tryd.ntmps4
    go_wp2_with fail
    refine HF.out.mono ?_
    rintro e w1 ⟨rfl, hb1⟩
    clear HF
    go_wp2_with fail
    refine (H1 _).out.mono ?_
    rintro e w2 ⟨rfl, hb2⟩
    have hbA := hb1.trans (hb2.mono hb1.size)
    clear H1 hb1 hb2
    go_wp2_with fail
    refine (H2 _).out.mono ?_
    rintro e w3 ⟨rfl, hb3⟩
    have hbB := hbA.trans (hb3.mono hbA.size)
    clear H2 hbA hb3
    go_wp2_with fail
    refine (K1 _).out.mono ?_
    rintro e w4 ⟨rfl, hb4⟩
    have hbC := hbB.trans (hb4.mono hbB.size)
    clear K1 hbB hb4
    go_wp2_with fail
    refine (K2 _).out.mono ?_
    rintro e w5 ⟨rfl, hb5⟩
    have hbD := hbC.trans (hb5.mono hbC.size)
    clear K2 hbC hb5
    go_wp2_with fail
    refine (K3 _).out.mono ?_
    rintro e w6 ⟨rfl, hb6⟩
    have hbE := hbD.trans (hb6.mono hbD.size)
    clear K3 hbD hb6
    rcases Bool.eq_false_or_eq_true x with rfl | rfl <;> rcases Bool.eq_false_or_eq_true y with rfl | rfl
    all_goals go_wp2_with fail
    all_goals go_ret
    all_goals exact ⟨by first | rfl | simp, hbE⟩)
end Go.Proofs.YtdhklkpeepmedaaDoor
