/-
  The walk of RegexPattern: it returns true at every text, and leaves the old memory alone. Conditions: the row's own sizes; errors.errorType as the program's text lays it.
-/
import Derived.Test.YtdhklkpeepmedaaDoorRgfact
import Derived.Laws.Concat
namespace Go.Proofs.YtdhklkpeepmedaaDoor
open Go.RowKit

theorem rg_app {p : ByteArray} {r : Re UInt8} (h : RgOk p r) (hs : p.size ≤ 10) :
    RgBad ((⟨#[40]⟩ : ByteArray) ++ p) 2 ∧ RgBad (p ++ (⟨#[41]⟩ : ByteArray)) 2 ∧ RgOk (((⟨#[40]⟩ : ByteArray) ++ p) ++ (⟨#[41]⟩ : ByteArray)) r := by
  refine ⟨.inr ⟨?_, ?_, rfl⟩, .inr ⟨?_, ?_, rfl⟩, ?_, ?_⟩
  · rw [ByteArray.size_append]; show 1 + p.size ≤ 12; omega
  · rw [wb_app]; exact prs_open h.2
  · rw [ByteArray.size_append]; show p.size + 1 ≤ 12; omega
  · rw [wb_app]; exact prs_shut h.2
  · rw [ByteArray.size_append, ByteArray.size_append]; show 1 + p.size + 1 ≤ 12; omega
  · rw [wb_app, wb_app]; exact prs_brackets h.2
set_option maxHeartbeats 8000000 in
set_option maxRecDepth 100000 in
theorem regexPattern_any (p : ByteArray) (w : World) (hs : p.size ≤ 140737488351232) (hg : Laid w) :
    Calls Tryd.prog 5 #[.string p] w fun e w' => e = .returned (.bool true) ∧ Below w.heap.size w w' := by
  have hp := hg.pos
  have HF := hid (regexFact_any w w hg (Below.refl _ _))
  have HE := fun W (h : Below w.heap.size w W) => hid (error_err 2 W (hg.below hp h))
  have hadd1 := fun W => run_string_add_sum (P := Tryd.prog) W (⟨#[40]⟩ : ByteArray) p (by show 1 + p.size ≤ maxLen; unfold maxLen; omega)
  have hadd2 := fun W => run_string_add_sum (P := Tryd.prog) W p (⟨#[41]⟩ : ByteArray) (by show p.size + 1 ≤ maxLen; unfold maxLen; omega)
  have hadd3 := fun W => run_string_add_sum (P := Tryd.prog) W ((⟨#[40]⟩ : ByteArray) ++ p) (⟨#[41]⟩ : ByteArray) (by rw [ByteArray.size_append]; show 1 + p.size + 1 ≤ maxLen; unfold maxLen; omega)
  have hs1 : ((⟨#[40]⟩ : ByteArray) ++ p).size = 1 + p.size := ByteArray.size_append
  have hs2 : (p ++ (⟨#[41]⟩ : ByteArray)).size = p.size + 1 := ByteArray.size_append
  have hs3 : (((⟨#[40]⟩ : ByteArray) ++ p) ++ (⟨#[41]⟩ : ByteArray)).size = 1 + p.size + 1 := by rw [ByteArray.size_append, hs1]; rfl
  by_cases h10 : p.size ≤ 10
  · have hi10 : ¬ (10 : Int) < (p.size : Int) := by omega
    rcases rg_or p with ⟨r, hr⟩ | ⟨k, hk⟩
    · obtain ⟨ha, hb, hc⟩ := rg_app hr h10
      have H1 := fun W => hid (rgcheck_ok p r W hr)
      have H2 := fun W => hid (rgcheck_bad _ 2 W (by rw [hs1]; unfold maxLen; omega) ha)
      have H3 := fun W => hid (rgcheck_bad _ 2 W (by rw [hs2]; unfold maxLen; omega) hb)
      have H4 := fun W => hid (rgcheck_ok _ r W hc)
      clear hg hp hs hr ha hb hc hs1 hs2 hs3 h10
      generalize ((⟨#[40]⟩ : ByteArray) ++ p) ++ (⟨#[41]⟩ : ByteArray) = p3 at hadd3 H4
      generalize (⟨#[40]⟩ : ByteArray) ++ p = p1 at hadd1 hadd3 H2
      generalize p ++ (⟨#[41]⟩ : ByteArray) = p2 at hadd2 H3
      go_enter Tryd.func5, Tryd.ntmps5
      go_wp2_with fail
      refine HF.out.mono ?_
      rintro e w1 ⟨rfl, hb1⟩
      clear HF
      go_wp2_with fail
      refine (H1 _).out.mono ?_
      rintro e w2 ⟨rfl, hb2⟩
      have hbA := hb1.trans (hb2.mono hb1.size)
      clear H1 hb1 hb2
      go_wp2_with fail
      refine (H2 _).out.mono ?_
      rintro e w3 ⟨rfl, hb3⟩
      have hbB := hbA.trans (hb3.mono hbA.size)
      clear H2 hbA hb3
      go_wp2_with fail
      refine (H3 _).out.mono ?_
      rintro e w4 ⟨rfl, hb4⟩
      have hbC := hbB.trans (hb4.mono hbB.size)
      clear H3 hbB hb4
      go_wp2_with fail
      refine (H4 _).out.mono ?_
      rintro e w5 ⟨rfl, hb5⟩
      have hbD := hbC.trans (hb5.mono hbC.size)
      clear H4 hbC hb5
      go_wp2_with fail
      refine (HE _ hbD).out.mono ?_
      rintro e w6 ⟨rfl, hb6⟩
      have hbE := hbD.trans (hb6.mono hbD.size)
      clear hbD hb6
      go_wp2_with fail
      refine (HE _ hbE).out.mono ?_
      rintro e w7 ⟨rfl, hb7⟩
      have hbF := hbE.trans (hb7.mono hbE.size)
      clear HE hbE hb7
      go_wp2_with fail
      go_ret
      exact ⟨by first | rfl | simp, hbF⟩
    · obtain rfl := rg_two hk (by omega)
      have H1 := fun W => hid (rgcheck_bad p 2 W (by unfold maxLen; omega) hk)
      have any : ∀ (s : ByteArray), s.size ≤ maxLen → Hid (∀ W, Calls Tryd.prog 9 #[.string s] W fun e w' => (∃ x, e = .returned x ∧ (x = .nilIface ∨ ∃ k, x = .iface 43 (.int .i64 k))) ∧ Below W.heap.size W w') := fun s hs => hid fun W => by
        rcases rg_or s with ⟨r, hr⟩ | ⟨k, hk⟩
        · refine (rgcheck_ok s r W hr).mono ?_
          rintro e w' ⟨rfl, hb⟩
          exact ⟨⟨_, rfl, .inl rfl⟩, hb⟩
        · refine (rgcheck_bad s k W hs hk).mono ?_
          rintro e w' ⟨rfl, hb⟩
          exact ⟨⟨_, rfl, .inr ⟨k, rfl⟩⟩, hb⟩
      have H2 := any ((⟨#[40]⟩ : ByteArray) ++ p) (by rw [hs1]; unfold maxLen; omega)
      have H3 := any (p ++ (⟨#[41]⟩ : ByteArray)) (by rw [hs2]; unfold maxLen; omega)
      have H4 := any (((⟨#[40]⟩ : ByteArray) ++ p) ++ (⟨#[41]⟩ : ByteArray)) (by rw [hs3]; unfold maxLen; omega)
      clear hg hp hs hk any hs1 hs2 hs3 h10
      generalize ((⟨#[40]⟩ : ByteArray) ++ p) ++ (⟨#[41]⟩ : ByteArray) = p3 at hadd3 H4
      generalize (⟨#[40]⟩ : ByteArray) ++ p = p1 at hadd1 hadd3 H2
      generalize p ++ (⟨#[41]⟩ : ByteArray) = p2 at hadd2 H3
      go_enter Tryd.func5, Tryd.ntmps5
      go_wp2_with fail
      refine HF.out.mono ?_
      rintro e w1 ⟨rfl, hb1⟩
      clear HF
      go_wp2_with fail
      refine (H1 _).out.mono ?_
      rintro e w2 ⟨rfl, hb2⟩
      have hbA := hb1.trans (hb2.mono hb1.size)
      clear H1 hb1 hb2
      go_wp2_with fail
      refine (H2.out _).mono ?_
      rintro e w3 ⟨⟨x3, rfl, _⟩, hb3⟩
      have hbB := hbA.trans (hb3.mono hbA.size)
      clear H2 hbA hb3
      go_wp2_with fail
      refine (H3.out _).mono ?_
      rintro e w4 ⟨⟨x4, rfl, _⟩, hb4⟩
      have hbC := hbB.trans (hb4.mono hbB.size)
      clear H3 hbB hb4
      go_wp2_with fail
      refine (H4.out _).mono ?_
      rintro e w5 ⟨⟨x5, rfl, _⟩, hb5⟩
      have hbD := hbC.trans (hb5.mono hbC.size)
      clear H4 hbC hb5
      go_wp2_with fail
      refine (HE _ hbD).out.mono ?_
      rintro e w6 ⟨rfl, hb6⟩
      have hbE := hbD.trans (hb6.mono hbD.size)
      clear HE hbD hb6
      go_wp2_with fail
      go_ret
      exact ⟨rfl, hbE⟩
  · have hi10 : (10 : Int) < (p.size : Int) := by omega
    rcases rg_or p with ⟨r, hr⟩ | ⟨k, hk⟩
    · have H1 := fun W => hid (rgcheck_ok p r W hr)
      have h12 := hr.1
      have hi12 : (p.size : Int) ≤ 12 := by omega
      clear hg hp hs hr h10 hs1 hs2 hs3 hadd1 hadd2 hadd3 HE
      go_enter Tryd.func5, Tryd.ntmps5
      go_wp2_with fail
      refine HF.out.mono ?_
      rintro e w1 ⟨rfl, hb1⟩
      clear HF
      go_wp2_with fail
      refine (H1 _).out.mono ?_
      rintro e w2 ⟨rfl, hb2⟩
      have hbA := hb1.trans (hb2.mono hb1.size)
      clear H1 hb1 hb2
      go_wp2_with fail
      go_ret
      exact ⟨by first | rfl | simp | (exact ret_bool (by simp; omega)), hbA⟩
    · have H1 := fun W => hid (rgcheck_bad p k W (by unfold maxLen; omega) hk)
      clear hg hp hs hk h10 hs1 hs2 hs3 hadd1 hadd2 hadd3 HE
      go_enter Tryd.func5, Tryd.ntmps5
      go_wp2_with fail
      refine HF.out.mono ?_
      rintro e w1 ⟨rfl, hb1⟩
      clear HF
      go_wp2_with fail
      refine (H1 _).out.mono ?_
      rintro e w2 ⟨rfl, hb2⟩
      have hbA := hb1.trans (hb2.mono hb1.size)
      clear H1 hb1 hb2
      go_wp2_with fail
      go_ret
      exact ⟨by first | rfl | simp, hbA⟩
end Go.Proofs.YtdhklkpeepmedaaDoor
