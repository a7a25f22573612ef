/-
  The walk of TopMirrors: it returns true at every text. Conditions: the row's own sizes.
-/
import Derived.Test.YtaodocdddfkglaaMirL
import Derived.Test.YtaodocdddfkglaaMirs
import Derived.Test.YtaodocdddfkglaaCcom
import Derived.Test.YtaodocdddfkglaaEfar
import Derived.Test.YtaodocdddfkglaaBack
import Derived.Test.YtaodocdddfkglaaInT
namespace Go.Proofs.Ytaodocdddfkglaa
open Go.RowKit

theorem lgst_aa : Lgst (sg ⟨#[97, 97]⟩) 2 0 2 := lgst_whole fun x y _ hx _ hy _ => by
  have h1 : x = 0 ∨ x = 1 := by omega
  have h2 : y = 0 ∨ y = 1 := by omega
  rcases h1 with rfl | rfl <;> rcases h2 with rfl | rfl <;> rfl
theorem bs_rev (s : ByteArray) : bs (backS s s.size) = (bs s).reverse := by
  show (s.data.toList.take s.size).reverse.toArray.toList = _
  rw [List.take_of_length_le (by rw [Array.length_toList]; exact Nat.le_refl _)]
  rfl
theorem longest_aa (w : World) : Calls Try.prog 14 #[.string ⟨#[97, 97]⟩] w fun e w' => e = .returned (.tuple #[.int .i64 0, .int .i64 2, .nilIface]) ∧ Below w.heap.size w w' :=
  (longest_any ⟨#[97, 97]⟩ w (by decide)).mono fun e w' ⟨a, m, he, hl, hb⟩ => ⟨by
    obtain ⟨rfl, rfl⟩ := lgst_one (show Lgst (sg ⟨#[97, 97]⟩) 2 a m from hl) lgst_aa
    exact he, hb⟩
theorem topm_long (s : ByteArray) (w : World) (h : 24 < s.size) (hs : s.size ≤ maxLen) :
    Calls Try.prog 6 #[.string s] w fun e w' => e = .returned (.bool true) ∧ Below w.heap.size w w' := by
  have H1 := fun W => hid (longest_long s W h hs)
  have H2 := fun W => hid (longest_aa W)
  have H3 := fun W => hid (back_any s W hs)
  have H4 := fun W => hid (clong_full s (backS s s.size) W (.inl h) hs (by rw [backS_size _ _ (Nat.le_refl _)]; exact hs))
  clear h hs
  generalize backS s s.size = r at H3 H4
  go_enter Try.func6, Try.ntmps6
  go_wp2_with fail
  refine (H1 _).out.mono ?_
  rintro e w1 ⟨rfl, hb1⟩
  go_wp2_with fail
  refine (H2 _).out.mono ?_
  rintro e w2 ⟨rfl, hb2⟩
  have hbA := hb1.trans (hb2.mono hb1.size)
  clear hb1 hb2 H1 H2
  go_wp2_with fail
  refine (H3 _).out.mono ?_
  rintro e w3 ⟨rfl, hw3⟩
  subst w3
  go_wp2_with fail
  refine (H4 _).out.mono ?_
  rintro e w4 ⟨rfl, hb4⟩
  have hbB := hbA.trans (hb4.mono hbA.size)
  clear hbA hb4 H3 H4
  go_wp2_with fail
  go_ret
  exact ⟨rfl, hbB⟩
set_option maxHeartbeats 2000000 in
theorem topm_any (s : ByteArray) (w : World) (hs : s.size ≤ maxLen) :
    Calls Try.prog 6 #[.string s] w fun e w' => e = .returned (.bool true) ∧ Below w.heap.size w w' := by
  by_cases h : 24 < s.size
  · exact topm_long s w h hs
  have hs2 : s.size ≤ 24 := by omega
  have hbz : (backS s s.size).size ≤ 24 := by rw [backS_size _ _ (Nat.le_refl _)]; exact hs2
  have H1 := fun W => hid (longest_any s W hs2)
  have H2 := fun W => hid (longest_aa W)
  have H3 := fun W => hid (back_any s W hs)
  have H4 := fun W => hid (clong_any s (backS s s.size) W hs2 hbz)
  have H5 := fun W => hid (efar_any s (backS s s.size) W hs2 hbz)
  have hk : far (bs s) (bs s).reverse ≤ 24 := by
    have := far_high (bs s) (bs s).reverse
    rw [List.length_reverse, bs_len] at this
    omega
  have HMF := hid (mirror_far s)
  have HMC := hid (mirror_cmn s)
  rw [bs_rev] at H4 H5
  clear h hs hbz
  generalize backS s s.size = r at H3 H4 H5
  go_enter Try.func6, Try.ntmps6
  go_wp2_with fail
  refine (H1 _).out.mono ?_
  rintro e w1 ⟨a, m, rfl, hl, hb1⟩
  have hcm := pal_common hl.1 hl.2.1
  have hall := mirror_all hl
  have hmz : m ≤ s.size := by have := hl.1; omega
  have hmf := HMF.out.trans hall
  have hmc := HMC.out.trans HMF.out.symm
  have hway : (far (bs s) (bs s).reverse = 0 ∧ m = s.size ∧ (cmn (bs s) (bs s).reverse).length = s.size) ∨ (far (bs s) (bs s).reverse ≠ 0 ∧ m ≠ s.size ∧ (cmn (bs s) (bs s).reverse).length ≠ s.size) := by
    by_cases e : far (bs s) (bs s).reverse = 0
    · exact .inl ⟨e, hmf.1 e, hmc.2 e⟩
    · exact .inr ⟨e, fun e' => e (hmf.2 e'), fun e' => e (hmc.1 e')⟩
  have hcl := (cmn_le (bs s) (bs s).reverse).1
  rw [bs_len] at hcl
  clear hmf hmc hall hl HMF HMC
  generalize (cmn (bs s) (bs s).reverse).length = N at H4 hcm hway hcl
  generalize far (bs s) (bs s).reverse = K at H5 hway hk
  go_wp2_with fail
  refine (H2 _).out.mono ?_
  rintro e w2 ⟨rfl, hb2⟩
  have hbA := hb1.trans (hb2.mono hb1.size)
  clear hb1 hb2 H1 H2
  go_wp2_with fail
  refine (H3 _).out.mono ?_
  rintro e w3 ⟨rfl, hw3⟩
  subst w3
  go_wp2_with fail
  refine (H4 _).out.mono ?_
  rintro e w4 ⟨rfl, hb4⟩
  have hbB := hbA.trans (hb4.mono hbA.size)
  clear hbA hb4 H4
  go_wp2_with fail
  refine (H3 _).out.mono ?_
  rintro e w5 ⟨rfl, hw5⟩
  subst w5
  go_wp2_with fail
  refine (H5 _).out.mono ?_
  rintro e w6 ⟨rfl, hb6⟩
  have hbC := hbB.trans (hb6.mono hbB.size)
  clear hbB hb6 H3 H5
  have hin : (0 : Int) ≤ (m : Int) ∧ (m : Int) ≤ (s.size : Int) := by omega
  have i1 : (N : Int) ≥ (m : Int) := by omega
  rcases hway with ⟨e1, e2, e3⟩ | ⟨e1, e2, e3⟩
  focus
    have t1 : ((K : Int) == 0) = true := beq_iff_eq.2 (by omega)
    have t2 : ((m : Int) == (s.size : Int)) = true := beq_iff_eq.2 (by omega)
    have t3 : ((N : Int) == (s.size : Int)) = true := beq_iff_eq.2 (by omega)
    clear e1 e2 e3 hcm hmz hcl
    go_wp2_with fail
  rotate_left
  focus
    have t1 : ((K : Int) == 0) = false := beq_eq_false_iff_ne.2 (by omega)
    have t2 : ((m : Int) == (s.size : Int)) = false := beq_eq_false_iff_ne.2 (by omega)
    have t3 : ((N : Int) == (s.size : Int)) = false := beq_eq_false_iff_ne.2 (by omega)
    clear e1 e2 e3 hcm hmz hcl
    go_wp2_with fail
  all_goals (
    refine (in_yes (m : Int) 0 (s.size : Int) _ hin.1 hin.2).mono ?_
    rintro e w7 ⟨rfl, hw7⟩
    subst w7
    go_wp2_with fail
    go_ret
    exact ⟨rfl, hbC⟩)
end Go.Proofs.Ytaodocdddfkglaa
