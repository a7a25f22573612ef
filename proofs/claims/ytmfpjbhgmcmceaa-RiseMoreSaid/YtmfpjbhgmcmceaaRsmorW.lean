/-
  The walk of RiseMore: it returns true at every list of numbers and every number. Conditions: the row's own sizes.
-/
import Derived.Test.YtmfpjbhgmcmceaaRsfact
import Derived.Test.YtmfpjbhgmcmceaaRsmor
import Derived.Test.YtmfpjbhgmcmceaaIn2
import Derived.Test.YtmfpjbhgmcmceaaOn
import Derived.Test.YtmfpjbhgmcmceaaIapp
import Derived.Test.YtmfpjbhgmcmceaaTlen
namespace Go.Proofs.Ytmfpjbhgmcmceaa
open Go.RowKit

theorem rsmor_bad (A : Option Addr) (n c : Nat) (l : List Int) (k X : Int) (w : World) (hn : n ≤ maxLen) (hl : IsInts w w.heap.size A n l) (hk : BadR l k) :
    Calls Try.prog 6 #[.slice A n c, .int .i64 X] w fun e w' => e = .returned (.bool true) ∧ Below w.heap.size w w' := by
  have HF := hid (sfact_any w)
  have HL := hid hl
  have H1 := fun W h => hid (spiles_bad A n c l k W hn h hk)
  clear hl hk hn
  go_enter Try.func6, Try.ntmps6
  go_wp2_with fail
  refine HF.out.mono ?_
  rintro e w1 ⟨rfl, hb1⟩
  have HL1 := hid (HL.out.up hb1)
  clear HF HL
  go_wp2_with fail
  refine (H1 _ HL1.out).out.mono ?_
  rintro e w2 ⟨rfl, hb2⟩
  have hbA := hb1.trans (hb2.mono hb1.size)
  clear H1 HL1 hb1 hb2
  go_wp2_with fail
  go_ret
  exact ⟨rfl, hbA⟩
set_option maxHeartbeats 4000000 in
set_option maxRecDepth 100000 in
theorem rsmor_ok (A : Option Addr) (n c : Nat) (l : List Int) (X : Int) (w : World) (hl : IsInts w w.heap.size A n l) (hg : GoodR l) :
    Calls Try.prog 6 #[.slice A n c, .int .i64 X] w fun e w' => e = .returned (.bool true) ∧ Below w.heap.size w w' := by
  obtain ⟨i0, hi, hz0, hz1, hz2⟩ := info_parts int_info
  have HF := hid (sfact_any w)
  have HL := hid hl
  have hln : l.length = n := hl.1
  have hn2 : n ≤ 20 := by have := hg.1; omega
  have H1 := fun W h => hid (spiles_ok A n c l W h hg)
  have HG := hid hg
  have HLN := hid hln
  clear hl hg hln
  go_enter Try.func6, Try.ntmps6
  go_wp2_with fail
  refine HF.out.mono ?_
  rintro e w1 ⟨rfl, hb1⟩
  have HL1 := hid (HL.out.up hb1)
  clear HF HL
  go_wp2_with fail
  refine (H1 _ HL1.out).out.mono ?_
  rintro e w2 ⟨A2, c2, rfl, hI, hb2⟩
  have HL2 := hid (HL1.out.up hb2)
  have hbA := hb1.trans (hb2.mono hb1.size)
  have HI := hid hI
  clear H1 HL1 hb1 hb2 hI
  have hsz := hbA.size
  obtain ⟨m, hm⟩ : ∃ m, m = (tops l.reverse).length := ⟨_, rfl⟩
  have HMl := hid hm
  rw [← hm] at HI ⊢
  clear hm
  have HB : Hid (∀ k, BadR (l ++ [X]) k → n = 20 ∨ ¬ (0 ≤ X ∧ X ≤ 1000)) := hid (fun k hk => by rw [← HLN.out]; exact badR_app HG.out hk)
  have HTop : Hid (tops (l ++ [X]).reverse = pil (tops l.reverse) X) := hid (tops_app l X)
  have HLast := hid (fun m (hm : (tops l.reverse).length = m + 1) => pil_last (tops_sorted l.reverse) X hm)
  have hlen1 : l.length ≤ 1099511627776 := by rw [HLN.out]; omega
  obtain ⟨N, hNn⟩ : ∃ N, N = n := ⟨_, rfl⟩
  have HLl : Hid (l.length = N) := hid (by rw [HLN.out, hNn])
  have hN20 : N ≤ 20 := by omega
  have HNn := hid hNn
  rw [← hNn] at HB
  clear hNn
  rcases A with _ | a
  focus
    have hn0 : n = 0 := by
      rcases Nat.eq_zero_or_pos n with e | e
      · exact e
      · obtain ⟨g, off, e1, _⟩ := HL2.out.2 e
        cases e1
    have HO : Hid (OwnI w2 w2.heap.size 3 (.slice none 0 0) l) := hid (by
      have : l = [] := List.length_eq_zero_iff.1 (by rw [HLN.out]; exact hn0)
      rw [this]
      exact OwnI.nil _ _ _)
    have hO := HO.out
    clear hsz
    subst hn0
    go_wp2_with (at_builtin; refine wpList_append_int _ rfl (.tmp 27) (.tmp 29) 22 rfl w2.heap.size 3 i0 Try.underlying22 hi hz0 hz1 hz2 _ l rfl hO X rfl hlen1 (Nat.le_refl _) ?_)
    intro v9 w9 hown9 hb9
    have HI9 := hid (HI.out.up hb9)
    have hbw9 := hbA.trans (hb9.mono hbA.size)
    have HO9 := hid hown9
    clear hown9 hb9 HI hO HO HL2
  rotate_left
  focus
    have hlen0 : ([] : List Int).length + n ≤ 1099511627776 := by simp; omega
    have hI2 := HL2.out
    go_wp2_with (at_builtin; refine wpList_append_nums _ rfl (.tmp 23) (.tmp 24) 22 rfl w2.heap.size 3 i0 Try.underlying22 hi hz0 hz1 hz2 _ [] rfl (OwnI.nil _ _ _) a n c w2.heap.size l hI2 rfl hlen0 (Nat.le_refl _) ?_)
    intro v8 w8 hown8 hb8
    have hO : OwnI w8 w2.heap.size 3 v8 l := by simpa using hown8
    have hs8 := hb8.size
    clear hown8 hI2 HL2
    go_wp2_with (at_builtin; refine wpList_append_int _ rfl (.tmp 27) (.tmp 29) 22 rfl w2.heap.size 3 i0 Try.underlying22 hi hz0 hz1 hz2 v8 l rfl hO X rfl hlen1 hs8 ?_)
    intro v9 w9 hown9 hb9
    have hb89 := hb8.trans hb9
    have HI9 := hid (HI.out.up hb89)
    have hbw9 := hbA.trans (hb89.mono hbA.size)
    have HO9 := hid hown9
    clear hown9 hb9 HI hO hs8 hb8 hb89 hlen0
  rotate_left
  all_goals (
    obtain ⟨A9, c9, rfl, _, hI9⟩ := IsInts.of_own HO9.out
    have hl1 : (l ++ [X]).length = N + 1 := by rw [List.length_append, List.length_singleton, HLl.out]
    have hl1' := hl1
    rw [hl1] at hI9 ⊢
    have HJ9 := hid hI9
    clear hI9 HO9
    rcases badR_or (l ++ [X]) with hG9 | ⟨k, hk⟩
    · have H9 := hid (spiles_ok A9 (N + 1) c9 (l ++ [X]) w9 HJ9.out hG9)
      rw [HTop.out] at H9
      clear HJ9 hG9 hl1 hl1' HB
      rcases m with _ | p
      · have hT : tops l.reverse = [] := List.length_eq_zero_iff.1 HMl.out.symm
        rw [hT, pil_nil] at H9
        go_wp2_with fail
        refine H9.out.mono ?_
        rintro e wa ⟨A', c', rfl, hI', hb'⟩
        obtain ⟨g, off, rfl, hg, hc⟩ := hI'.2 (by simp)
        have x0 : wa.cell? ⟨g, off, none⟩ = some (.int .i64 X) := by simpa using hc 0 (by simp)
        have hbZ := hbw9.trans (hb'.mono hbw9.size)
        have heq : (X == X) = true := beq_iff_eq.2 rfl
        clear hc hI' hb' H9
        go_wp2_with fail
        go_ret
        exact ⟨rfl, hbZ⟩
      · have hlast := HLast.out p HMl.out.symm
        obtain ⟨g, off, rfl, hg, hc⟩ := HI9.out.2 (by omega)
        have xp : w9.cell? ⟨g, off + p, none⟩ = some (.int .i64 ((tops l.reverse).getD p 0)) := hc p (by omega)
        have hp20 : p + 1 ≤ 20 := by
          have := tops_len l.reverse
          rw [List.length_reverse] at this
          have := HMl.out
          have := HLl.out
          omega
        have i1 : ((p + 1 : Nat) : Int) - 1 = (p : Int) := by omega
        have i2 : (p : Int) < ((p + 1 : Nat) : Int) := by omega
        clear hc
        by_cases hY : (tops l.reverse).getD p 0 < X
        · have hk : pil (tops l.reverse) X = tops l.reverse ++ [X] := hlast.1 hY
          have hkl : (tops l.reverse ++ [X]).length = p + 1 + 1 := by rw [List.length_append, List.length_singleton, ← HMl.out]
          have hkx : (tops l.reverse ++ [X]).getD (p + 1) 0 = X := by rw [HMl.out]; simp
          rw [hk, hkl] at H9
          have HK := hid hkx
          clear hk hkl hkx hlast
          generalize (tops l.reverse).getD p 0 = Y at xp hY
          go_wp2_with fail
          refine H9.out.mono ?_
          rintro e wa ⟨A', c', rfl, hI', hb'⟩
          obtain ⟨g', off', rfl, hg', hc'⟩ := hI'.2 (by omega)
          have x0 := hc' (p + 1) (by omega)
          rw [HK.out] at x0
          have xp2 := (hb'.cell hg).trans xp
          have hbZ := hbw9.trans (hb'.mono hbw9.size)
          clear hc' hI' hb' H9 xp
          go_wp2_with fail
          go_ret
          exact ⟨rfl, hbZ⟩
        · have hk := hlast.2 (by omega)
          rw [← HMl.out] at hk
          rw [hk] at H9
          clear hk hlast
          generalize (tops l.reverse).getD p 0 = Y at xp hY
          go_wp2_with fail
          refine H9.out.mono ?_
          rintro e wa ⟨A', c', rfl, hI', hb'⟩
          have xp2 := (hb'.cell hg).trans xp
          have hbZ := hbw9.trans (hb'.mono hbw9.size)
          clear hI' hb' H9 xp
          go_wp2_with fail
          go_ret
          exact ⟨rfl, hbZ⟩
    · have H9 := hid (spiles_bad A9 (N + 1) c9 (l ++ [X]) k w9 (by unfold maxLen; omega) HJ9.out hk)
      have hB := HB.out k hk
      clear HJ9 hk hl1 hl1' HB
      go_wp2_with fail
      refine H9.out.mono ?_
      rintro e wa ⟨rfl, hb'⟩
      have hbZ := hbw9.trans (hb'.mono hbw9.size)
      clear H9 hb'
      by_cases h20 : N = 20
      · first
          | (exfalso; have := HNn.out; omega)
          | (have heq : ((n : Int) == 20) = true := beq_iff_eq.2 (by have := HNn.out; omega)
             go_wp2_with fail
             go_ret
             exact ⟨rfl, hbZ⟩)
      · have hx : ¬ (0 ≤ X ∧ X ≤ 1000) := by
          rcases hB with h | h
          · exact absurd h h20
          · exact h
        have HIn := fun W => hid (in_not X 0 1000 W hx)
        clear hx hB
        try (have hnf : ((n : Int) == 20) = false := beq_eq_false_iff_ne.2 (by have := HNn.out; omega))
        go_wp2_with fail
        refine (HIn _).out.mono ?_
        rintro e wb ⟨rfl, hwb⟩
        subst wb
        go_wp2_with fail
        go_ret
        exact ⟨rfl, hbZ⟩)
theorem rsmor_any (A : Option Addr) (n c : Nat) (l : List Int) (X : Int) (w : World) (hn : n ≤ maxLen) (hl : IsInts w w.heap.size A n l) :
    Calls Try.prog 6 #[.slice A n c, .int .i64 X] w fun e w' => e = .returned (.bool true) ∧ Below w.heap.size w w' := by
  rcases badR_or l with hg | ⟨k, hk⟩
  · exact rsmor_ok A n c l X w hl hg
  · exact rsmor_bad A n c l k X w hn hl hk
end Go.Proofs.Ytmfpjbhgmcmceaa
