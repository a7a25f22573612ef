/-
  The walk of MorseTwice: it returns true at every text and all numbers. Conditions: the row's own sizes.
-/
import Derived.Test.YtkpjflfhegejpaaMofact
import Derived.Test.YtkpjflfhegejpaaIn3
import Derived.Test.YtkpjflfhegejpaaStr
namespace Go.Proofs.Ytkpjflfhegejpaa
open Go.RowKit

theorem fsq_first {s : List UInt8} {more : Bool} {a b : Int} (h : FSq s more a b) {i k : Nat} (hs : Sq s more i k) : 0 ≤ a ∧ (a < (i : Int) ∨ (a = (i : Int) ∧ b ≤ (k : Int))) := by
  cases h with
  | none h => exact absurd hs (h _ _)
  | some h h1 =>
    have := h1 _ _ hs
    omega
theorem fsq_there {s : List UInt8} {more : Bool} {a b : Int} (h : FSq s more a b) (ha : 0 ≤ a) : ∃ i k : Nat, a = (i : Int) ∧ b = (k : Int) ∧ Sq s more i k := by
  cases h with
  | none h => omega
  | some h _ => exact ⟨_, _, rfl, rfl, h⟩
theorem motw_long (s : ByteArray) (i k : Int) (w : World) (h : 200 < s.size) (hs : s.size ≤ maxLen) :
    Calls Try.prog 5 #[.string s, .int .i64 i, .int .i64 k] w fun e w' => e = .returned (.bool true) ∧ Below w.heap.size w w' := by
  have HF := hid (mofact_any w)
  have H1 := fun W => hid (wtwice_full s W h hs)
  clear h hs
  go_enter Try.func5, Try.ntmps5
  go_wp2_with fail
  refine HF.out.mono ?_
  rintro e w1 ⟨rfl, hb1⟩
  go_wp2_with fail
  refine (H1 _).out.mono ?_
  rintro e w2 ⟨rfl, hb2⟩
  have hbA := hb1.trans (hb2.mono hb1.size)
  clear HF H1 hb1 hb2
  go_wp2_with fail
  go_ret
  exact ⟨by first | rfl | simp, hbA⟩
set_option maxHeartbeats 4000000 in
set_option maxRecDepth 100000 in
theorem motw_short (s : ByteArray) (i k : Int) (w : World) (h : s.size ≤ 200) :
    Calls Try.prog 5 #[.string s, .int .i64 i, .int .i64 k] w fun e w' => e = .returned (.bool true) ∧ Below w.heap.size w w' := by
  have HF := hid (mofact_any w)
  have H1 := fun W => hid (wtwice_any s W h)
  have H2 := fun W => hid (wover_any s W h)
  have HC : Hid (∀ (W : World) (lo hi : Int), 0 ≤ lo → lo ≤ hi → hi ≤ (s.size : Int) → Sem.run Try.prog (Instr.slice 9 (.string s) (some (.int .i64 lo)) (some (.int .i64 hi)) none) W = .ok (.string (s.extract lo.toNat hi.toNat)) W) :=
    hid (fun W lo hi h1 h2 h3 => run_slice_string W 9 s .i64 .i64 lo hi Try.underlying9 h1 h2 h3)
  go_enter Try.func5, Try.ntmps5
  go_wp2_with fail
  refine HF.out.mono ?_
  rintro e w1 ⟨rfl, hb1⟩
  go_wp2_with fail
  refine (H1 _).out.mono ?_
  rintro e w2 ⟨a, b, rfl, hA, hb2⟩
  have hbA := hb1.trans (hb2.mono hb1.size)
  clear HF H1 hb1 hb2
  go_wp2_with fail
  refine (H2 _).out.mono ?_
  rintro e w3 ⟨c, d, rfl, hO, hb3⟩
  have hbB := hbA.trans (hb3.mono hbA.size)
  have hless := fsq_less hA hO
  have HFi := hid (fun (I K : Nat) (hs : Sq (bs s) false I K) => fsq_first hA hs)
  have HTh := hid (fsq_there hA)
  clear H2 hbA hb3 hA hO
  rcases (by omega : a < 0 ∨ 0 ≤ a) with ha | ha
  focus
    have d1 : decide (c ≥ 0) = false := decide_eq_false (by omega)
    have d2 : decide (a ≥ 0) = false := decide_eq_false (by omega)
    clear hless HTh
    go_wp2_with fail
    go_quiet (fail)
  rotate_left
  have hcw : decide (c ≥ 0) = false ∨ (decide (c ≥ 0) = true ∧ decide (a > c) = false) := by
    by_cases e : 0 ≤ c
    · exact .inr ⟨decide_eq_true e, decide_eq_false (by have := (hless e).2; omega)⟩
    · exact .inl (decide_eq_false (by omega))
  obtain ⟨A, B, hAa, hBb, hSq⟩ := HTh.out ha
  obtain ⟨hB1, hAB, hsame⟩ := (sq_false s A B).1 hSq
  have hpart := (part_same s A B hAB).2 hsame
  have da : decide (a < 0) = false := decide_eq_false (by omega)
  have db : decide (a ≥ 0) = true := decide_eq_true ha
  have HIn := fun W => hid (in_yes b 1 (s.size : Int) W (by omega) (by omega))
  obtain ⟨D, hD⟩ : ∃ D, D = 2 * b := ⟨_, rfl⟩
  obtain ⟨E, hE⟩ : ∃ E, E = a + D := ⟨_, rfl⟩
  obtain ⟨P, hP⟩ : ∃ P, P = a + b := ⟨_, rfl⟩
  have e1 : IntKind.i64.wrap (2 * b) = D := by rw [IntWalk.i64_in _ (by omega)]; omega
  have e2 : IntKind.i64.wrap (a + D) = E := by rw [IntWalk.i64_in _ (by omega)]; omega
  have e3 : IntKind.i64.wrap (a + b) = P := by rw [IntWalk.i64_in _ (by omega)]; omega
  have hcut1 := fun W => HC.out W a P ha (by omega) (by omega)
  have hcut2 := fun W => HC.out W P E (by omega) (by omega) (by omega)
  have hne := same_yes hpart
  rw [show s.extract A (A + B) = s.extract a.toNat P.toNat by congr 1 <;> omega, show s.extract (A + B) (A + 2 * B) = s.extract P.toNat E.toNat by congr 1 <;> omega] at hne
  have dE : decide (E > (s.size : Int)) = false := decide_eq_false (by omega)
  clear hAa hBb hSq hB1 hAB hsame hpart HTh hless hD hE hP
  generalize s.extract a.toNat P.toNat = x1 at hcut1 hne
  generalize s.extract P.toNat E.toNat = x2 at hcut2 hne
  rcases hcw with d1 | ⟨d1, d2⟩
  focus
    go_wp2_with fail
    go_quiet ((go_at_call 9; exact Calls.quiet_of_same (HIn _).out))
    clear d1
  rotate_left
  focus
    go_wp2_with fail
    go_quiet ((go_at_call 9; exact Calls.quiet_of_same (HIn _).out))
    clear d1 d2
  rotate_left
  all_goals (
    have hbC := hbB
    clear hbB
    by_cases hi : 0 ≤ i ∧ i ≤ (s.size : Int)
    · have HI := fun W => hid (in_yes i 0 (s.size : Int) W hi.1 hi.2)
      go_wp2_with fail
      refine (HI _).out.mono ?_
      rintro e w5 ⟨rfl, hw5⟩
      subst w5
      by_cases hk : 1 ≤ k ∧ k ≤ ((s.size : Int) - i) / 2
      · have HK := fun W => hid (in_yes k 1 (((s.size : Int) - i) / 2) W hk.1 hk.2)
        go_wp2_with fail
        refine (HK _).out.mono ?_
        rintro e w5 ⟨rfl, hw5⟩
        subst w5
        clear HI HK
        obtain ⟨D', hD⟩ : ∃ D, D = 2 * k := ⟨_, rfl⟩
        obtain ⟨E', hE⟩ : ∃ E, E = i + D' := ⟨_, rfl⟩
        obtain ⟨P', hP⟩ : ∃ P, P = i + k := ⟨_, rfl⟩
        have hEs : E' ≤ (s.size : Int) := by omega
        have g1 : IntKind.i64.wrap (2 * k) = D' := by rw [IntWalk.i64_in _ (by omega)]; omega
        have g2 : IntKind.i64.wrap (i + D') = E' := by rw [IntWalk.i64_in _ (by omega)]; omega
        have g3 : IntKind.i64.wrap (i + k) = P' := by rw [IntWalk.i64_in _ (by omega)]; omega
        have hcut3 := fun W => HC.out W i P' hi.1 (by omega) (by omega)
        have hcut4 := fun W => HC.out W P' E' (by omega) (by omega) hEs
        have hps := part_same s i.toNat k.toNat (by omega)
        rw [show s.extract i.toNat (i.toNat + k.toNat) = s.extract i.toNat P'.toNat by congr 1; omega, show s.extract (i.toNat + k.toNat) (i.toNat + 2 * k.toNat) = s.extract P'.toNat E'.toNat by congr 1 <;> omega] at hps
        have hsq := (sq_false s i.toNat k.toNat)
        by_cases hx : s.extract i.toNat P'.toNat = s.extract P'.toNat E'.toNat
        · have hf := HFi.out i.toNat k.toNat (hsq.2 ⟨by omega, by omega, hps.1 hx⟩)
          have hq := same_yes hx
          by_cases hneg : a < 0
          · exact absurd hf.1 (by omega)
          have hway : decide (a ≥ 0) = true ∧ (decide (a < i) = true ∨ (decide (a < i) = false ∧ (a == i) = true ∧ decide (b ≤ k) = true)) := by
            refine ⟨decide_eq_true hf.1, ?_⟩
            by_cases e : a < i
            · exact .inl (decide_eq_true e)
            · exact .inr ⟨decide_eq_false e, beq_iff_eq.2 (by omega), decide_eq_true (by omega)⟩
          clear hsq hps hx hf hD hE hP hEs hi hk
          generalize s.extract i.toNat P'.toNat = y1 at hcut3 hq
          generalize s.extract P'.toNat E'.toNat = y2 at hcut4 hq
          obtain ⟨f1, f2 | ⟨f2, f3, f4⟩⟩ := hway
          all_goals (
            go_wp2_with fail
            go_quiet (fail)
            go_wp2_with fail
            go_ret
            exact ⟨by first | rfl | simp, by first | exact below_drewN hbC _ | exact below_drewN (below_drewN hbC _) _⟩)
        · have hq := same_no hx
          clear hsq hps hx hD hE hP hEs hi hk
          generalize s.extract i.toNat P'.toNat = y1 at hcut3 hq
          generalize s.extract P'.toNat E'.toNat = y2 at hcut4 hq
          go_wp2_with fail
          go_quiet (fail)
          go_wp2_with fail
          go_ret
          exact ⟨by first | rfl | simp, by first | exact below_drewN hbC _ | exact below_drewN (below_drewN hbC _) _⟩
      · have HK := fun W => hid (in_not k 1 (((s.size : Int) - i) / 2) W hk)
        go_wp2_with fail
        refine (HK _).out.mono ?_
        rintro e w5 ⟨rfl, hw5⟩
        subst w5
        go_wp2_with fail
        go_ret
        exact ⟨rfl, below_drewN hbC _⟩
    · have HI := fun W => hid (in_not i 0 (s.size : Int) W hi)
      go_wp2_with fail
      refine (HI _).out.mono ?_
      rintro e w5 ⟨rfl, hw5⟩
      subst w5
      go_wp2_with fail
      go_ret
      exact ⟨rfl, below_drewN hbC _⟩)
theorem motw_any (s : ByteArray) (i k : Int) (w : World) (hs : s.size ≤ maxLen) :
    Calls Try.prog 5 #[.string s, .int .i64 i, .int .i64 k] w fun e w' => e = .returned (.bool true) ∧ Below w.heap.size w w' := by
  by_cases h : 200 < s.size
  · exact motw_long s i k w h hs
  · exact motw_short s i k w (by omega)
end Go.Proofs.Ytkpjflfhegejpaa
