/-
  The walk of LyndonJoin: it returns true for every two texts, and leaves the old memory alone. No condition but the row's own size.
-/
import Derived.Test.YtoopnkjgdgbmnaaLnfact
import Derived.Test.YtoopnkjgdgbmnaaLynx
import Derived.Laws.Concat
namespace Go.Proofs.Ytoopnkjgdgbmnaa
open Go.RowKit

/-- One of the two is too long, or no Lyndon word. -/
theorem ljoin_not (a b : ByteArray) (x y : Bool) (e f : Value) (w : World)
    (h1 : ∀ W, Calls Try.prog 11 #[.string a] W fun r w' => r = .returned (.tuple #[.bool x, e]) ∧ Below W.heap.size W w')
    (h2 : ∀ W, Calls Try.prog 11 #[.string b] W fun r w' => r = .returned (.tuple #[.bool y, f]) ∧ Below W.heap.size W w')
    (hc : (e = .iface 37 (.int .i64 4) ∧ x = false ∧ (f = .nilIface ∨ f = .iface 37 (.int .i64 4))) ∨
      (e = .nilIface ∧ f = .iface 37 (.int .i64 4)) ∨ (e = .nilIface ∧ f = .nilIface ∧ (x = false ∨ x = true ∧ y = false))) :
    Calls Try.prog 4 #[.string a, .string b] w fun e w' => e = .returned (.bool true) ∧ Below w.heap.size w w' := by
  have H1 := fun W => hid (h1 W)
  have H2 := fun W => hid (h2 W)
  clear h1 h2
  go_enter Try.func4, Try.ntmps4
  go_wp2_with fail
  refine (lnfact_any _).mono ?_
  rintro r w1 ⟨rfl, hb1⟩
  go_wp2_with fail
  refine (H1 _).out.mono ?_
  rintro r w2 ⟨rfl, hc2⟩
  have hb2 := Below.on hb1 hc2 (Nat.le_refl _)
  clear hb1 hc2 H1
  go_wp2_with fail
  refine (H2 _).out.mono ?_
  rintro r w3 ⟨rfl, hc3⟩
  have hb3 := Below.on hb2 hc3 (Nat.le_refl _)
  clear hb2 hc3 H2
  rcases hc with ⟨rfl, rfl, rfl | rfl⟩ | ⟨rfl, rfl⟩ | ⟨rfl, rfl, rfl | ⟨rfl, rfl⟩⟩
  all_goals
    go_wp2
    go_ret
    exact ⟨rfl, hb3⟩

set_option maxHeartbeats 800000 in
theorem ljoin_yes (a b : ByteArray) (w : World) (ha : a.size ≤ 24) (hb : b.size ≤ 24) (hx : lynB a = true) (hy : lynB b = true) :
    Calls Try.prog 4 #[.string a, .string b] w fun e w' => e = .returned (.bool true) ∧ Below w.heap.size w w' := by
  have H1 := fun W => hid (is_any a W ha)
  have H2 := fun W => hid (is_any b W hb)
  rw [hx] at H1
  rw [hy] at H2
  have hsum := size_join a b
  have hadd := fun W => run_string_add_sum (P := Try.prog) W a b (by omega)
  have H3 : 24 < a.size + b.size → ∀ W, Hid (Calls Try.prog 11 #[.string (a ++ b)] W fun e w' => e = .returned (.tuple #[.bool false, .iface 37 (.int .i64 4)]) ∧ w' = W) := fun hl W => hid (is_long (a ++ b) W (by omega) (by unfold maxLen; omega))
  have H4 : a.size + b.size ≤ 24 → ∀ W, Hid (Calls Try.prog 11 #[.string (a ++ b)] W fun e w' => e = .returned (.tuple #[.bool (lxB a b), .nilIface]) ∧ Below W.heap.size W w') := fun hl W => hid (by
    have := is_any (a ++ b) W (by omega)
    have e : lynB (a ++ b) = lxB a b := by
      have hA : Lyn (sg a) a.size := @of_decide_eq_true _ (Classical.propDecidable _) hx
      have hB : Lyn (sg b) b.size := @of_decide_eq_true _ (Classical.propDecidable _) hy
      by_cases hl : Lx a b
      · rw [lxB_yes hl, lynB_yes ((lyn_pair hA hB).2 hl)]
      · rw [lxB_no hl, lynB_no (fun hn => hl ((lyn_pair hA hB).1 hn))]
    rwa [e] at this)
  have H5 := fun W => hid (before_any a b W (by omega) (by omega))
  generalize a ++ b = t at H3 H4 hadd hsum
  clear hx hy
  go_enter Try.func4, Try.ntmps4
  go_wp2_with fail
  refine (lnfact_any _).mono ?_
  rintro r w1 ⟨rfl, hb1⟩
  go_wp2_with fail
  refine (H1 _).out.mono ?_
  rintro r w2 ⟨rfl, hc2⟩
  have hb2 := Below.on hb1 hc2 (Nat.le_refl _)
  clear hb1 hc2 H1
  go_wp2_with fail
  refine (H2 _).out.mono ?_
  rintro r w3 ⟨rfl, hc3⟩
  have hb3 := Below.on hb2 hc3 (Nat.le_refl _)
  clear hb2 hc3 H2
  by_cases hl : a.size + b.size ≤ 24
  · have H6 := H4 hl
    clear H3 H4
    generalize lxB a b = z at H5 H6
    go_wp2_with fail
    refine (H6 _).out.mono ?_
    rintro r w4 ⟨rfl, hc4⟩
    have hb4 := Below.on hb3 hc4 (Nat.le_refl _)
    clear hb3 hc4 H6
    go_wp2_with fail
    refine (H5 _).out.mono ?_
    rintro r w5 ⟨rfl, q, hw5⟩
    have hb5 : Below w.heap.size w w5 := by rw [hw5]; exact below_drewN hb4 q
    clear hw5 hb4 H5
    go_wp2
    go_ret
    exact ⟨ret_bool (by simp), hb5⟩
  · have H6 := H3 (by omega)
    have hq : 24 < (a.size : Int) + (b.size : Int) := by omega
    clear H3 H4 H5 hl
    go_wp2_with fail
    refine (H6 _).out.mono ?_
    rintro r w4 ⟨rfl, hw4⟩
    subst w4
    go_wp2
    go_ret
    exact ⟨ret_bool (by simp), hb3⟩
theorem lnjoin_any (a b : ByteArray) (w : World) (ha : a.size ≤ maxLen) (hb : b.size ≤ maxLen) :
    Calls Try.prog 4 #[.string a, .string b] w fun e w' => e = .returned (.bool true) ∧ Below w.heap.size w w' := by
  have long : ∀ s : ByteArray, 24 < s.size → s.size ≤ maxLen → ∀ W, Calls Try.prog 11 #[.string s] W fun r w' => r = .returned (.tuple #[.bool false, .iface 37 (.int .i64 4)]) ∧ Below W.heap.size W w' := fun s h1 h2 W =>
    (is_long s W h1 h2).mono fun _ _ ⟨he, hw⟩ => ⟨he, by rw [hw]; exact Below.refl _ _⟩
  by_cases h1 : a.size ≤ 24
  · by_cases h2 : b.size ≤ 24
    · by_cases hx : lynB a = true
      · by_cases hy : lynB b = true
        · exact ljoin_yes a b w h1 h2 hx hy
        · exact ljoin_not a b _ _ _ _ w (fun W => is_any a W h1) (fun W => is_any b W h2) (.inr (.inr ⟨rfl, rfl, .inr ⟨hx, by simpa using hy⟩⟩))
      · exact ljoin_not a b _ _ _ _ w (fun W => is_any a W h1) (fun W => is_any b W h2) (.inr (.inr ⟨rfl, rfl, .inl (by simpa using hx)⟩))
    · exact ljoin_not a b _ _ _ _ w (fun W => is_any a W h1) (long b (by omega) hb) (.inr (.inl ⟨rfl, rfl⟩))
  · by_cases h2 : b.size ≤ 24
    · exact ljoin_not a b _ _ _ _ w (long a (by omega) ha) (fun W => is_any b W h2) (.inl ⟨rfl, rfl, .inl rfl⟩)
    · exact ljoin_not a b _ _ _ _ w (long a (by omega) ha) (long b (by omega) hb) (.inl ⟨rfl, rfl, .inr rfl⟩)
end Go.Proofs.Ytoopnkjgdgbmnaa
