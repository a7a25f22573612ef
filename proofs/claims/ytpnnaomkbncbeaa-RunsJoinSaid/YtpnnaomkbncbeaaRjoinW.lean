/-
  The walk of RunsJoin: it returns true at every two texts. Conditions: the row's own sizes.
-/
import Derived.Test.YtpnnaomkbncbeaaRfact
import Derived.Test.YtpnnaomkbncbeaaStr
import Derived.Laws.Concat
namespace Go.Proofs.Ytpnnaomkbncbeaa
open Go.RowKit

theorem join_cond (a b : ByteArray) : (∃ c, (bs a).getLast? = some c ∧ (bs b).head? = some c) ↔ 0 < a.size ∧ 0 < b.size ∧ sg a (a.size - 1) = sg b 0 := by
  have ha : ∀ c, (bs a).getLast? = some c ↔ 0 < a.size ∧ sg a (a.size - 1) = c := fun c => by
    rw [List.getLast?_eq_getElem?, bs_len]
    by_cases h : 0 < a.size
    · rw [bs_get a _ (by omega), sg_eq a _ (by omega)]; simp [h]
    · rw [List.getElem?_eq_none (by rw [bs_len]; omega)]; simp; intro h'; omega
  have hb : ∀ c, (bs b).head? = some c ↔ 0 < b.size ∧ sg b 0 = c := fun c => by
    rw [List.head?_eq_getElem?]
    by_cases h : 0 < b.size
    · rw [bs_get b _ h, sg_eq b _ h]; simp [h]
    · rw [List.getElem?_eq_none (by rw [bs_len]; omega)]; simp; intro h'; omega
  constructor
  · rintro ⟨c, h1, h2⟩
    obtain ⟨h3, h4⟩ := (ha c).1 h1
    obtain ⟨h5, h6⟩ := (hb c).1 h2
    exact ⟨h3, h5, h4.trans h6.symm⟩
  · rintro ⟨h1, h2, h3⟩
    exact ⟨_, (ha _).2 ⟨h1, rfl⟩, (hb _).2 ⟨h2, h3.symm⟩⟩
/-- Write's answer, whatever it is. -/
theorem write_some (s : ByteArray) (w : World) (hs : s.size ≤ maxLen) :
    Calls Try.prog 7 #[.string s] w fun e w' => ∃ v u, e = .returned (.tuple #[v, u]) ∧ Below w.heap.size w w' := by
  by_cases h : s.size ≤ 1000
  · exact (write_any s w h).mono fun _ _ ⟨A, c, l, he, _, _, _, hb⟩ => ⟨_, _, he, hb⟩
  · exact (write_long s w (by omega) hs).mono fun _ _ ⟨he, hw⟩ => ⟨_, _, he, by rw [hw]; exact Below.refl _ _⟩

set_option maxHeartbeats 4000000 in
set_option maxRecDepth 100000 in
theorem runsJoin_any (a b : ByteArray) (w : World) (ha : a.size ≤ maxLen) (hb : b.size ≤ maxLen) :
    Calls Try.prog 4 #[.string a, .string b] w fun e w' => e = .returned (.bool true) ∧ Below w.heap.size w w' := by
  have HF := fun W => hid (rfact_any W)
  go_enter Try.func4, Try.ntmps4
  go_wp2_with fail
  refine (HF _).out.mono ?_
  rintro e w1 ⟨rfl, hb1⟩
  clear HF
  by_cases h : a.size ≤ 1000
  · have H1 := fun W => hid (write_any a W h)
    clear ha
    go_wp2_with fail
    refine (H1 _).out.mono ?_
    rintro e w2 ⟨A2, c2, x, rfl, hgx, hux, _, hb2⟩
    have hbB := hb1.trans (hb2.mono hb1.size)
    have hlx : x.length ≤ 1000 := by have := good_len hgx; rw [hux, bs_len] at this; omega
    clear hb1 hb2 H1
    by_cases h' : b.size ≤ 1000
    · have H2 := fun W => hid (write_any b W h')
      clear hb
      generalize hX : x.length = lx at hlx ⊢
      have HX := hid hX
      clear hX
      go_wp2_with fail
      refine (H2 _).out.mono ?_
      rintro e w3 ⟨A3, c3, y, rfl, hgy, huy, _, hb3⟩
      have hbC := hbB.trans (hb3.mono hbB.size)
      have hly : y.length ≤ 1000 := by have := good_len hgy; rw [huy, bs_len] at this; omega
      clear hbB hb3 H2
      generalize hY : y.length = ly at hly ⊢
      have HY := hid hY
      clear hY
      by_cases hsum : a.size + b.size ≤ 1000
      · have hadd := fun W => run_string_add_sum (P := Try.prog) W a b (by omega)
        have hsz : (a ++ b).size ≤ 1000 := by rw [ByteArray.size_append]; exact hsum
        have hbs : bs (a ++ b) = bs a ++ bs b := wb_app a b
        have H3 := fun W => hid (write_any (a ++ b) W hsz)
        rw [hbs] at H3
        have s1 : ¬ 1000 < (a.size : Int) + b.size := by omega
        generalize a ++ b = ab at hadd H3
        clear hsz hbs
        go_wp2_with fail
        refine (H3 _).out.mono ?_
        rintro e w4 ⟨A4, c4, z, rfl, hgz, huz, _, hb4⟩
        have hbD := hbC.trans (hb4.mono hbC.size)
        have hj := good_join hgx hgy hgz (by rw [huz, hux, huy])
        rw [hux, huy, join_cond, HX.out, HY.out] at hj
        have hlz : z.length ≤ 2000 := by rcases hj with ⟨_, h⟩ | ⟨_, h⟩ <;> omega
        generalize z.length = lz at hj hlz ⊢
        clear hgx hux hgy huy hgz huz hbC hb4 H3 hadd HX HY
        rcases hj with ⟨⟨p1, p2, p3⟩, hj⟩ | ⟨hp, hj⟩
        · have HJ : Hid ((lz : Int) = (lx : Int) + ly - 1) := hid (by omega)
          have d1 : decide (0 < a.size) = true := by simpa using p1
          have d2 : decide (0 < b.size) = true := by simpa using p2
          obtain ⟨p, hpe, hpa⟩ : ∃ p : Nat, p = a.size - 1 ∧ p < a.size := ⟨_, rfl, by omega⟩
          have i1 : (a.size : Int) - 1 = (p : Int) := by omega
          rw [← hpe] at p3
          have hx : ((a[p].toNat : Int) == (b[0].toNat : Int)) = true := by
            rw [sg_eq a _ hpa, sg_eq b _ p2] at p3; simp [p3]
          clear hpe
          clear p3 hj
          go_wp2_with fail
          go_quiet (fail)
          go_wp2_with fail
          go_ret
          exact ⟨ret_bool (by simpa using HJ.out), below_drewN hbD _⟩
        · have HJ : Hid ((lz : Int) = (lx : Int) + ly) := hid (by omega)
          have hw : decide (0 < a.size) = false ∨ (decide (0 < a.size) = true ∧ decide (0 < b.size) = false) ∨ (decide (0 < a.size) = true ∧ decide (0 < b.size) = true ∧ 0 < a.size ∧ 0 < b.size ∧ sg a (a.size - 1) ≠ sg b 0) := by
            by_cases h1 : 0 < a.size
            · by_cases h2 : 0 < b.size
              · exact .inr (.inr ⟨by simpa using h1, by simpa using h2, h1, h2, fun e => hp ⟨h1, h2, e⟩⟩)
              · exact .inr (.inl ⟨by simpa using h1, by simpa using h2⟩)
            · exact .inl (by simpa using h1)
          clear hp hj
          rcases hw with d1 | ⟨d1, d2⟩ | ⟨d1, d2, p1, p2, p3⟩
          · go_wp2_with fail
            go_quiet (fail)
            go_wp2_with fail
            go_ret
            exact ⟨ret_bool (by simpa using HJ.out), below_drewN hbD _⟩
          · go_wp2_with fail
            go_quiet (fail)
            go_wp2_with fail
            go_ret
            exact ⟨ret_bool (by simpa using HJ.out), below_drewN hbD _⟩
          · obtain ⟨p, hpe, hpa⟩ : ∃ p : Nat, p = a.size - 1 ∧ p < a.size := ⟨_, rfl, by omega⟩
            have i1 : (a.size : Int) - 1 = (p : Int) := by omega
            rw [← hpe] at p3
            have hx : ((a[p].toNat : Int) == (b[0].toNat : Int)) = false := by
              rw [sg_eq a _ hpa, sg_eq b _ p2] at p3; simpa using byte_apart p3
            clear hpe
            clear p3
            go_wp2_with fail
            go_quiet (fail)
            go_wp2_with fail
            go_ret
            exact ⟨ret_bool (by simpa using HJ.out), below_drewN hbD _⟩
      · have s1 : 1000 < (a.size : Int) + b.size := by omega
        clear HX HY
        go_wp2_with fail
        go_ret
        exact ⟨rfl, hbC⟩
    · have H2 := fun W => hid (write_long b W (by omega) hb)
      clear hb
      generalize x.length = lx at hlx ⊢
      go_wp2_with fail
      refine (H2 _).out.mono ?_
      rintro e w3 ⟨rfl, hw3⟩
      subst w3
      clear H2
      go_wp2_with fail
      go_ret
      exact ⟨rfl, hbB⟩
  · have H1 := fun W => hid (write_long a W (by omega) ha)
    have H2 := fun W => hid (write_some b W hb)
    clear ha hb
    go_wp2_with fail
    refine (H1 _).out.mono ?_
    rintro e w2 ⟨rfl, hw2⟩
    subst w2
    clear H1
    go_wp2_with fail
    refine (H2 _).out.mono ?_
    rintro e w3 ⟨v, u, rfl, hb3⟩
    have hbB := hb1.trans (hb3.mono hb1.size)
    clear H2 hb1 hb3
    go_wp2_with fail
    go_ret
    exact ⟨rfl, hbB⟩
end Go.Proofs.Ytpnnaomkbncbeaa
