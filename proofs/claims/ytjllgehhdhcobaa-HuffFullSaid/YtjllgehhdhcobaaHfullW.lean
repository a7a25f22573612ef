/-
  The walk of HuffFull: it returns true at every list of weights. Conditions: the row's own sizes.
-/
import Derived.Test.YtjllgehhdhcobaaHfact
import Derived.Test.YtjllgehhdhcobaaRoom
namespace Go.Proofs.Ytjllgehhdhcobaa
open Go.RowKit

theorem full_room {l : List Int} {D : List Nat} (h : Dep l D) (hl : l.length ≤ 10) : rm 12 D = 4096 := by
  have h1 := (dep_kr h 12 (by omega)).2
  rw [kr_rm, zip_snd (dep_len h)] at h1
  exact h1
theorem full_in {l : List Int} {D : List Nat} (h : Dep l D) (hl : l.length ≤ 10) (h2 : 2 ≤ l.length) : InL 1 12 (nums D) := by
  intro i hi
  rw [nums_len] at hi
  rw [nums_at]
  have h3 := dep_small h hl i
  have h4 := dep_ge h h2 (D.getD i 0) (by rw [List.getD_eq_getElem?_getD, List.getElem?_eq_getElem hi]; exact List.getElem_mem _)
  omega
set_option maxHeartbeats 2000000 in
set_option maxRecDepth 100000 in
theorem huffFull_any (A : Option Addr) (n c : Nat) (l : List Int) (w : World) (hl : IsInts w w.heap.size A n l) :
    Calls Try.prog 4 #[.slice A n c] w fun e w' => e = .returned (.bool true) ∧ Below w.heap.size w w' := by
  have HF := fun W => hid (hfact_any W)
  have HL := fun (w1 : World) (h1 : Below w.heap.size w w1) => hid ((hl.below h1).keep (w' := w1) h1.size fun _ _ _ => rfl)
  have hn := hl.1
  have HI := hid hl
  clear hl
  go_enter Try.func4, Try.ntmps4
  go_wp2_with fail
  refine (HF _).out.mono ?_
  rintro e w1 ⟨rfl, hb1⟩
  clear HF
  rcases badH_or l with hg | ⟨k, hk⟩
  · obtain ⟨D, hD⟩ := dep_ex (l.length - 1) l (by have := hg.1; omega)
    have h0 : 0 < n := by have := hg.1; omega
    have h10 : n ≤ 10 := by have := hg.2.1; omega
    have HC := hid (hlong_ok A n c l D w1 (HL w1 hb1).out hg hD)
    have hdl := dep_len hD
    go_wp2_with fail
    refine HC.out.mono ?_
    rintro e w2 ⟨L, rfl, hLw, hN, hb2⟩
    have hb := hb1.trans (hb2.mono hb1.size)
    have hI2 := NumAt.ints hN (n := n) (by rw [nums_len]; omega)
    have HN := hid hN
    by_cases h1 : n = 1
    · have hD0 : nums D = [0] := by
        have e : ∃ x, l = [x] := List.length_eq_one_iff.1 (by omega)
        obtain ⟨x, rfl⟩ := e
        rw [dep_one hD (Dep.one x)]
        rfl
      have c1 := hN.cell (k := 0) (by rw [nums_len]; omega)
      rw [hD0] at c1
      subst h1
      clear HN HC hb1 hb2 hI2 hN HL HI hD hg hD0
      go_wp2_with fail
      go_ret
      exact ⟨rfl, hb⟩
    · have HA := hid (rallin_any (some ⟨L, 0, none⟩) n n (nums D) 1 12 w2 (by omega) hI2)
      have HR := hid (rroom_any (some ⟨L, 0, none⟩) n n D w2 h10 (fun i _ => by have := dep_small hD hg.2.1 i; omega) hI2)
      rw [full_room hD hg.2.1] at HR
      have HY := hid (full_in hD hg.2.1 (by omega))
      have HH : Hid (∀ i k, i < n → k < n → l.getD k 0 < l.getD i 0 → D.getD i 0 ≤ D.getD k 0) := hid (fun i k hi hk hlt => dep_heavy hD (fun x hx => (hg.2.2 x hx).1) (by omega) (by omega) hlt)
      have HDn := hid (show D.length = n by omega)
      have n1 : ¬ ((n : Int) = 1) := by omega
      obtain ⟨g, off, rfl, hgl, hc⟩ := (HL w2 hb).out.2 h0
      have HX := hid hc
      clear HC hb1 hb2 hI2 hN hD hg hdl hc HL HI hn
      go_wp2_with fail
      refine HA.out.mono ?_
      rintro e w3 ⟨h, hw3⟩
      subst w3
      rcases h with ⟨_, rfl⟩ | ⟨h, _⟩
      rotate_left
      · exact absurd HY.out h
      clear HA HY
      go_wp2_with fail
      refine HR.out.mono ?_
      rintro e w3 ⟨rfl, hw3⟩
      subst w3
      clear HR
      go_wp2_with fail
      go_loopw [6] (fun x wr => ∃ (i q : Nat), i ≤ n ∧ x = .int .i64 i ∧ wr = w2.drewN q) (fun x _ => n - (intOf x).toNat)
      case atStart => exact ⟨0, 0, by omega, rfl, rfl⟩
      case round =>
        obtain ⟨i, q, hin, rfl, hwr⟩ := hrel
        subst wr
        by_cases hlt : i < n
        · have c1 := HX.out i hlt
          have c2 := HN.out.cell (k := i) (by rw [nums_len, HDn.out]; exact hlt)
          rw [nums_at] at c2
          have HH2 : Hid (∀ k, k < n → l.getD k 0 < l.getD i 0 → ¬ (D.getD k 0 < D.getD i 0)) := hid (fun k hk h => by have := HH.out i k hlt hk h; omega)
          generalize l.getD i 0 = X1 at c1 HH2
          generalize D.getD i 0 = Y1 at c2 HH2
          go_wp2_with fail
          go_loopw [7] (fun x wr => ∃ (k q : Nat), k ≤ n ∧ x = .int .i64 k ∧ wr = w2.drewN q) (fun x _ => n - (intOf x).toNat)
          case atStart => exact ⟨0, q, by omega, rfl, rfl⟩
          case round =>
            obtain ⟨k, q2, hkn, rfl, hwr⟩ := hrel
            subst wr
            by_cases hlk : k < n
            · have c3 := HX.out k hlk
              have c4 := HN.out.cell (k := k) (by rw [nums_len, HDn.out]; exact hlk)
              rw [nums_at] at c4
              have h5 := HH2.out k hlk
              generalize l.getD k 0 = X2 at c3 h5
              generalize D.getD k 0 = Y2 at c4 h5
              have j1 : (i : Int) < (n : Int) := by omega
              have j2 : (k : Int) < (n : Int) := by omega
              by_cases hx : X2 < X1
              · have hy : ¬ ((Y2 : Int) < (Y1 : Int)) := by have := h5 hx; omega
                have hxd : decide (X2 < X1) = true := by simpa using hx
                clear h5
                go_wp2_with fail
                go_quiet (fail)
                go_wp2_with fail
                go_roundw
                case rel => exact ⟨k + 1, _, by omega, by go_num, by first | rfl | exact World.drewN_drewN _ _ _⟩
                case measure => simp [intOf]; omega
              · have hxd : decide (X2 < X1) = false := by simpa using hx
                clear h5
                go_wp2_with fail
                go_quiet (fail)
                go_wp2_with fail
                go_roundw
                case rel => exact ⟨k + 1, _, by omega, by go_num, by first | rfl | exact World.drewN_drewN _ _ _⟩
                case measure => simp [intOf]; omega
            · obtain rfl : k = n := by omega
              go_wp2_with fail
              go_roundw
              case rel => exact ⟨i + 1, q2, by omega, by go_num, by first | rfl | trivial⟩
              case measure => simp [intOf]; omega
        · obtain rfl : i = n := by omega
          go_wp2_with fail
          go_ret
          exact ⟨rfl, below_drewN hb _⟩
  · have HC := hid (hlong_bad A n c l k w1 (HL w1 hb1).out hk)
    clear HL HI hk hn
    go_wp2_with fail
    refine HC.out.mono ?_
    rintro e w2 ⟨rfl, hw2⟩
    subst w2
    go_wp2_with fail
    go_ret
    exact ⟨rfl, hb1⟩
end Go.Proofs.Ytjllgehhdhcobaa
