/-
  The walk of MorseHalves: it returns true at every number. No condition.
-/
import Derived.Test.YtkpjflfhegejpaaMofact
import Derived.Test.YtkpjflfhegejpaaIn3
namespace Go.Proofs.Ytkpjflfhegejpaa
open Go.RowKit

theorem two_ne {s t : ByteArray} {i j : Nat} (hi : i < s.size) (hj : j < t.size) (h : sg s i = sg t j) : ((s[i].toNat : Int) != (t[j].toNat : Int)) = false := by
  rw [sg_eq s i hi, sg_eq t j hj] at h; simp [h]
theorem two_eq {s t : ByteArray} {i j : Nat} (hi : i < s.size) (hj : j < t.size) (h : sg s i ≠ sg t j) : ((s[i].toNat : Int) == (t[j].toNat : Int)) = false := by
  rw [sg_eq s i hi, sg_eq t j hj] at h; simpa using byte_apart h
theorem one_of {s : ByteArray} {i : Nat} (hi : i < s.size) (h : sg s i = 48 ∨ sg s i = 49) : ((s[i].toNat : Int) != 48) = false ∨ (((s[i].toNat : Int) != 48) = true ∧ ((s[i].toNat : Int) != 49) = false) := by
  rw [sg_eq s i hi] at h
  rcases h with h | h
  · exact .inl (by rw [h]; rfl)
  · exact .inr ⟨by rw [h]; rfl, by rw [h]; rfl⟩
theorem moha_out (x : Int) (w : World) (hx : ¬ (0 ≤ x ∧ x ≤ 100)) :
    Calls Try.prog 4 #[.int .i64 x] w fun e w' => e = .returned (.bool true) ∧ Below w.heap.size w w' := by
  have HF := hid (mofact_any w)
  have HI := fun W => hid (in_not x 0 100 W hx)
  clear hx
  go_enter Try.func4, Try.ntmps4
  go_wp2_with fail
  refine HF.out.mono ?_
  rintro e w1 ⟨rfl, hb1⟩
  go_wp2_with fail
  refine (HI _).out.mono ?_
  rintro e w2 ⟨rfl, hw2⟩
  subst w2
  go_wp2_with fail
  go_ret
  exact ⟨rfl, hb1⟩
set_option maxHeartbeats 4000000 in
set_option maxRecDepth 100000 in
theorem moha_in (n : Nat) (w : World) (hn : n ≤ 100) :
    Calls Try.prog 4 #[.int .i64 (n : Int)] w fun e w' => e = .returned (.bool true) ∧ Below w.heap.size w w' := by
  have HF := hid (mofact_any w)
  have HI := fun W => hid (in_yes (n : Int) 0 100 W (by omega) (by omega))
  have H1 := fun W => hid (wword_any n W (by omega))
  have H2 := fun W => wword_any (2 * n) W (by omega)
  rw [show ((2 * n : Nat) : Int) = 2 * (n : Int) by push_cast; rfl] at H2
  have hS := txt_mw_size n
  have hT := txt_mw_size (2 * n)
  have HE : Hid (∀ i, i < n → sg (txt (mw (2 * n))) (2 * i) = sg (txt (mw n)) i ∧ sg (txt (mw (2 * n))) (2 * i + 1) ≠ sg (txt (mw n)) i ∧ (sg (txt (mw (2 * n))) (2 * i + 1) = 48 ∨ sg (txt (mw (2 * n))) (2 * i + 1) = 49) ∧
      sg (txt (mw (2 * n))) i = sg (txt (mw n)) i ∧ ∀ m, n = 2 ^ m → sg (txt (mw (2 * n))) (n + i) ≠ sg (txt (mw n)) i) := hid (fun i hi => by
    simp only [sg_mw]
    exact ⟨mw_even hi, (mw_odd hi).1, (mw_odd hi).2, mw_pre hi (by omega), fun m hm => by
      subst hm
      exact mw_pow hi⟩)
  have H2 := fun W => hid (H2 W)
  generalize txt (mw n) = S at H1 hS HE
  generalize txt (mw (2 * n)) = T at H2 hT HE
  have q1 : ((S.size : Int) != (n : Int)) = false := by rw [hS]; simp
  have q2 : ((T.size : Int) != 2 * (n : Int)) = false := by
    rw [show (T.size : Int) = 2 * (n : Int) by omega]; simp
  have HS := hid hS
  have HT := hid hT
  clear hS hT
  go_enter Try.func4, Try.ntmps4
  go_wp2_with fail
  refine HF.out.mono ?_
  rintro e w1 ⟨rfl, hb1⟩
  go_wp2_with fail
  refine (HI _).out.mono ?_
  rintro e w2 ⟨rfl, hw2⟩
  subst w2
  go_wp2_with fail
  refine (H1 _).out.mono ?_
  rintro e w2 ⟨rfl, hb2⟩
  have hbA := hb1.trans (hb2.mono hb1.size)
  go_wp2_with fail
  refine (H2 _).out.mono ?_
  rintro e w3 ⟨rfl, hb3⟩
  have hbB := hbA.trans (hb3.mono hbA.size)
  clear HF HI H1 H2 hb1 hb2 hbA hb3
  go_wp2_with fail
  go_loopw [8] (fun x wr => ∃ p : Nat, x = .int .i64 p ∧ 1 ≤ p ∧ p ≤ 200 ∧ Hid (∃ m, p = 2 ^ m) ∧ wr = w3) (fun x _ => 400 - (intOf x).toNat)
  case atStart => exact ⟨1, rfl, by omega, by omega, hid ⟨0, rfl⟩, rfl⟩
  case round =>
    obtain ⟨p, rfl, hp1, hp2, HP, hwr⟩ := hrel
    subst hwr
    by_cases hpn : p < n
    · have HP2 : Hid (∃ m, 2 * p = 2 ^ m) := hid (by
        obtain ⟨m, hm⟩ := HP.out
        exact ⟨m + 1, by rw [Nat.pow_succ, hm]; omega⟩)
      have hpi : (p : Int) < (n : Int) := by omega
      clear HP
      go_wp2_with fail
      go_roundw
      case rel => exact ⟨2 * p, by push_cast; rfl, by omega, by omega, HP2, by first | rfl | trivial⟩
      case measure => simp [intOf]; omega
    · have hpi : ¬ (p : Int) < (n : Int) := by omega
      obtain ⟨w0, hw0⟩ : ∃ z, z = wr := ⟨_, rfl⟩
      subst hw0
      go_wp2_with fail
      go_loopw [9] (fun x wr => ∃ i : Nat, i ≤ n ∧ x = .int .i64 i ∧ Below w.heap.size w wr) (fun x _ => n - (intOf x).toNat)
      case atStart => exact ⟨0, by omega, rfl, hbB⟩
      case round =>
        clear hbB
        obtain ⟨i, hin, rfl, hb⟩ := hrel
        by_cases hlt : i < n
        · have hli : (i : Int) < (n : Int) := by omega
          obtain ⟨f1, f2, f3, f4, f5⟩ := HE.out i hlt
          obtain ⟨D, hD⟩ : ∃ D, D = 2 * i := ⟨_, rfl⟩
          obtain ⟨D1, hD1⟩ : ∃ D, D = 2 * i + 1 := ⟨_, rfl⟩
          obtain ⟨M, hM⟩ : ∃ M, M = n + i := ⟨_, rfl⟩
          rw [← hD] at f1
          rw [← hD1] at f2 f3
          rw [← hM] at f5
          have e1 : IntKind.i64.wrap (2 * (i : Int)) = (D : Int) := by rw [IntWalk.i64_in _ (by omega)]; omega
          have e2 : IntKind.i64.wrap ((D : Int) + 1) = (D1 : Int) := by rw [IntWalk.i64_in _ (by omega)]; omega
          have e3 : IntKind.i64.wrap ((n : Int) + (i : Int)) = (M : Int) := by rw [IntWalk.i64_in _ (by omega)]; omega
          have l1 : D < T.size := by have := HT.out; omega
          have l2 : D1 < T.size := by have := HT.out; omega
          have l3 : i < S.size := by have := HS.out; omega
          have l4 : i < T.size := by have := HT.out; omega
          have l5 : M < T.size := by have := HT.out; omega
          have m1 : (D : Int) < (T.size : Int) := by omega
          have m2 : (D1 : Int) < (T.size : Int) := by omega
          have m3 : (i : Int) < (S.size : Int) := by omega
          have m4 : (i : Int) < (T.size : Int) := by omega
          have m5 : (M : Int) < (T.size : Int) := by omega
          have b1 := two_ne l1 l3 f1
          have b2 := two_eq l2 l3 f2
          have b4 := two_ne l4 l3 f4
          have hway : ((p : Int) == (n : Int)) = false ∨ (((p : Int) == (n : Int)) = true ∧ ((T[M].toNat : Int) == (S[i].toNat : Int)) = false) := by
            by_cases e : p = n
            · obtain ⟨m, hm⟩ := HP.out
              exact .inr ⟨beq_iff_eq.2 (by omega), two_eq l5 l3 (f5 m (by omega))⟩
            · exact .inl (beq_eq_false_iff_ne.2 (by omega))
          have hone := one_of l2 f3
          clear f1 f2 f3 f4 f5 hD hD1 hM
          rcases hone with c1 | ⟨c1, c2⟩
          all_goals (
            rcases hway with d1 | ⟨d1, d2⟩
            all_goals (
              go_wp2_with fail
              go_quiet (fail)
              go_wp2_with fail
              go_quiet (fail)
              go_wp2_with fail
              go_roundw
              case rel => exact ⟨i + 1, by omega, by go_num, below_drewN hb _⟩
              case measure => simp [intOf]; omega))
        · have hli : ¬ (i : Int) < (n : Int) := by omega
          go_wp2_with fail
          go_ret
          exact ⟨rfl, hb⟩
theorem moha_any (x : Int) (w : World) :
    Calls Try.prog 4 #[.int .i64 x] w fun e w' => e = .returned (.bool true) ∧ Below w.heap.size w w' := by
  by_cases hx : 0 ≤ x ∧ x ≤ 100
  · obtain ⟨n, rfl⟩ : ∃ n : Nat, x = (n : Int) := ⟨x.toNat, by omega⟩
    exact moha_in n w (by omega)
  · exact moha_out x w hx
end Go.Proofs.Ytkpjflfhegejpaa
