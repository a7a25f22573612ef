/-
  The walk of MirrorFew: it returns true for every text, and leaves the old memory alone. No condition but the row's own size.
-/
import Derived.Test.YtgfkbbepngmpnaaMrfact
import Derived.Test.YtgfkbbepngmpnaaIn
import Derived.Test.YtgfkbbepngmpnaaAdded
namespace Go.Proofs.Ytgfkbbepngmpnaa
open Go.RowKit

set_option maxHeartbeats 400000 in
theorem mfew_long (s : ByteArray) (w : World) (h : 24 < s.size) (hs : s.size ≤ maxLen) :
    Calls Try.prog 6 #[.string s] w fun e w' => e = .returned (.bool true) ∧ Below w.heap.size w w' := by
  have H1 := fun w => hid (odd_long s w h hs)
  have H2 := fun w => hid (even_long s w h hs)
  unfold maxLen at hs
  go_enter Try.func6, Try.ntmps6
  go_wp2_with fail
  refine (mrfact_any _).mono ?_
  rintro e w1 ⟨rfl, hb1⟩
  go_wp2_with fail
  refine (H1 _).out.mono ?_
  rintro e w2 ⟨rfl, hc2⟩
  have hb2 := Below.on hb1 hc2 (Nat.le_refl _)
  go_wp2_with fail
  refine (H2 _).out.mono ?_
  rintro e w3 ⟨rfl, hc3⟩
  have hb3 := Below.on hb2 hc3 (Nat.le_refl _)
  go_wp2
  go_ret
  exact ⟨rfl, hb3⟩

set_option maxHeartbeats 3200000 in
set_option maxRecDepth 100000 in
theorem mfew_any (s : ByteArray) (w : World) (h : s.size ≤ 24) :
    Calls Try.prog 6 #[.string s] w fun e w' => e = .returned (.bool true) ∧ Below w.heap.size w w' := by
  have H1 := fun w => hid (odd_any s w h)
  have H2 := fun w => hid (even_any s w h)
  have HX : Hid (∀ i, i < s.size → ∃ o : Nat, (oddL (sg s) s.size s.size).getD i 0 = (o : Int) ∧ 1 ≤ o ∧ o ≤ i + 1 ∧ i + o ≤ s.size ∧ ∀ k, 1 ≤ k → k ≤ o → Pal (sg s) (i + 1 - k) (i + k)) := hid fun i hi => by
    obtain ⟨h1, h2, h3⟩ := odd_bound (sg s) hi
    refine ⟨_, oddL_get _ _ _ _ hi, h1, h2, h3, fun k k1 k2 => ?_⟩
    have := ((odd_iff (sg s) (k := k - 1) hi).1 (by omega)).2.2
    rwa [show i - (k - 1) = i + 1 - k by omega, show i + (k - 1) + 1 = i + k by omega] at this
  have HY : Hid (∀ i, i < s.size → ∃ o : Nat, (evenL (sg s) s.size s.size).getD i 0 = (o : Int) ∧ o ≤ i ∧ i + o ≤ s.size ∧ ∀ k, 1 ≤ k → k ≤ o → Pal (sg s) (i - k) (i + k)) := hid fun i hi => by
    obtain ⟨h2, h3⟩ := even_bound (sg s) hi
    refine ⟨_, evenL_get _ _ _ _ hi, h2, h3, fun k k1 k2 => ?_⟩
    have := ((even_iff (sg s) (k := k - 1) hi).1 (by omega)).2.2
    rwa [show i - (k - 1) - 1 = i - k by omega, show i + (k - 1) + 1 = i + k by omega] at this
  have L1 := hid (oddL_len (sg s) s.size s.size)
  have L2 := hid (evenL_len (sg s) s.size s.size)
  generalize oddL (sg s) s.size s.size = xs at H1 HX L1
  generalize evenL (sg s) s.size s.size = ys at H2 HY L2
  go_enter Try.func6, Try.ntmps6
  go_wp2_with fail
  refine (mrfact_any _).mono ?_
  rintro e w1 ⟨rfl, hb1⟩
  go_wp2_with fail
  refine (H1 _).out.mono ?_
  rintro e w2 ⟨v2, rfl, ho2, hc2⟩
  obtain ⟨A2, c2, rfl, hI2⟩ := own_n ho2 L1.out
  have hb2 := Below.on hb1 hc2 (Nat.le_refl _)
  have J2 := hid hI2
  clear ho2 hI2 hc2 hb1 H1
  go_wp2_with fail
  refine (H2 _).out.mono ?_
  rintro e w3 ⟨v3, rfl, ho3, hc3⟩
  obtain ⟨A3, c3, rfl, hI3⟩ := own_n ho3 L2.out
  have hb3 := Below.on hb2 hc3 (Nat.le_refl _)
  have JX := hid (J2.out.up hc3)
  have JY := hid hI3
  clear ho3 hI3 hc3 hb2 H2 J2 L1 L2
  go_wp2_with fail
  go_loopw [8, 9] (fun v t wr => ∃ (i : Nat) (ws : List ByteArray), t = .int .i64 i ∧ i ≤ s.size ∧ Hid (OwnS wr w3.heap.size 9 v ws) ∧ Hid (Seen s ws) ∧ Below w3.heap.size w3 wr) (fun _ t _ => s.size - (intOf t).toNat)
  case atStart => exact ⟨0, [], rfl, by omega, hid (OwnS.nil _ _ _), hid (seen_nil s), Below.refl _ _⟩
  case round =>
    obtain ⟨i, ws, rfl, hi, HO, HS, hb⟩ := hrel
    by_cases hlt : i < s.size
    · obtain ⟨g, off, rfl, hg, hca⟩ := JX.out.2 (by omega)
      obtain ⟨g', off', rfl, hg', hcb⟩ := JY.out.2 (by omega)
      obtain ⟨o, ho, o1, o2, o3, hop⟩ := HX.out i hlt
      obtain ⟨p, hp, p2, p3, hpp⟩ := HY.out i hlt
      have HA : Hid (∀ W, Below w3.heap.size w3 W → W.cell? ⟨g, off + i, none⟩ = some (.int .i64 (o : Int)) ∧ W.cell? ⟨g', off' + i, none⟩ = some (.int .i64 (p : Int))) := hid fun W hW => by
        rw [hW.cell hg, hW.cell hg', hca i hlt, hcb i hlt, ho, hp]
        exact ⟨rfl, rfl⟩
      have HOP := hid hop
      have HPP := hid hpp
      clear hca hcb ho hp hop hpp
      obtain ⟨hx, hy⟩ := HA.out _ hb
      have H1 := fun W => hid (in_yes (o : Int) 1 ((i : Int) + 1) W (by omega) (by omega))
      have H2 := fun W => hid (in_yes (p : Int) 0 (i : Int) W (by omega) (by omega))
      have d1 : ¬ ((s.size : Int) < (i : Int) + (o : Int)) := by omega
      have d2 : ¬ ((s.size : Int) < (i : Int) + (p : Int)) := by omega
      go_wp2_with fail
      refine (H1 _).out.mono ?_
      rintro e w4 ⟨rfl, hw4⟩
      subst w4
      go_wp2_with fail
      refine (H2 _).out.mono ?_
      rintro e w4 ⟨rfl, hw4⟩
      subst w4
      clear H1 H2
      go_wp2_with fail
      clear hx hy
      obtain ⟨wz, hwz⟩ : ∃ z, z = wr := ⟨_, rfl⟩
      subst hwz
      go_loopw [8, 10] (fun v t wr => ∃ (k : Nat) (us : List ByteArray), t = .int .i64 k ∧ 1 ≤ k ∧ k ≤ o + 1 ∧ Hid (OwnS wr w3.heap.size 9 v us) ∧ Hid (Seen s us) ∧ Below w3.heap.size w3 wr) (fun _ t _ => o + 1 - (intOf t).toNat)
      case atStart => exact ⟨1, ws, rfl, by omega, by omega, HO, HS, hb⟩
      case round =>
        clear HO HS hb
        obtain ⟨k, us, rfl, hk1, hk2, HO, HS, hb⟩ := hrel
        obtain ⟨hx, _⟩ := HA.out _ hb
        have hsz := hb.size
        by_cases hko : k ≤ o
        · have hP := HOP.out k hk1 hko
          have HN := hid (seen_add HS.out (b := i + 1 - k) (e := i + k) (by omega) (by omega) hP)
          have hul := seen_few HS.out
          have hcut : ∀ W : World, Sem.run Try.prog (Instr.slice 9 (.string s) (some (.int .i64 ((i : Int) - (k : Int) + 1))) (some (.int .i64 ((i : Int) + (k : Int)))) none) W = .ok (.string (s.extract (i + 1 - k) (i + k))) W := fun W => by
            have := run_slice_string W 9 s .i64 .i64 ((i : Int) - (k : Int) + 1) ((i : Int) + (k : Int)) Try.underlying9 (by omega) (by omega) (by omega)
            rwa [show ((i : Int) - (k : Int) + 1).toNat = i + 1 - k by omega, show ((i : Int) + (k : Int)).toNat = i + k by omega] at this
          generalize s.extract (i + 1 - k) (i + k) = u at HN hcut
          have HC := fun v (hv : OwnS wr w3.heap.size 9 v us) => hid (added_any v us u wr w3.heap.size hv (by omega) (by omega))
          have HC := hid (HC _ HO.out)
          clear hP
          go_wp2_with fail
          refine HC.out.out.mono ?_
          rintro e w5 ⟨v5, rfl, ho5, hb5⟩
          clear hx
          go_wp2
          go_roundw
          case rel => exact ⟨k + 1, addW us u, by go_num, by omega, by omega, hid ho5, HN, hb.trans hb5⟩
          case measure => simp [intOf]; omega
        · go_wp2_with fail
          clear hx
          obtain ⟨wy, hwy⟩ : ∃ z, z = wr := ⟨_, rfl⟩
          subst hwy
          go_loopw [8, 11] (fun v t wr => ∃ (k : Nat) (us : List ByteArray), t = .int .i64 k ∧ 1 ≤ k ∧ k ≤ p + 1 ∧ Hid (OwnS wr w3.heap.size 9 v us) ∧ Hid (Seen s us) ∧ Below w3.heap.size w3 wr) (fun _ t _ => p + 1 - (intOf t).toNat)
          case atStart => exact ⟨1, us, rfl, by omega, by omega, HO, HS, hb⟩
          case round =>
            clear HO HS hb hsz hko hk1 hk2
            obtain ⟨k, us, rfl, hk1, hk2, HO, HS, hb⟩ := hrel
            obtain ⟨_, hy⟩ := HA.out _ hb
            have hsz := hb.size
            by_cases hkp : k ≤ p
            · have hP := HPP.out k hk1 hkp
              have HN := hid (seen_add HS.out (b := i - k) (e := i + k) (by omega) (by omega) hP)
              have hul := seen_few HS.out
              have hcut : ∀ W : World, Sem.run Try.prog (Instr.slice 9 (.string s) (some (.int .i64 ((i : Int) - (k : Int)))) (some (.int .i64 ((i : Int) + (k : Int)))) none) W = .ok (.string (s.extract (i - k) (i + k))) W := fun W => by
                have := run_slice_string W 9 s .i64 .i64 ((i : Int) - (k : Int)) ((i : Int) + (k : Int)) Try.underlying9 (by omega) (by omega) (by omega)
                rwa [show ((i : Int) - (k : Int)).toNat = i - k by omega, show ((i : Int) + (k : Int)).toNat = i + k by omega] at this
              generalize s.extract (i - k) (i + k) = u at HN hcut
              have HC := hid (added_any _ us u wr w3.heap.size HO.out (by omega) (by omega))
              clear hP
              go_wp2_with fail
              refine HC.out.mono ?_
              rintro e w5 ⟨v5, rfl, ho5, hb5⟩
              clear hy
              go_wp2
              go_roundw
              case rel => exact ⟨k + 1, addW us u, by go_num, by omega, by omega, hid ho5, HN, hb.trans hb5⟩
              case measure => simp [intOf]; omega
            · go_wp2_with fail
              go_roundw
              case rel => exact ⟨i + 1, us, by go_num, by omega, HO, HS, hb⟩
              case measure => simp [intOf]; omega
    · have hul := seen_few HS.out
      obtain ⟨A, c, rfl, _⟩ := HO.out.read
      clear HO HS
      generalize ws.length = n at hul ⊢
      go_wp2
      go_ret
      exact ⟨ret_bool (by first | rfl | (simp; omega)), Below.on hb3 hb (Nat.le_refl _)⟩
end Go.Proofs.Ytgfkbbepngmpnaa
