/-
  The walk of RunsSum: it returns true at every text. Conditions: the row's own size.
-/
import Derived.Test.YtpnnaomkbncbeaaRfact
import Derived.Test.YtpnnaomkbncbeaaStr
import Derived.Test.YtpnnaomkbncbeaaBack
import Derived.Test.YtpnnaomkbncbeaaIn2
namespace Go.Proofs.Ytpnnaomkbncbeaa
open Go.RowKit

theorem bs_back (s : ByteArray) : bs (backS s s.size) = (bs s).reverse := by
  have e : s.size = s.data.toList.length := by rw [Array.length_toList]; rfl
  unfold bs backS
  rw [e, List.take_length]

set_option maxHeartbeats 4000000 in
set_option maxRecDepth 100000 in
theorem runsSum_any (s : ByteArray) (w : World) (hs : s.size ≤ maxLen) :
    Calls Try.prog 5 #[.string s] w fun e w' => e = .returned (.bool true) ∧ Below w.heap.size w w' := by
  have HF := fun W => hid (rfact_any W)
  go_enter Try.func5, Try.ntmps5
  go_wp2_with fail
  refine (HF _).out.mono ?_
  rintro e w1 ⟨rfl, hb1⟩
  clear HF
  by_cases h : s.size ≤ 1000
  · have H1 := fun W => hid (write_any s W h)
    have H2 := fun W => hid (back_any s W hs)
    clear hs
    go_wp2_with fail
    refine (H1 _).out.mono ?_
    rintro e w2 ⟨A2, c2, l, rfl, hg, hu, hI, hb2⟩
    have hbB := hb1.trans (hb2.mono hb1.size)
    have hll : l.length ≤ 1000 := by have := good_len hg; rw [hu, bs_len] at this; omega
    have H3 := fun W => hid (write_is (backS s s.size) l.reverse W (by rw [backS_size _ _ (Nat.le_refl _)]; exact h) (good_rev hg) (by rw [unr_rev, hu, bs_back]))
    rw [List.length_reverse] at H3
    have HG : Hid (∀ k, k < l.length → 1 ≤ mnR l k ∧ mnR l k ≤ 1000 ∧ totR l (k + 1) = totR l k + (mnR l k).toNat ∧ totR l (k + 1) ≤ s.size) := hid fun k hk => by
      have h1 := tot_succ hk
      have h2 := tot_le l (k + 1)
      have h3 := (good_at.1 hg k hk).1
      rw [hu, bs_len] at h2
      exact ⟨h3, by omega, h1, h2⟩
    have HT : Hid (totR l l.length = s.size) := hid (by rw [tot_all, hu, bs_len])
    have HLL : Hid (∀ k, k < l.length → l.reverse.getD (l.length - 1 - k) (0, 0) = l.getD k (0, 0)) := hid fun k hk => by
      rw [List.getD_eq_getElem?_getD, List.getElem?_reverse (by omega), List.getD_eq_getElem?_getD, show l.length - 1 - (l.length - 1 - k) = k by omega]
    have HI2 := hid hI
    clear hb1 hb2 H1 hI hg hu
    generalize l.length = n at hll H3 HG HT HLL HI2 ⊢
    generalize backS s s.size = t at H2 H3
    go_wp2_with fail
    refine (H2 _).out.mono ?_
    rintro e w3 ⟨rfl, hw3⟩
    subst w3
    go_wp2_with fail
    refine (H3 _).out.mono ?_
    rintro e w3 ⟨A3, c3, rfl, hI3, hb3⟩
    have HI3 := hid hI3
    have HI4 := hid (HI2.out.on hb3)
    have hbC := hbB.trans (hb3.mono hbB.size)
    clear hI3 HI2 hbB hb3 H2 H3
    go_wp2_with fail
    go_loopw [7, 8] (fun x y wr => ∃ k T : Nat, k ≤ n ∧ T ≤ s.size ∧ x = .int .i64 T ∧ y = .int .i64 k ∧ Hid (T = totR l k) ∧ Hid (∃ q, wr = w3.drewN q)) (fun _ y _ => n - (intOf y).toNat)
    case atStart => exact ⟨0, 0, by omega, by omega, rfl, rfl, hid rfl, hid ⟨0, rfl⟩⟩
    case round =>
      obtain ⟨k, T, hk, hT, rfl, rfl, HK, HW⟩ := hrel
      have hcw : ∀ p, wr.cell? p = w3.cell? p := fun p => by obtain ⟨q, hq⟩ := HW.out; rw [hq]; rfl
      by_cases hlt : k < n
      · obtain ⟨g, off, rfl, _, hca⟩ := HI4.out.2 (by omega)
        obtain ⟨g', off', rfl, _, hcb⟩ := HI3.out.2 (by omega)
        obtain ⟨hx1, hx2⟩ := hca k hlt
        obtain ⟨hy1, hy2⟩ := hcb (n - 1 - k) (by omega)
        rw [HLL.out k hlt] at hy1 hy2
        rw [← hcw] at hx1 hx2 hy1 hy2
        obtain ⟨m1, m2, m3, m4⟩ := HG.out k hlt
        have e2 : (l.getD k (0, 0)).2 = mnR l k := rfl
        obtain ⟨M, hM⟩ : ∃ M : Nat, mnR l k = (M : Int) := ⟨(mnR l k).toNat, by omega⟩
        rw [e2] at hx2 hy2
        rw [hM] at hx2 hy2 m1 m2 m3
        have HN : Hid (T + M = totR l (k + 1)) := hid (by rw [m3, HK.out]; simp)
        have hTM : T + M ≤ s.size := by have := HN.out; omega
        have HC := fun W => hid (in_yes (M : Int) 1 1000 W m1 m2)
        generalize (l.getD k (0, 0)).1 = X at hx1 hy1
        obtain ⟨p, hpe, hpn⟩ : ∃ p : Nat, p = n - 1 - k ∧ p < n := ⟨_, rfl, by omega⟩
        have i1 : (n : Int) - 1 - (k : Int) = (p : Int) := by omega
        have j1 : IntKind.i64.wrap ((n : Int) - 1) = (n : Int) - 1 := IntWalk.i64_in _ (by omega)
        have j2 : IntKind.i64.wrap ((n : Int) - 1 - (k : Int)) = (p : Int) := by rw [IntWalk.i64_in _ (by omega)]; exact i1
        rw [← hpe] at hy1 hy2
        clear hpe i1
        clear hcw hca hcb e2 hM m3 m4 HK
        go_wp2_with fail
        go_quiet ((go_at_call 11; exact Calls.quiet_of_same (HC _).out))
        go_wp2_with fail
        go_roundw
        case rel => exact ⟨k + 1, T + M, by omega, hTM, by go_num, by go_num, HN, hid (by obtain ⟨q, hq⟩ := HW.out; rw [hq]; first | exact ⟨_, rfl⟩ | (simp only [World.drewN_drewN]; exact ⟨_, rfl⟩))⟩
        case measure => simp [intOf]; omega
      · have hkn : k = n := by omega
        have HE : Hid ((T : Int) = (s.size : Int)) := hid (by rw [HK.out, hkn, HT.out])
        obtain ⟨q, hq⟩ := HW.out
        have hbD : Below w.heap.size w wr := by rw [hq]; exact below_drewN hbC q
        clear hkn HK HT HG HLL hcw hq HW
        go_wp2_with fail
        go_ret
        exact ⟨ret_bool (by simpa using HE.out), hbD⟩
  · have H1 := fun W => hid (write_long s W (by omega) hs)
    clear hs
    go_wp2_with fail
    refine (H1 _).out.mono ?_
    rintro e w2 ⟨rfl, hw2⟩
    subst w2
    clear H1
    go_wp2_with fail
    go_ret
    exact ⟨rfl, hb1⟩
end Go.Proofs.Ytpnnaomkbncbeaa
