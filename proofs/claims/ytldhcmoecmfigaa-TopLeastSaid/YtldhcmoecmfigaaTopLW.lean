/-
  The walk of TopLeast: it returns true at every text of a length that a row may have. No other condition.
-/
import Derived.Test.YtldhcmoecmfigaaWfact
import Derived.Test.YtldhcmoecmfigaaTopLm
import Derived.Test.YtldhcmoecmfigaaTleast
import Derived.Test.YtldhcmoecmfigaaLyndP
import Derived.Test.YtldhcmoecmfigaaSufO
import Derived.Test.YtldhcmoecmfigaaRturn
import Derived.Test.YtldhcmoecmfigaaInT
import Derived.Test.YtldhcmoecmfigaaOn
import Derived.Test.YtldhcmoecmfigaaNats
import Derived.Test.YtldhcmoecmfigaaAt0
import Derived.Test.YtldhcmoecmfigaaVoid
namespace Go.Proofs.Ytldhcmoecmfigaa
open Go.RowKit

theorem ba_rows : wheelM [98, 97] = [[97, 98], [98, 97]] := sort_one (by unfold Asc; decide +kernel) (List.isPerm_iff.1 (by decide +kernel))
theorem ba_T : wheelT [98, 97] = [98, 97] := by unfold wheelT; rw [ba_rows]; rfl
theorem ba_N : wheelN [98, 97] = 1 := by unfold wheelN; rw [ba_rows]; decide +kernel
theorem there_ba (w : World) : Calls Try.prog 8 #[.string ⟨#[98, 97]⟩] w fun e w' => e = .returned (.tuple #[.string ⟨#[98, 97]⟩, .int .i64 1, .nilIface]) ∧ Below w.heap.size w w' := by
  have := there_any ⟨#[98, 97]⟩ w (by decide)
  rw [show bs ⟨#[98, 97]⟩ = [98, 97] from rfl, ba_T, ba_N] at this
  exact this

set_option maxHeartbeats 4000000 in
set_option maxRecDepth 100000 in
theorem topLeast_any (s : ByteArray) (w : World) (hs : s.size ≤ maxLen) :
    Calls Try.prog 6 #[.string s] w fun e w' => e = .returned (.bool true) ∧ Below w.heap.size w w' := by
  have HBA := fun W => hid (there_ba W)
  by_cases h : s.size ≤ 24
  · have H1 := fun W => hid (there_any s W h)
    have hsl : (bs s).length ≤ 24 := by rw [bs_len]; exact h
    have hn1 : wheelN (bs s) ≤ 24 := Nat.le_trans (wheelN_le _) hsl
    by_cases h0 : 0 < s.size
    · have hbl := blank_no h0
      have H2 := fun W => hid (back_wheel (bs s) 0 W hsl ⟨fun h => h, fun _ => rfl⟩)
      have H3 := fun W => hid (least_any s W h)
      have H4 := fun W => hid (parts_any s W h)
      have H5 := fun W => hid (order_any s W h)
      generalize wheelN (bs s) = n1 at H1 hn1
      generalize txt (wheelT (bs s)) = t at H1 H2
      have HFL := hid (fun b (hb : Lst (cy s) s.size b) => first_least h0 hb)
      have HOF := hid (fun (o : List Nat) (xs : List Int) (hO : Ord (bs s) o) (hR : Rest (sg s) s.size 0 xs) => order_first h0 hO hR)
      have HLT := hid (fun b (hb : Lst (cy s) s.size b) => lst_lt h0 hb)
      generalize txt ((wheelM (bs s)).getD 0 []) = u at H2 HFL
      clear hsl hs
      go_enter Try.func6, Try.ntmps6
      go_wp2_with fail
      refine (H1 _).out.mono ?_
      rintro e w1 ⟨rfl, hb1⟩
      go_wp2_with fail
      refine (HBA _).out.mono ?_
      rintro e w2 ⟨rfl, hb2⟩
      have hbB := hb1.trans (hb2.mono hb1.size)
      clear hb1 hb2 H1 HBA
      go_wp2_with fail
      refine (H3 _).out.mono ?_
      rintro e w3 ⟨b, rfl, hL, hw3⟩
      subst w3
      have hbn := HLT.out b hL
      have hub := HFL.out b hL
      have HUB := hid hub
      clear hL hub HFL HLT H3
      go_wp2_with fail
      refine (H2 _).out.mono ?_
      rintro e w4 ⟨rfl, hb4⟩
      have hbC := hbB.trans (hb4.mono hbB.size)
      clear hb4 hbB H2
      go_wp2_with fail
      refine (H4 _).out.mono ?_
      rintro e w5 ⟨v5, xs, rfl, hR, hO5, hb5⟩
      have hbD := hbC.trans (hb5.mono hbC.size)
      have hxl := rest_len hR
      obtain ⟨m, hm⟩ : ∃ m, xs.length = m := ⟨_, rfl⟩
      obtain ⟨A5, c5, rfl, hI5⟩ := own_n hO5 hm
      have HR := hid hR
      have HM := hid hm
      have hm24 : m ≤ 24 := by omega
      clear hR hO5 hb5 hbC H4 hxl
      go_wp2_with fail
      refine (H5 _).out.mono ?_
      rintro e w6 ⟨A6, c6, o, rfl, hOr, hI6, hb6⟩
      have hbE := hbD.trans (hb6.mono hbD.size)
      obtain ⟨hne, hof⟩ := HOF.out o xs hOr HR.out
      have hm0 : 0 < m := by rw [← hm]; exact List.length_pos_iff.2 hne
      rw [hm] at hof
      have hI56 := hI5.up hb6
      obtain ⟨g5, off5, rfl, hg5, hc5⟩ := hI56.2 hm0
      obtain ⟨g6, off6, rfl, hg6, hc6⟩ := nats_at hI6 h0
      have hy := hc5 (m - 1) (by omega)
      have hz := hc6 0 h0
      rw [Nat.add_zero] at hz
      have hbb := hof
      have hoz : ((o.getD 0 0 : Nat) : Int) < 25 := by
        have h7 := hOr.len
        rw [bs_len] at h7
        have h8 := List.mem_range.1 (hOr.1.mem_iff.1 (show o.getD 0 0 ∈ o by rw [getD_at _ (by omega)]; exact List.getElem_mem _))
        rw [bs_len] at h8
        omega
      have ho0 : (0 : Int) ≤ ((o.getD 0 0 : Nat) : Int) := by omega
      generalize ((o.getD 0 0 : Nat) : Int) = z at hz hof hoz ho0
      generalize xs.getD (m - 1) 0 = y at hy hof
      have HIN := fun W => hid (in_yes (b : Int) 0 ((s.size : Int) - 1) W (by omega) (by omega))
      have H7 := fun W => hid (rturn_any s b W (by omega) (by omega))
      rw [← HUB.out] at H7
      have hq := same_yes (rfl : u = u)
      have hat0 := fun W => run_at0 W g6 off6 s.size c6 h0
      have hd1 : ((m : Int) == 0) = false := by simp; omega
      have hyz : (s.size : Int) - y = z := hof.symm
      clear hof hbb hI56 hI5 hI6 hc5 hc6 hOr hb6 hbD H5 HOF hne hm HM HR
      go_wp2_with fail
      refine (HIN _).out.mono ?_
      rintro e w7 ⟨rfl, hw7⟩
      subst w7
      clear HIN
      have i1 : ((m : Int) - 1).toNat = m - 1 := by omega
      have i2 : (0 : Int) ≤ (m : Int) - 1 := by omega
      have i3 : (m : Int) - 1 < (m : Int) := by omega
      have i4 : IntKind.i64.wrap ((s.size : Int) - y) = (s.size : Int) - y := IntWalk.i64_in _ (by omega)
      have i5 : (z == (s.size : Int) - y) = true := by simp [hyz]
      clear hyz
      go_wp2_with fail
      go_quiet ((go_at_call 11; exact Calls.quiet_of (H7 _).out))
      go_wp2_with fail
      go_ret
      exact ⟨rfl, below_drewN hbE _⟩
    · have hbl := blank_yes (show s.size = 0 by omega)
      have hts : (txt (wheelT (bs s))).toList.isEmpty = true := blank_yes (by rw [txt_size, wheelT_len, bs_len]; omega)
      generalize wheelN (bs s) = n1 at H1 hn1
      generalize txt (wheelT (bs s)) = t at H1 hts
      clear hsl hs
      go_enter Try.func6, Try.ntmps6
      go_wp2_with fail
      refine (H1 _).out.mono ?_
      rintro e w1 ⟨rfl, hb1⟩
      go_wp2_with fail
      refine (HBA _).out.mono ?_
      rintro e w2 ⟨rfl, hb2⟩
      have hbB := hb1.trans (hb2.mono hb1.size)
      clear hb1 hb2 H1 HBA
      go_wp2_with fail
      go_ret
      exact ⟨rfl, hbB⟩
  · have H1 := fun W => hid (there_long s W (by omega) hs)
    clear hs
    go_enter Try.func6, Try.ntmps6
    go_wp2_with fail
    refine (H1 _).out.mono ?_
    rintro e w1 ⟨rfl, hw1⟩
    subst w1
    go_wp2_with fail
    refine (HBA _).out.mono ?_
    rintro e w2 ⟨rfl, hb2⟩
    go_wp2_with fail
    go_ret
    exact ⟨rfl, hb2⟩
end Go.Proofs.Ytldhcmoecmfigaa
