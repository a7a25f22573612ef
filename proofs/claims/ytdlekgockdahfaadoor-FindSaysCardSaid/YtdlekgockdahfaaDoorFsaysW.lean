/-
  The walk of FindSays: it returns true for every text and word, and leaves the old memory alone. Conditions: the row's own sizes; errors.errorType as the program's text lays it.
-/
import Derived.Test.YtdlekgockdahfaaDoorErr
import Derived.Test.YtdlekgockdahfaaDoorStands
import Derived.Test.YtdlekgockdahfaaDoorWord
import Derived.Test.YtdlekgockdahfaaDoorInts
namespace Go.Proofs.YtdlekgockdahfaaDoor
open Go.RowKit

set_option maxHeartbeats 800000 in
theorem fsays_bad (t u : ByteArray) (k : Int) (w : World) (h : BadW t u k) (ht : t.size ≤ maxLen) (hu : u.size ≤ maxLen) (hg : Laid w) :
    Calls Tryd.prog 3 #[.string t, .string u] w fun e w' => e = .returned (.bool true) ∧ Below w.heap.size w w' := by
  have H1 := fun w => hid (word_bad t u k w h ht hu)
  have H2 := fun w => hid (check_bad t u k w h ht hu)
  have H3 := fun w => hid (fall_bad t u k w h ht hu)
  have H4 := fun w => hid (apart_bad t u k w h ht hu)
  have HI := fun w => hid (ints_ok none none 0 0 0 0 [] w 0 0 (by omega) (by omega) IsInts.nil IsInts.nil)
  have hp := hg.pos
  have hk : (k == 0) = false := by
    rcases h with ⟨rfl, _⟩ | ⟨rfl, _⟩ <;> rfl
  unfold maxLen at ht hu
  clear h
  go_enter Tryd.func3, Tryd.ntmps3
  go_wp2_with fail
  refine (H1 _).out.mono ?_
  rintro e w1 ⟨rfl, rfl⟩
  go_wp2_with fail
  refine (H2 _).out.mono ?_
  rintro e w1 ⟨rfl, rfl⟩
  go_wp2_with fail
  refine (error_err k _ hg).mono ?_
  rintro e w2 ⟨rfl, hb2⟩
  have hg2 := hg.below hp hb2
  go_wp2_with fail
  refine (H3 _).out.mono ?_
  rintro e w3 ⟨rfl, rfl⟩
  go_wp2_with fail
  refine (error_err k _ hg2).mono ?_
  rintro e w4 ⟨rfl, hb4⟩
  have hb4 : Below w1.heap.size w1 w4 := hb2.trans (hb4.mono hb2.size)
  go_wp2_with fail
  refine (HI _).out.mono ?_
  rintro e w5 ⟨rfl, hb5⟩
  have hb5 : Below w1.heap.size w1 w5 := hb4.trans (hb5.mono hb4.size)
  have hg5 := hg.below hp hb5
  go_wp2_with fail
  refine (H4 _).out.mono ?_
  rintro e w6 ⟨rfl, rfl⟩
  go_wp2_with fail
  refine (error_err k _ hg5).mono ?_
  rintro e w7 ⟨rfl, hb7⟩
  go_wp2
  go_ret
  exact ⟨rfl, hb5.trans (hb7.mono hb5.size)⟩

set_option maxHeartbeats 1600000 in
theorem fsays_any (t u : ByteArray) (w : World) (h1 : t.size ≤ 24) (h2 : u.size ≤ 24) (h0 : 0 < u.size) :
    Calls Tryd.prog 3 #[.string t, .string u] w fun e w' => e = .returned (.bool true) ∧ Below w.heap.size w w' := by
  have H1 := fun w => hid (word_ok t u w h1 h2 h0)
  have H2 := fun w => hid (check_ok t u w h1 h2 h0)
  have HS := fun w => hid (stands_any t u w (by omega) (by omega))
  have HA := fun w => hid (fall_any t u w h1 h2 h0)
  have HP := fun w => hid (apart_any t u w h1 h2 h0)
  have hlen := occL_len t u
  have HB : Hid (∀ i, i < (occL t u).length → 0 ≤ (occL t u).getD i 0 ∧ (occL t u).getD i 0 ≤ 24) := hid fun i hi => by
    obtain ⟨p, e, hp, _⟩ := occ_at hi
    omega
  generalize occL t u = xs at HS HA HP HB hlen
  obtain ⟨N, hN⟩ : ∃ N, (apL u.size xs).1 = N := ⟨_, rfl⟩
  rw [hN] at HP
  have HC : Hid ((apL u.size xs).1 = N) := hN
  clear hN
  go_enter Tryd.func3, Tryd.ntmps3
  go_wp2_with fail
  refine (H1 _).out.mono ?_
  rintro e w0 ⟨rfl, rfl⟩
  go_wp2_with fail
  refine (H2 _).out.mono ?_
  rintro e w0 ⟨rfl, rfl⟩
  go_wp2_with fail
  refine (error_nil _).mono ?_
  rintro e w0 ⟨rfl, rfl⟩
  clear H1 H2
  go_wp2_with fail
  refine (HS _).out.mono ?_
  rintro e w1 ⟨v, rfl, ho1, hb1⟩
  obtain ⟨A, c, rfl, _, hI⟩ := IsInts.of_own ho1
  have HI := hid hI
  clear ho1 HS hI
  go_wp2
  go_loopw [8, 9, 10] (fun a b x wr => ∃ (k q : Nat) (c e : Int), k ≤ xs.length ∧ a = .int .i64 c ∧ b = .int .i64 e ∧ x = .int .i64 k ∧ 0 ≤ c ∧ c ≤ k ∧ 0 ≤ e ∧ e ≤ 48 ∧ Hid (apL u.size (xs.take k) = (c, e)) ∧ wr = w1.drewN q) (fun _ _ x _ => xs.length - (intOf x).toNat)
  case atStart => exact ⟨0, 0, 0, 0, by omega, rfl, rfl, rfl, by omega, by omega, by omega, by omega, hid (by simp [apL_nil]), rfl⟩
  case round =>
    obtain ⟨k, q, cc, ee, hk, rfl, rfl, rfl, hc0, hc1, he0, he1, HT, rfl⟩ := hrel
    by_cases hlt : k < xs.length
    · obtain ⟨g, off, rfl, _, hca⟩ := HI.out.2 (by omega)
      have hx := hca k hlt
      obtain ⟨hx0, hx1⟩ := HB.out k hlt
      have HN := hid (take_next hlt)
      generalize xs.getD k 0 = X at hx hx0 hx1 HN
      clear hca
      by_cases hge : ee ≤ X
      · have HR : Hid (apL u.size (xs.take (k + 1)) = (cc + 1, X + u.size)) := hid (by rw [HN.out, apL_yes (by rw [HT.out]; exact hge), HT.out])
        clear HT HN
        go_wp2
        go_roundw
        case rel => exact ⟨k + 1, _, cc + 1, X + u.size, by omega, by go_num, by go_num, by go_num, by omega, by omega, by omega, by omega, HR, by first | rfl | rw [World.drewN_drewN]⟩
        case measure => simp [intOf]; omega
      · have HR : Hid (apL u.size (xs.take (k + 1)) = (cc, ee)) := hid (by rw [HN.out, apL_no (by rw [HT.out]; exact hge), HT.out])
        have hge : X < ee := by omega
        clear HT HN
        go_wp2
        go_roundw
        case rel => exact ⟨k + 1, _, cc, ee, by omega, rfl, rfl, by go_num, by omega, by omega, by omega, by omega, HR, by first | rfl | rw [World.drewN_drewN]⟩
        case measure => simp [intOf]; omega
    · have HR : cc = N := by
        have h := HT.out
        rw [List.take_of_length_le (by omega)] at h
        rw [← HC.out, h]
      subst HR
      have hI2 := HI.out.drewN q
      have hb2 := below_drewN hb1 q
      have hs2 : w1.heap.size ≤ (w1.drewN q).heap.size := Nat.le_refl _
      generalize w1.drewN q = w2 at hI2 hb2 hs2 ⊢
      clear HT HC HI HB hb1
      go_wp2_with fail
      refine (HA _).out.mono ?_
      rintro e w3 ⟨v3, rfl, ho3, hb3⟩
      obtain ⟨A3, c3, rfl, _, hI3⟩ := IsInts.of_own ho3
      have hI2 := hI2.below (hb3.mono hs2)
      have hb3 := hb2.trans (hb3.mono hb2.size)
      clear ho3 HA hb2
      go_wp2_with fail
      refine (error_nil _).mono ?_
      rintro e w4 ⟨rfl, rfl⟩
      have H5 := hid (ints_ok A3 A xs.length xs.length c3 c xs w4 _ _ (by omega) (by omega) hI3 hI2)
      clear hI2 hI3
      go_wp2_with fail
      refine H5.out.mono ?_
      rintro e w5 ⟨rfl, hb5⟩
      have hb5 := hb3.trans (hb5.mono hb3.size)
      clear H5 hb3
      go_wp2_with fail
      refine (HP _).out.mono ?_
      rintro e w6 ⟨rfl, hb6⟩
      have hb6 := hb5.trans (hb6.mono hb5.size)
      go_wp2_with fail
      refine (error_nil _).mono ?_
      rintro e w7 ⟨rfl, rfl⟩
      go_wp2
      go_ret
      exact ⟨rfl, hb6⟩
end Go.Proofs.YtdlekgockdahfaaDoor
