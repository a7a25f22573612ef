/-
  The walk of ManyEach: it returns true, whatever the words, the text and the number. Conditions: the row's own sizes.
-/
import Derived.Test.YtkdpdongiehelaaMfact
import Derived.Test.YtkdpdongiehelaaMlaw
import Derived.Test.YtkdpdongiehelaaFind
import Derived.Test.YtkdpdongiehelaaIn
namespace Go.Proofs.Ytkdpdongiehelaa
open Go.RowKit

theorem in_not (n lo hi : Int) (w : World) (h : ¬ (lo ≤ n ∧ n ≤ hi)) : Calls Try.prog 8 #[.int .i64 n, .int .i64 lo, .int .i64 hi] w fun e w' => e = .returned (.bool false) ∧ w' = w :=
  (in_any n lo hi w).mono fun _ _ ⟨he, hw⟩ => ⟨by rw [he]; simp [inB]; omega, hw⟩
theorem meach_bad (A : Option Addr) (n c : Nat) (ws : List ByteArray) (t : ByteArray) (x k : Int) (w : World) (hn : n ≤ maxLen) (hs : ∀ i, i < n → (wat ws i).size ≤ maxLen) (ht : t.size ≤ maxLen) (hk : BadM ws t k) (h : IsStrs w w.heap.size A n ws) :
    Calls Try.prog 3 #[.slice A n c, .string t, .int .i64 x] w fun e w' => e = .returned (.bool true) ∧ Below w.heap.size w w' := by
  have H := hid h
  have HC := fun w1 hb => hid (all_bad A n c ws t k w1 hn hs ht hk ((H.out.below hb).mono (Below.size hb)))
  clear h hk hs hn ht
  go_enter Try.func3, Try.ntmps3
  go_wp2_with fail
  refine (mfact_any w).mono ?_
  rintro e w1 ⟨rfl, hb1⟩
  go_wp2_with fail
  refine (HC w1 hb1).out.mono ?_
  rintro e w2 ⟨rfl, hb2⟩
  go_wp2_with fail
  go_ret
  exact ⟨rfl, hb1.trans (hb2.mono hb1.size)⟩

set_option maxHeartbeats 2000000 in
theorem meach_ok (A : Option Addr) (n c : Nat) (ws : List ByteArray) (t : ByteArray) (x : Int) (w : World) (hx : (Lit.int .i64 x).wf = true) (hf : Fine ws) (ht : t.size ≤ 24) (h : IsStrs w w.heap.size A n ws) :
    Calls Try.prog 3 #[.slice A n c, .string t, .int .i64 x] w fun e w' => e = .returned (.bool true) ∧ Below w.heap.size w w' := by
  obtain ⟨i0, hi, hz0, hz1, hz2⟩ := info_parts int_info
  have hl : ws.length = n := h.1
  have hn6 := hf.1
  have hn : n ≤ 6 := by omega
  have hL := hitsL_len hf ht
  have H := hid h
  have HF := hid hf
  have HL := hid hl
  have HX := hid hx
  clear h hf hl hn6 hx
  go_enter Try.func3, Try.ntmps3
  go_wp2_with fail
  refine (mfact_any w).mono ?_
  rintro e w1 ⟨rfl, hb1⟩
  have HC := hid (all_ok A n c ws t w1 HF.out ht ((H.out.below hb1).mono hb1.size))
  go_wp2_with fail
  refine HC.out.mono ?_
  rintro e w2 ⟨A2, c2, rfl, hI, hb2⟩
  have hb12 := hb1.trans (hb2.mono hb1.size)
  have HS := hid (H.out.below hb12)
  have HI := hid hI
  clear HC H hb1 hb2 hI
  clear w1
  by_cases hr : 0 ≤ x ∧ x ≤ (n : Int) - 1
  · obtain ⟨k, rfl⟩ : ∃ k : Nat, x = (k : Int) := ⟨x.toNat, by omega⟩
    have hkn : k < n := by omega
    obtain ⟨L, hLe⟩ : ∃ z, z = (hitsL ws t).length := ⟨_, rfl⟩
    rw [← hLe] at HI hL
    rw [← hLe]
    have HLE := hid hLe
    clear hLe
    go_wp2_with (first
      | (go_at_call 8; refine (in_yes _ _ _ _ hr.1 hr.2).mono ?_; rintro e w' ⟨rfl, hw'⟩; subst w'))
    clear hr
    go_loopw [10, 11] (fun v y wr => ∃ j : Nat, j ≤ L ∧ y = .int .i64 j ∧ OwnI wr w2.heap.size 3 v (ownL ((hitsL ws t).take j) k) ∧ Below w2.heap.size w2 wr) (fun _ y _ => L - (intOf y).toNat)
    case atStart => exact ⟨0, by omega, rfl, OwnI.nil _ _ _, Below.refl _ _⟩
    case round =>
      obtain ⟨j, hj, rfl, hown, hb⟩ := hrel
      have hsz := hb.size
      by_cases hlt : j < L
      · obtain ⟨g, off, rfl, hg, hcw⟩ := HI.out.2 (by omega)
        obtain ⟨hc1, hc2⟩ := hcw j hlt
        have hd1 := (hb.cell (show g < w2.heap.size from hg)).trans hc1
        have hd2 := (hb.cell (show g < w2.heap.size from hg)).trans hc2
        clear hc1 hc2
        have hlen := ownL_len ((hitsL ws t).take j) k
        rw [List.length_take] at hlen
        by_cases he : ((hitsL ws t).getD j (0, 0)).2 = k
        · have HE := hid (ownL_yes (by have := HLE.out; omega) he)
          rw [he] at hd2
          clear he hcw
          generalize ((hitsL ws t).getD j (0, 0)).1 = a at hd1 HE
          generalize ownL ((hitsL ws t).take j) k = cs at hown HE hlen
          go_wp2_with (at_builtin; refine wpList_append_int _ rfl (.tmp 52) (.tmp 58) 30 rfl w2.heap.size 3 i0 Try.underlying30 hi hz0 hz1 hz2 _ cs rfl hown (a : Int) rfl (by omega) (by omega) ?_)
          intro v' w6 hown6 hb6
          go_wp2_with fail
          go_roundw
          case rel => exact ⟨j + 1, by omega, by go_num, by rw [HE.out]; exact hown6, hb.trans hb6⟩
          case measure => simp [intOf]; omega
        · have HE := hid (ownL_no (by have := HLE.out; omega) he)
          generalize hb2 : ((hitsL ws t).getD j (0, 0)).2 = b at hd2 he
          have hq : ((b : Int) == (k : Int)) = false := beq_eq_false_iff_ne.2 (by omega)
          clear he hcw hb2
          generalize ((hitsL ws t).getD j (0, 0)).1 = a at hd1
          generalize ownL ((hitsL ws t).take j) k = cs at hown HE hlen
          go_wp2_with fail
          go_roundw
          case rel => exact ⟨j + 1, by omega, by go_num, by rw [HE.out]; exact hown, hb⟩
          case measure => simp [intOf]; omega
      · rw [List.take_of_length_le (by have := HLE.out; omega), own_all ws t k (by have := HL.out; omega)] at hown
        obtain ⟨g, off, rfl, hg, hcw⟩ := HS.out.2 (by omega)
        have hwk : wr.cell? ⟨g, off + k, none⟩ = some (.string (wat ws k)) := (hb.cell (show g < w2.heap.size by have := hb12.size; omega)).trans (hcw k hkn)
        have hfk := HF.out.2 k (by have := HL.out; omega)
        have hol := occTo_len (sg t) (sg (wat ws k)) t.size (wat ws k).size t.size
        have HG := hid (fall_any t (wat ws k) wr ht (by omega) hfk.2.1)
        have HO := hid hown
        have hol2 : (occL t (wat ws k)).length ≤ 24 := by unfold occL; omega
        clear hcw hown hfk hol
        generalize wat ws k = s at hwk HG HO hol2
        go_wp2_with fail
        refine HG.out.mono ?_
        rintro e w3 ⟨v3, rfl, ho3, hb3⟩
        obtain ⟨A3, c3, rfl, _, hI3⟩ := IsInts.of_own ho3
        obtain ⟨A4, c4, rfl, _, hI4⟩ := IsInts.of_own (HO.out.below hb3 (Nat.le_refl _))
        have HQ := hid (ints_ok A3 A4 _ _ c3 c4 _ w3 _ _ (by omega) (by omega) hI3 hI4)
        clear hI3 hI4 ho3 HO HG
        generalize (occL t s).length = m at HQ hol2 ⊢
        go_wp2_with fail
        refine HQ.out.mono ?_
        rintro e w4 ⟨rfl, hb4⟩
        go_wp2_with fail
        go_ret
        have hb' := hb12.trans (hb.mono hb12.size)
        have hb'' := hb'.trans (hb3.mono hb'.size)
        exact ⟨rfl, hb''.trans (hb4.mono hb''.size)⟩
  · have HN := hid hr
    clear hr
    generalize (hitsL ws t).length = L at hL ⊢
    go_wp2_with (first
      | (go_at_call 8; refine (in_not _ _ _ _ HN.out).mono ?_; rintro e w' ⟨rfl, hw'⟩; subst w'))
    go_ret
    exact ⟨rfl, hb12⟩
theorem meach_any (A : Option Addr) (n c : Nat) (ws : List ByteArray) (t : ByteArray) (x : Int) (w : World) (hn : n ≤ maxLen) (hs : ∀ i, i < n → (wat ws i).size ≤ maxLen) (ht : t.size ≤ maxLen) (hx : (Lit.int .i64 x).wf = true) (h : IsStrs w w.heap.size A n ws) :
    Calls Try.prog 3 #[.slice A n c, .string t, .int .i64 x] w fun e w' => e = .returned (.bool true) ∧ Below w.heap.size w w' := by
  rcases badM_or ws t with ⟨hf, h24⟩ | ⟨k, hk⟩
  · exact meach_ok A n c ws t x w hx hf h24 h
  · exact meach_bad A n c ws t x k w hn hs ht hk h
end Go.Proofs.Ytkdpdongiehelaa
