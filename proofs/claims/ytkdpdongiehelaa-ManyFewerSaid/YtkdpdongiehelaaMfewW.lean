/-
  The walk of ManyFewer: it returns true, whatever the words and the text. Conditions: the row's own sizes.
-/
import Derived.Test.YtkdpdongiehelaaMfact
import Derived.Test.YtkdpdongiehelaaMlaw
namespace Go.Proofs.Ytkdpdongiehelaa
open Go.RowKit

theorem mfew_bad (A : Option Addr) (n c : Nat) (ws : List ByteArray) (t : ByteArray) (k : Int) (w : World) (hn : n ≤ maxLen) (hs : ∀ i, i < n → (wat ws i).size ≤ maxLen) (ht : t.size ≤ maxLen) (hk : BadM ws t k) (h : IsStrs w w.heap.size A n ws) :
    Calls Try.prog 5 #[.slice A n c, .string t] w fun e w' => e = .returned (.bool true) ∧ Below w.heap.size w w' := by
  have H := hid h
  have HC := fun w1 hb => hid (all_bad A n c ws t k w1 hn hs ht hk ((H.out.below hb).mono (Below.size hb)))
  clear h hk hs hn ht
  go_enter Try.func5, Try.ntmps5
  go_wp2_with fail
  refine (mfact_any w).mono ?_
  rintro e w1 ⟨rfl, hb1⟩
  go_wp2_with fail
  refine (HC w1 hb1).out.mono ?_
  rintro e w2 ⟨rfl, hb2⟩
  go_wp2_with fail
  go_ret
  exact ⟨rfl, hb1.trans (hb2.mono hb1.size)⟩
theorem mfew_none (A : Option Addr) (c : Nat) (t : ByteArray) (w : World) (ht : t.size ≤ 24) (h : IsStrs w w.heap.size A 0 []) :
    Calls Try.prog 5 #[.slice A 0 c, .string t] w fun e w' => e = .returned (.bool true) ∧ Below w.heap.size w w' := by
  have H := hid h
  have hf : Fine [] := ⟨by simp, fun j hj => by simp at hj⟩
  have e : hitsL [] t = [] := by
    apply List.eq_nil_of_length_eq_zero
    have := hitL_len [] (bs t) (bs t).length
    simpa [hitsL] using this
  have HC := fun w1 hb => hid (all_ok A 0 c [] t w1 hf ht ((H.out.below hb).mono (Below.size hb)))
  rw [e] at HC
  clear h
  go_enter Try.func5, Try.ntmps5
  go_wp2_with fail
  refine (mfact_any w).mono ?_
  rintro e w1 ⟨rfl, hb1⟩
  go_wp2_with fail
  refine (HC w1 hb1).out.mono ?_
  rintro e w2 ⟨A2, c2, rfl, _, hb2⟩
  go_wp2_with fail
  go_ret
  exact ⟨rfl, hb1.trans (hb2.mono hb1.size)⟩

set_option maxHeartbeats 4000000 in
theorem mfew_ok (A : Option Addr) (m c : Nat) (ws : List ByteArray) (t : ByteArray) (w : World) (hc : m + 1 ≤ c) (hf : Fine ws) (ht : t.size ≤ 24) (h : IsStrs w w.heap.size A (m + 1) ws) :
    Calls Try.prog 5 #[.slice A ((m + 1 : Nat)) c, .string t] w fun e w' => e = .returned (.bool true) ∧ Below w.heap.size w w' := by
  obtain ⟨i0, hi, hz0, hz1, hz2⟩ := info_parts hit_info
  obtain ⟨n, hnm⟩ : ∃ z, z = m + 1 := ⟨_, rfl⟩
  rw [← hnm] at h hc ⊢
  have hl : ws.length = n := h.1
  have hn6 := hf.1
  have hn : n ≤ 6 := by omega
  have hL := hitsL_len hf ht
  have HEQ := hid (oth_all ws t m (by omega))
  have H := hid h
  have HF := hid hf
  have HF2 := hid (fine_take hf m)
  have HL := hid hl
  have hn0 : ((n : Int) == 0) = false := beq_eq_false_iff_ne.2 (by omega)
  have hmi : (n : Int) - 1 = (m : Int) := by omega
  obtain ⟨g0, off0, rfl, hg0, hcw0⟩ := h.2 (by omega)
  have hcut : ∀ W : World, Sem.run Try.prog (Instr.slice 22 (.slice (some ⟨g0, off0, none⟩) n c) none (some (.int .i64 (m : Int))) none) W = .ok (.slice (some ⟨g0, off0, none⟩) m c) W := fun W => by
    have h1 := run_slice_h (P := Try.prog) W 22 (some ⟨g0, off0, none⟩) n c Try.underlying22 .i64 (m : Int) (by omega) (by omega)
    have h2 : Sem.run Try.prog (sizeOf (Try.prog.elem 22)) W = .ok 1 W := by
      rw [show Try.prog.elem 22 = 9 by kernel_rfl]
      exact Try.sizeOf9 W
    rw [h1, h2]
    simp [sliced, Addr.add, Result.andThen, show c ≠ 0 by omega]
  have hm1 : m < n := by omega
  clear h hf hl hn6 hcw0 hg0 hnm
  go_enter Try.func5, Try.ntmps5
  go_wp2_with fail
  refine (mfact_any w).mono ?_
  rintro e w1 ⟨rfl, hb1⟩
  have HC := hid (all_ok (some ⟨g0, off0, none⟩) n c ws t w1 HF.out ht ((H.out.below hb1).mono hb1.size))
  go_wp2_with fail
  refine HC.out.mono ?_
  rintro e w2 ⟨A2, c2, rfl, hI, hb2⟩
  have hb12 := hb1.trans (hb2.mono hb1.size)
  have HI := hid hI
  clear HC hb1 hb2 hI
  clear w1
  have HC := hid (all_ok (some ⟨g0, off0, none⟩) m c (ws.take m) t w2 HF2.out ht (((H.out.below hb12).mono hb12.size).take (by omega)))
  rw [HEQ.out] at HC
  obtain ⟨L, hLe⟩ : ∃ z, z = (hitsL ws t).length := ⟨_, rfl⟩
  rw [← hLe] at HI hL
  rw [← hLe]
  have HLE := hid hLe
  clear hLe
  go_wp2_with fail
  refine HC.out.mono ?_
  rintro e w3 ⟨A3, c3, rfl, hI3, hb3⟩
  have HI3 := hid hI3
  have hb13 := hb12.trans (hb3.mono hb12.size)
  have HI2 := hid (HI.out.on hb3)
  have hlm := othL_len (hitsL ws t) m
  obtain ⟨M, hM⟩ : ∃ z, z = (othL (hitsL ws t) m).length := ⟨_, rfl⟩
  rw [← hM] at HI3 hlm
  rw [← hM]
  have HM := hid hM
  clear HC hI3 HI hb3 hb12 hM
  clear w2
  go_wp2_with fail
  go_loopw [9, 10] (fun v y wr => ∃ j : Nat, j ≤ L ∧ y = .int .i64 j ∧ OwnH wr w3.heap.size 32 v (othL ((hitsL ws t).take j) m) ∧ Below w3.heap.size w3 wr) (fun _ y _ => L - (intOf y).toNat)
  case atStart => exact ⟨0, by omega, rfl, OwnH.nil _ _ _, Below.refl _ _⟩
  case round =>
    obtain ⟨j, hj, rfl, hown, hb⟩ := hrel
    have hsz := hb.size
    by_cases hlt : j < L
    · obtain ⟨g, off, rfl, hg, hcw⟩ := HI2.out.2 (by omega)
      obtain ⟨hc1, hc2⟩ := hcw j hlt
      have hd1 := (hb.cell (show g < w3.heap.size from hg)).trans hc1
      have hd2 := (hb.cell (show g < w3.heap.size from hg)).trans hc2
      clear hc1 hc2 hcw
      have hlen := othL_len ((hitsL ws t).take j) m
      rw [List.length_take] at hlen
      by_cases he : ((hitsL ws t).getD j (0, 0)).2 = m
      · have HE := hid (othL_no (by have := HLE.out; omega) he)
        rw [he] at hd2
        clear he
        generalize ((hitsL ws t).getD j (0, 0)).1 = a at hd1
        generalize othL ((hitsL ws t).take j) m = cs at hown HE hlen
        go_wp2_with fail
        go_roundw
        case rel => exact ⟨j + 1, by omega, by go_num, by rw [HE.out]; exact hown, hb⟩
        case measure => simp [intOf]; omega
      · have HE := hid (othL_yes (by have := HLE.out; omega) he)
        generalize (hitsL ws t).getD j (0, 0) = X at hd1 hd2 HE he
        have hq : ((X.2 : Int) != (m : Int)) = true := by simp; omega
        clear he
        generalize othL ((hitsL ws t).take j) m = cs at hown HE hlen
        go_wp2_with (at_builtin; refine wpList_append_hit _ rfl (.tmp 57) (.tmp 62) 24 rfl w3.heap.size 32 i0 Try.underlying24 hi hz0 hz1 hz2 _ cs rfl hown X rfl (by omega) (by omega) ?_)
        intro v' w6 hown6 hb6
        go_wp2_with fail
        go_roundw
        case rel => exact ⟨j + 1, by omega, by go_num, by rw [HE.out]; exact hown6, hb.trans hb6⟩
        case measure => simp [intOf]; omega
    · rw [List.take_of_length_le (by have := HLE.out; omega)] at hown
      obtain ⟨A4, c4, rfl, _, hI4⟩ := IsHits.of_own hown
      have HQ := hid (hits_ok A4 A3 _ c4 c3 (othL (hitsL ws t) m) wr _ _ (by have := HM.out; have := HLE.out; omega) hI4 (by have := HI3.out.below hb; rwa [HM.out] at this))
      rw [← HM.out] at HQ
      rw [← HM.out]
      clear hI4 hown
      go_wp2_with fail
      refine HQ.out.mono ?_
      rintro e w4 ⟨rfl, hb4⟩
      go_wp2_with fail
      go_ret
      have hb' := hb13.trans (hb.mono hb13.size)
      exact ⟨rfl, hb'.trans (hb4.mono hb'.size)⟩
theorem mfew_any (A : Option Addr) (n c : Nat) (ws : List ByteArray) (t : ByteArray) (w : World) (hn : n ≤ maxLen) (hs : ∀ i, i < n → (wat ws i).size ≤ maxLen) (ht : t.size ≤ maxLen) (hc : n ≤ c) (h : IsStrs w w.heap.size A n ws) :
    Calls Try.prog 5 #[.slice A n c, .string t] w fun e w' => e = .returned (.bool true) ∧ Below w.heap.size w w' := by
  rcases badM_or ws t with ⟨hf, h24⟩ | ⟨k, hk⟩
  · cases n with
    | zero =>
      obtain rfl := List.eq_nil_of_length_eq_zero h.1
      exact mfew_none A c t w h24 h
    | succ m => exact mfew_ok A m c ws t w hc hf h24 h
  · exact mfew_bad A n c ws t k w hn hs ht hk h
end Go.Proofs.Ytkdpdongiehelaa
