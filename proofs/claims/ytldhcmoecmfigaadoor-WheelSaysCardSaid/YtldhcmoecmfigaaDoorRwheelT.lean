/-
  Contract of letterbeckref2.Wheel: the last signs of a text's rotations in their order, and where the text is. Conditions: a text of at most 24 bytes.
-/
import Derived.Test.YtldhcmoecmfigaaDoorRwheel
import Derived.Test.YtldhcmoecmfigaaDoorOn
import Derived.Test.YtldhcmoecmfigaaDoorNats
namespace Go.Proofs.YtldhcmoecmfigaaDoor
open Go.RowKit

/-- One more last sign. -/
theorem lastT_step (l : List UInt8) {k : Nat} (h : k < l.length) (T : ByteArray) (hT : bs T = (wheelM l).getD k []) : txt ((wheelT l).take k) ++ T.extract (T.size - 1) T.size = txt ((wheelT l).take (k + 1)) := by
  apply bs_inj
  have hl := wheelM_rowlen h
  have hTs : T.size = l.length := by rw [← bs_len, hT, hl]
  rw [wb_app, bs_txt, bs_txt, wb_ext, ← bs_len T, List.take_length, hT, hl]
  have ht : k < (wheelT l).length := by rw [wheelT_len]; exact h
  rw [List.take_succ_eq_append_getElem ht]
  congr 1
  have : (wheelT l)[k] = ((wheelM l).getD k []).getLastD 0 := by
    simp only [wheelT, List.getElem_map]
    rw [getD_at _ (by rw [wheelM_len]; exact h)]
  rw [this]
  generalize (wheelM l).getD k [] = r at hl
  rw [List.getLastD_eq_getLast?, List.getLast?_eq_getElem?, hl, List.getElem?_eq_getElem (by omega)]
  rw [List.drop_eq_getElem_cons (by omega), List.drop_of_length_le (by omega)]
  rfl
/-- Where the text is, of the first k rotations. -/
def atK (l : List UInt8) (k : Nat) : Int := if wheelN l < k then (wheelN l : Int) else -1

set_option maxRecDepth 100000 in
set_option maxHeartbeats 1600000 in
theorem rwheel_any (s : ByteArray) (w : World) (h : s.size ≤ 24) :
    Calls Tryd.prog 5 #[.string s] w fun e w' => e = .returned (.tuple #[.string (txt (wheelT (bs s))), .int .i64 (wheelN (bs s) : Nat)]) ∧ Below w.heap.size w w' := by
  have H1 := fun W => hid (rturns_any s W (by omega))
  go_enter Tryd.func5, Tryd.ntmps5
  go_wp2_with fail
  refine (H1 _).out.mono ?_
  rintro e w1 ⟨v, rfl, hO, hb1⟩
  obtain ⟨A, c, rfl, hI⟩ := IsStrs.own hO (turnsT_len s s.size)
  have HI := hid hI
  have H2 := hid (rsort_any A s.size c (turnsT s s.size) w1 (by omega) (fun i hi => by rw [turnsT_at s hi, turn_size _ _ (by omega)]; omega) hI)
  clear hO hI H1
  go_wp2_with fail
  refine H2.out.mono ?_
  rintro e w2 ⟨v2, os, rfl, ⟨hSl, hol⟩, hO2, hb2⟩
  rw [turnsT_len] at hol
  obtain ⟨A2, c2, rfl, hI2⟩ := own_n hO2 (show (os.map fun i : Nat => (i : Int)).length = s.size by rw [List.length_map, hol])
  have HW := hid (sl_wheel hSl hol)
  have HB := hid (hb1.trans (hb2.mono hb1.size))
  have HOS := hid (show ∀ i, i < s.size → os.getD i 0 < s.size from fun i hi => by
    have := hSl.1 (os.getD i 0) (by rw [getD_at _ (by omega)]; exact List.getElem_mem _)
    rwa [turnsT_len] at this)
  have HOL := hid hol
  have HI1 := hid (show IsStrs w2 w2.heap.size A s.size (turnsT s s.size) from (HI.out.below hb2).mono hb2.size)
  have HI2 := hid hI2
  clear hSl hol hO2 hI2 hb1 hb2 H2 HI
  go_wp2_with fail
  go_loopw [6, 7, 8] (fun o a x wr => ∃ (i : Nat) (b : ByteArray) (z : Int), i ≤ s.size ∧ x = .int .i64 i ∧ o = .string b ∧ a = .int .i64 z ∧ Hid (b = txt ((wheelT (bs s)).take i)) ∧ Hid (z = atK (bs s) i) ∧ b.size ≤ i ∧ wr = w2) (fun _ _ x _ => s.size - (intOf x).toNat)
  case atStart => exact ⟨0, _, -1, by omega, rfl, rfl, rfl, hid (by rfl), hid (by simp [atK]), by exact Nat.le_refl _, rfl⟩
  case round =>
    obtain ⟨i, b, z, hi, rfl, rfl, rfl, HBB, HZ, hbs, rfl⟩ := hrel
    by_cases hlt : i < s.size
    · obtain ⟨g, off, rfl, hg, hcell⟩ := nats_at HI2.out (by omega)
      obtain ⟨g1, off1, rfl, hg1, hcell1⟩ := HI1.out.2 (by omega)
      have hx := hcell i hlt
      have hoi := HOS.out i hlt
      have hT := hcell1 (os.getD i 0) hoi
      rw [show (turnsT s s.size).getD (os.getD i 0) ByteArray.empty = turnS s (os.getD i 0) from turnsT_at s hoi] at hT
      have hTs : (turnS s (os.getD i 0)).size = s.size := turn_size _ _ (by omega)
      have hbT : bs (turnS s (os.getD i 0)) = (wheelM (bs s)).getD i [] := by
        have hio : i < os.length := by rw [HOL.out]; exact hlt
        rw [bs_turn, HW.out, getD_at 0 hio, getD_at [] (by rw [List.length_map]; exact hio), List.getElem_map]
      generalize turnS s (os.getD i 0) = T at hT hTs hbT
      generalize os.getD i 0 = y at hx hoi hT
      have hil : i < (bs s).length := by rw [bs_len]; exact hlt
      have HST : Hid (b ++ T.extract (T.size - 1) T.size = txt ((wheelT (bs s)).take (i + 1))) := hid (by rw [HBB.out]; exact lastT_step (bs s) hil T hbT)
      have hcut : ∀ W : World, Sem.run Tryd.prog (Instr.slice 9 (.string T) (some (.int .i64 ((T.size : Int) - 1))) none none) W = .ok (.string (T.extract (T.size - 1) T.size)) W := fun W => by
        have := run_slice_string_l (P := Tryd.prog) W 9 T Tryd.underlying9 .i64 ((T.size : Int) - 1) (by omega) (by omega)
        rw [show ((T.size : Int) - 1).toNat = T.size - 1 by omega] at this
        exact this
      have hxs : (T.extract (T.size - 1) T.size).size = 1 := by rw [ByteArray.size_extract]; omega
      generalize T.extract (T.size - 1) T.size = X at hcut hxs HST
      have hadd := fun w => run_string_add_sum (P := Tryd.prog) w b X (by omega)
      have hbx : (b ++ X).size ≤ i + 1 := by rw [size_join]; omega
      generalize b ++ X = b2 at hadd HST hbx
      have hTs' : T.size ≤ 24 := by omega
      have hT1 : 1 ≤ T.size := by omega
      have HTs := hid hTs
      clear hcell hcell1 hTs
      have hcase : (wheelN (bs s) < i ∧ z = (wheelN (bs s) : Int) ∧ atK (bs s) (i + 1) = z) ∨ (i = wheelN (bs s) ∧ z = -1 ∧ T = s ∧ atK (bs s) (i + 1) = i) ∨ (i < wheelN (bs s) ∧ z = -1 ∧ T ≠ s ∧ atK (bs s) (i + 1) = -1) := by
        rw [HZ.out]
        unfold atK
        rcases Nat.lt_trichotomy i (wheelN (bs s)) with hc | hc | hc
        · right; right
          refine ⟨hc, by rw [if_neg (by omega)], fun e => ?_, by rw [if_neg (by omega)]⟩
          exact wheelN_first (bs s) hc (by rw [← hbT, e])
        · right; left
          refine ⟨hc, by rw [if_neg (by omega)], bs_inj ?_, by rw [if_pos (by omega), ← hc]⟩
          rw [hbT, hc]
          exact (wheelN_here (by omega)).2
        · left
          exact ⟨hc, by rw [if_pos hc], by rw [if_pos (by omega), if_pos hc]⟩
      rcases hcase with ⟨hc, hz, hat⟩ | ⟨hc, hz, hTe, hat⟩ | ⟨hc, hz, hTe, hat⟩
      · have hz0 : ¬ z < 0 := by omega
        have hz1 : z ≤ 24 := by have := wheelN_le (bs s); rw [bs_len] at this; omega
        have HAT := hid hat
        clear hz hat HZ hc hbT HBB
        go_wp2_with fail
        go_roundw
        case rel => exact ⟨i + 1, b2, z, by omega, by go_num, rfl, rfl, HST, hid HAT.out.symm, hbx, by first | rfl | trivial⟩
        case measure => simp [intOf]; omega
      · have hq := same_yes hTe
        have HAT := hid hat
        subst hz
        clear hTe hat HZ hc hbT HBB
        go_wp2_with fail
        go_roundw
        case rel => exact ⟨i + 1, b2, i, by omega, by go_num, rfl, rfl, HST, hid HAT.out.symm, hbx, by first | rfl | trivial⟩
        case measure => simp [intOf]; omega
      · have hq := same_no hTe
        have HAT := hid hat
        subst hz
        clear hTe hat HZ hc hbT HBB
        go_wp2_with fail
        go_roundw
        case rel => exact ⟨i + 1, b2, -1, by omega, by go_num, rfl, rfl, HST, hid HAT.out.symm, hbx, by first | rfl | trivial⟩
        case measure => simp [intOf]; omega
    · obtain rfl : i = s.size := by omega
      have hlen : (wheelT (bs s)).length = s.size := by rw [wheelT_len, bs_len]
      have HX : Hid (b = txt (wheelT (bs s))) := hid (by rw [HBB.out, List.take_of_length_le (by omega)])
      have hcase : (¬ z < 0 ∧ z = (wheelN (bs s) : Int)) ∨ (z < 0 ∧ wheelN (bs s) = 0) := by
        rw [HZ.out]
        unfold atK
        rcases Nat.eq_zero_or_pos s.size with e | e
        · right
          rw [if_neg (by omega), bs_zero e]
          exact ⟨by omega, wheelN_nil⟩
        · left
          have := (wheelN_here (l := bs s) (by rw [bs_len]; exact e)).1
          rw [bs_len] at this
          rw [if_pos this]
          exact ⟨by omega, rfl⟩
      rcases hcase with ⟨h1, h2⟩ | ⟨h1, h2⟩
      · have HN := hid h2
        clear h2 HZ HBB hlen
        go_wp2_with fail
        go_ret2
        exact ⟨by rw [← HX.out, ← HN.out]; rfl, HB.out⟩
      · have HN := hid h2
        clear h2 HZ HBB hlen
        go_wp2_with fail
        go_ret2
        exact ⟨by rw [← HX.out, HN.out]; rfl, HB.out⟩
end Go.Proofs.YtldhcmoecmfigaaDoor
