/-
  Contract of lempel.Write: the pieces of a text, in a slice of its own; the old memory stays as it was. Conditions: none but the sizes that a row itself sets.
-/
import Derived.Test.YtkpjflfhegejpaaLlong
import Derived.Test.YtkpjflfhegejpaaPinf
import Derived.Test.YtkpjflfhegejpaaOwnR
namespace Go.Proofs.Ytkpjflfhegejpaa
open Go.RowKit Go.Maps

theorem lwrite_full (s : ByteArray) (w : World) (h : 1000 < s.size) (hs : s.size ≤ maxLen) :
    Calls Try.prog 13 #[.string s] w fun e w' => e = .returned (.tuple #[.slice none 0 0, .iface 43 (.int .i64 4)]) ∧ Below w.heap.size w w' := by
  unfold maxLen at hs
  go_enter Try.func13, Try.ntmps13
  go_wp2
  go_ret2
  exact ⟨rfl, Below.refl _ _⟩

set_option maxHeartbeats 4000000 in
set_option maxRecDepth 100000 in
theorem lwrite_any (s : ByteArray) (w : World) (h : s.size ≤ 1000) :
    Calls Try.prog 13 #[.string s] w fun e w' => ∃ A c ps, e = .returned (.tuple #[.slice A (ps.length : Nat) c, .nilIface]) ∧ Wr [[]] (bs s) ps ∧ IsPcs w' w'.heap.size A ps.length (pcs ps) ∧ Below w.heap.size w w' := by
  obtain ⟨i0, hi, hz0, hz1, hz2⟩ := info_parts pieceI
  have hmm := @run_makeMap Try.prog
  have hd : ¬ 1000 < s.size := by omega
  obtain ⟨w1, hrun, hown1, hg1⟩ := (World.ownsMap_made (H := Unit) w Try.prog 9 (plainElem Try.prog 3)).update str_keyed Try.underlying50 (by unfold maxLen; omega) (key_str (s := ⟨#[]⟩) (show (0 : Nat) ≤ maxLen by unfold maxLen; omega)) (plainElem_int Try.underlying3 (a := 0) (WalkArith.wf_i64 (by omega)))
  have hb1 : Below w.heap.size w w1 := ((Below.refl _ _).alloc (Nat.le_refl _) _).grown hg1 (by simp) (fun j hj => by cases hj; exact Nat.le_refl _)
  have hsz1 : w.heap.size + 1 ≤ w1.heap.size := Nat.le_trans (by simp) hg1.size
  have HO1 := hid hown1
  clear hown1 hg1
  go_enter Try.func13, Try.ntmps13
  go_wp2_with fail
  clear hrun hmm
  go_loopw [6, 5] (fun x v wr => ∃ (r : ByteArray) (ps : List (Nat × UInt8)) (T : List (List UInt8)) (D : DataW Unit), x = .string r ∧ r.size ≤ s.size ∧ Hid (WSo s r ps T D) ∧ Hid (wr.ownsMap Try.prog 9 (plainElem Try.prog 3) w.heap.size (ps.length + 1) D) ∧ Hid (OwnX encP 2 wr (w.heap.size + 1) 53 v (pcs ps)) ∧ w.heap.size + 1 ≤ wr.heap.size ∧ Below w.heap.size w wr) (fun x _ _ => (strOf x).size)
  case atStart => exact ⟨s, [], [[]], _, rfl, Nat.le_refl _, hid (wso_start s), HO1, hid (OwnX.nil _ _ _ _ _), hsz1, hb1⟩
  case round =>
    clear HO1 hsz1 hb1
    obtain ⟨r, ps, T, D, rfl, hrs, HS, HM, HP, hsz, hbw⟩ := hrel
    by_cases hlt : 0 < r.size
    · obtain ⟨p, hp⟩ : ∃ p, r.size = p + 1 := ⟨r.size - 1, by omega⟩
      have hne := empty_not hlt
      have i1 : (r.size : Int) - 1 = (p : Int) := by omega
      have hpr : p ≤ r.size := by omega
      have hcut : ∀ W : World, Sem.run Try.prog (Instr.slice 9 (.string r) none (some (.int .i64 (p : Int))) none) W = .ok (.string (r.extract 0 p)) W := fun W =>
        run_slice_string_h W 9 r Try.underlying9 .i64 (p : Int) (by omega) (by omega)
      have hlast := bs_last hp
      obtain ⟨_, hcl, hz, hnd⟩ := HS.out.live hlt
      have HLG := hid (longest_any (r.extract 0 p) w.heap.size (ps.length + 1) D T wr (by rw [ByteArray.size_extract]; omega) HM.out hnd hcl hz)
      have HSTEP := fun L => hid (wso_step (rp := r.extract 0 p) (L := L) HS.out hlt hlast)
      have hpl : ps.length ≤ 1000 := by have := HS.out.room; omega
      clear hlast hcl hz hnd hp HS
      generalize r.extract 0 p = rp at hcut HLG HSTEP
      go_wp2_with fail
      refine HLG.out.mono ?_
      rintro e w2 ⟨⟨L, rfl, hL⟩, hw2⟩
      subst w2
      obtain ⟨hLr, k, hk, hat, hso⟩ := (HSTEP L).out hL
      have hsg : sg r L = r[L] := sg_eq r L hLr
      rw [hsg] at hso
      have HS2 := hid hso
      have hx0 : ∀ W : World, Sem.run Try.prog (Instr.slice 9 (.string r) none (some (.int .i64 (L : Int))) none) W = .ok (.string (r.extract 0 L)) W := fun W =>
        run_slice_string_h W 9 r Try.underlying9 .i64 (L : Int) (by omega) (by omega)
      have hx1 : ∀ W : World, Sem.run Try.prog (Instr.slice 9 (.string r) none (some (.int .i64 ((L : Int) + 1))) none) W = .ok (.string (r.extract 0 (L + 1))) W := fun W =>
        run_slice_string_h W 9 r Try.underlying9 .i64 ((L : Int) + 1) (by omega) (by omega)
      have hx2 : ∀ W : World, Sem.run Try.prog (Instr.slice 9 (.string r) (some (.int .i64 ((L : Int) + 1))) none none) W = .ok (.string (r.extract (L + 1) r.size)) W := fun W =>
        run_slice_string_l W 9 r Try.underlying9 .i64 ((L : Int) + 1) (by omega) (by omega)
      have hkey0 := key_str (s := r.extract 0 L) (by rw [ByteArray.size_extract]; unfold maxLen; omega)
      have hkey1 := key_str (s := r.extract 0 (L + 1)) (by rw [ByteArray.size_extract]; unfold maxLen; omega)
      have hrs2 : (r.extract (L + 1) r.size).size < r.size := by rw [ByteArray.size_extract]; omega
      have hmd : wr.drew.ownsMap Try.prog 9 (plainElem Try.prog 3) w.heap.size (ps.length + 1) D := HM.out
      have hpd : OwnX encP 2 wr.drew (w.heap.size + 1) 53 _ (pcs ps) := HP.out.drewN 1
      have HPD := hid hpd
      have HMD := hid hmd
      have hlook := look_num hmd str_keyed Try.underlying50 Try.underlying3 (zeroN _) hkey0 (hat _)
      have hlen : (pcs ps).length ≤ 1099511627776 := by rw [pcs_len]; omega
      clear hmd hpd hat hkey0 hso hsg HSTEP HLG hL hcut
      generalize r.extract 0 L = r0 at hx0 hlook
      have HS3 := hid HS2.out
      clear HS2
      obtain ⟨r2, hr2⟩ : ∃ z, z = r.extract (L + 1) r.size := ⟨_, rfl⟩
      obtain ⟨r1, hr1⟩ : ∃ z, z = r.extract 0 (L + 1) := ⟨_, rfl⟩
      rw [← hr2] at hx2 hrs2 HS3
      rw [← hr1] at hx1 hkey1 HS3
      have HVAL : ∀ M, M = ps.length + 1 → ((M : Int) ≤ 1001) ∧ Hid (WSo s r2 (ps ++ [(k, r[L])]) (T ++ [bs r1]) (D.put (keyS r1) (.lit (.int .i64 (M : Int))))) := fun M hM => ⟨by omega, hid (by rw [show (M : Int) = (ps.length : Int) + 1 by omega]; exact HS3.out)⟩
      clear hr1 hr2 HS3
      go_wp2_with fail
      go_region_law (refine step_append_x _ rfl (.tmp 24) (.tmp 34) 35 rfl (w.heap.size + 1) 53 i0 encP 2 _ 16 encP_len encP_one (by decide) (by decide) Try.underlying35 hi hz0 hz1 hz2 rfl _ (pcs ps) (by simp [Act.eval]) HPD.out ((k : Int), r[L]) (by simp [Act.eval]) hlen hsz ?_; intro v' w5 hown5 ht5)
      all_goals (
        have hm5 := map_stays HMD.out (ht5.block w.heap.size (by show w.heap.size < wr.heap.size; omega) fun e => by have := (HPD.out.lt e.symm).1; omega)
        have hb5 : Below w.heap.size w w5 := (below_drewN hbw 1).trans (ht5.below (B := w.heap.size) (by show w.heap.size ≤ wr.heap.size; omega) fun b hb => by have := (HPD.out.lt hb).1; omega)
        have hs5 : w.heap.size + 1 ≤ w5.heap.size := Nat.le_trans (show w.heap.size + 1 ≤ wr.drew.heap.size from hsz) ht5.size
        have hp5 : OwnX encP 2 w5 (w.heap.size + 1) 53 v' (pcs (ps ++ [(k, r[L])])) := by rw [pcs_app]; exact hown5
        have HP5 := hid hp5
        have hval := HVAL (pcs (ps ++ [(k, r[L])])).length (by rw [pcs_len, List.length_append]; rfl)
        obtain ⟨A, c, rfl, _, _⟩ := IsPcs.of_own hp5
        clear hown5 ht5 hp5
        generalize (pcs (ps ++ [(k, r[L])])).length = M at HP5 hval ⊢
        obtain ⟨hMI, HS4⟩ := hval
        go_wp2_with (at_mapUpdate; refine wpList_mapUpdate_own _ rfl _ _ _ 50 rfl 9 3 str_keyed Try.underlying50 _ w.heap.size (ps.length + 1) _ rfl hm5 (by unfold maxLen; omega) _ _ _ rfl rfl hkey1 _ [] (plainElem_int Try.underlying3 (WalkArith.wf_i64 (by omega))) ?_; intro w6 hm6 hg6)
        have HM6 := hid (show w6.ownsMap Try.prog 9 (plainElem Try.prog 3) w.heap.size ((ps ++ [(k, r[L])]).length + 1) _ by rw [List.length_append]; exact hm6)
        have HP6 := hid (HP5.out.keep (w' := w6) fun b hb => hg6.block b (HP5.out.lt hb).2 fun e => by have := (HP5.out.lt hb).1; have := Option.some.inj e; omega)
        have hs6 : w.heap.size + 1 ≤ w6.heap.size := Nat.le_trans hs5 hg6.size
        have hb6 := hb5.grown hg6 hb5.size (fun j hj => by cases hj; exact Nat.le_refl _)
        clear hm5 hm6 hg6 hb5 hs5 HP5
        go_roundw
        case rel => exact ⟨r2, _, _, _, rfl, by omega, HS4, HM6, HP6, hs6, hb6⟩
        case measure => exact hrs2)
    · have hz : bs r = [] := bs_zero (by omega)
      have he := empty_yes (s := r) (by omega)
      have HWR := hid (wso_end HS.out hz)
      obtain ⟨A, c, rfl, _, hI⟩ := IsPcs.of_own HP.out
      rw [pcs_len] at hI
      have HI := hid hI
      have HL := hid (pcs_len ps)
      clear hI hz HS HM HP hlt
      generalize (pcs ps).length = L at HL
      go_wp2_with fail
      go_ret2
      exact ⟨A, c, ps, by rw [HL.out]; rfl, HWR.out, HI.out, hbw⟩
end Go.Proofs.Ytkpjflfhegejpaa
