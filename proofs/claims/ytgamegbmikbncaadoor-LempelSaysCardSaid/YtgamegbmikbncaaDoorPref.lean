/-
  Contract of letterbeckref2.Pieces: the pieces of a text, in a slice of its own; the old memory stays as it was. Condition: a text of at most 1000 bytes.
-/
import Derived.Test.YtgamegbmikbncaaDoorBase
import Derived.Test.YtgamegbmikbncaaDoorBegl
import Derived.Test.YtgamegbmikbncaaDoorPmem
import Derived.Test.YtgamegbmikbncaaDoorLzr
import Derived.Test.YtgamegbmikbncaaDoorPinf
namespace Go.Proofs.YtgamegbmikbncaaDoor
open Go.RowKit

/-- What the search of the pieces has done: from r on, the texts ws, the pieces ps. -/
structure SoFar (s r : ByteArray) (ps : List (Nat × UInt8)) (ws : List ByteArray) : Prop where
  to_ : WrTo (bs s) (bs r) (ws.map bs) ps
  len : ws.length = ps.length + 1
  zero : (ws.map bs).getD 0 [] = []
  short : ∀ t ∈ ws, t.size ≤ s.size
  room : ps.length + r.size ≤ s.size
theorem soFar_start (s : ByteArray) : SoFar s s [] [ByteArray.empty] := ⟨wrTo_start _, rfl, rfl, fun t ht => by rw [List.mem_singleton.1 ht]; simp, by simp⟩
theorem soFar_step {s r : ByteArray} {ps : List (Nat × UInt8)} {ws : List ByteArray} {k n : Nat} (h : SoFar s r ps ws) (h0 : 0 < r.size) (hb : Bst (ws.map bs) (bs r).dropLast k) (hn : (ws.getD k ByteArray.empty).size = n) :
    n < r.size ∧ SoFar s (r.extract (n + 1) r.size) (ps ++ [(k, sg r n)]) (ws ++ [r.extract 0 (n + 1)]) := by
  have hne : bs r ≠ [] := fun e => by have := bs_len r; rw [e] at this; simp at this; omega
  have hl : ((ws.map bs).getD k []).length = n := by rw [map_bs_getD, bs_len, hn]
  have hlt := best_lt hne hb
  rw [hl, bs_len] at hlt
  have ht := wrTo_step h.to_ hne hb
  rw [hl] at ht
  have hr := h.room
  refine ⟨hlt, ?_, ?_, ?_, ?_, ?_⟩
  · have e1 : bs (r.extract (n + 1) r.size) = (bs r).drop (n + 1) := by rw [wb_ext, List.take_of_length_le (by rw [bs_len]; exact Nat.le_refl _)]
    have e2 : (ws ++ [r.extract 0 (n + 1)]).map bs = ws.map bs ++ [(bs r).take (n + 1)] := by
      rw [List.map_append, List.map_singleton, wb_ext, List.drop_zero]
    rw [e1, e2]
    exact ht
  · rw [List.length_append, List.length_append, h.len]; rfl
  · have : 0 < (ws.map bs).length := by rw [List.length_map, h.len]; omega
    rw [List.map_append, List.getD_eq_getElem?_getD, List.getElem?_append_left this, ← List.getD_eq_getElem?_getD]
    exact h.zero
  · intro t ht'
    rcases List.mem_append.1 ht' with h1 | h1
    · exact h.short t h1
    · rw [List.mem_singleton.1 h1, ByteArray.size_extract]; omega
  · rw [List.length_append, List.length_singleton, ByteArray.size_extract]; omega

set_option maxHeartbeats 4000000 in
set_option maxRecDepth 100000 in
theorem rpieces_any (s : ByteArray) (w : World) (h : s.size ≤ 1000) :
    Calls Tryd.prog 5 #[.string s] w fun e w' => ∃ A c ps, e = .returned (.slice A (ps.length : Nat) c) ∧ Wr [[]] (bs s) ps ∧ IsPcs w' w'.heap.size A ps.length (pcs ps) ∧ Below w.heap.size w w' := by
  obtain ⟨i0, hi, hz0, hz1, hz2⟩ := info_parts pieceI
  obtain ⟨j0, hj, hy0, hy1, hy2⟩ := info_parts textI
  go_enter Tryd.func5, Tryd.ntmps5
  go_wp2_with fail
  go_loopw [0, 3, 4] (fun x v u wr => ∃ (r : ByteArray) (ps : List (Nat × UInt8)) (ws : List ByteArray), x = .string r ∧ r.size ≤ s.size ∧ Hid (SoFar s r ps ws) ∧ Hid (OwnX encP 2 wr w.heap.size 39 v (pcs ps)) ∧ Hid (OwnX encS 1 wr w.heap.size 9 u ws) ∧ Hid (Apt v u) ∧ Below w.heap.size w wr) (fun x _ _ _ => (strOf x).size)
  case atStart => exact ⟨s, [], [ByteArray.empty], rfl, Nat.le_refl _, hid (soFar_start s), hid (OwnX.nil _ _ _ _ _), hid (OwnX.lit w _ _ [ByteArray.empty] _ rfl rfl (Nat.le_refl _) (by unfold maxLen; simp)), hid (Apt.nil _), (Below.refl _ _).alloc (Nat.le_refl _) _⟩
  case round =>
    obtain ⟨r, ps, ws, rfl, hrs, HS, HP, HW, HA, hbw⟩ := hrel
    obtain ⟨w0, hw0⟩ : ∃ z, z = wr := ⟨_, rfl⟩
    subst hw0
    by_cases hlt : 0 < r.size
    · obtain ⟨p, hp⟩ : ∃ p, r.size = p + 1 := ⟨r.size - 1, by omega⟩
      have hwl : 0 < ws.length := by rw [HS.out.len]; omega
      obtain ⟨g, c, rfl, hgb, hg, hcell⟩ := textsOf HW.out hwl
      have hwn : ws.length ≤ 1001 := by have := HS.out.len; have := HS.out.room; omega
      have i1 : (r.size : Int) - 1 = (p : Int) := by omega
      have hpr : p ≤ r.size := by omega
      have HCUT : ∀ W : World, Sem.run Tryd.prog (Instr.slice 9 (.string r) none (some (.int .i64 (p : Int))) none) W = .ok (.string (r.extract 0 p)) W := fun W =>
        run_slice_string_h W 9 r Tryd.underlying9 .i64 (p : Int) (by omega) (by omega)
      have HCELL := hid hcell
      have HLAST := hid (bs_last hp)
      clear hcell hp
      have HBS : Hid (BstTo (ws.map bs) (bs r).dropLast 0 0) := hid (bstTo_start (by rw [List.length_map]; exact hwl) HS.out.zero _)
      go_wp2_with fail
      go_loopw [5, 6] (fun b x wr => ∃ k j : Nat, j ≤ ws.length ∧ k < ws.length ∧ b = .int .i64 k ∧ x = .int .i64 j ∧ Hid (BstTo (ws.map bs) (bs r).dropLast j k) ∧ Hid (∃ q, wr = w0.drewN q)) (fun _ x _ => ws.length - (intOf x).toNat)
      case atStart => exact ⟨0, 0, by omega, hwl, rfl, rfl, HBS, hid ⟨0, rfl⟩⟩
      case round =>
        clear HBS
        obtain ⟨k, j, hjl, hkl, rfl, rfl, HB, HQ⟩ := hrel
        by_cases hj2 : j < ws.length
        · have cj : wr.cell? ⟨g, j, none⟩ = some (.string (ws.getD j ByteArray.empty)) := by obtain ⟨q, hq⟩ := HQ.out; rw [hq]; exact HCELL.out j hj2
          have ck : wr.cell? ⟨g, k, none⟩ = some (.string (ws.getD k ByteArray.empty)) := by obtain ⟨q, hq⟩ := HQ.out; rw [hq]; exact HCELL.out k hkl
          have hsj : (ws.getD j ByteArray.empty).size ≤ 1000 := by
            have := HS.out.short (ws.getD j ByteArray.empty) (by rw [List.getD_eq_getElem?_getD, List.getElem?_eq_getElem hj2]; exact List.getElem_mem hj2)
            omega
          have hsk : (ws.getD k ByteArray.empty).size ≤ 1000 := by
            have := HS.out.short (ws.getD k ByteArray.empty) (by rw [List.getD_eq_getElem?_getD, List.getElem?_eq_getElem hkl]; exact List.getElem_mem hkl)
            omega
          have HBJ := hid (show (ws.map bs).getD j [] = bs (ws.getD j ByteArray.empty) from map_bs_getD ws j)
          have HBK := hid (show (ws.map bs).getD k [] = bs (ws.getD k ByteArray.empty) from map_bs_getD ws k)
          have hcut := HCUT
          have HG := fun W => hid (begins_any (r.extract 0 p) (ws.getD j ByteArray.empty) W (by rw [ByteArray.size_extract]; omega) (by omega))
          have HIF := hid (begB_iff (s := r.extract 0 p) (t := ws.getD j ByteArray.empty))
          rw [HLAST.out] at HIF
          generalize ws.getD j ByteArray.empty = sj at cj hsj HBJ HG HIF
          generalize ws.getD k ByteArray.empty = sk at ck hsk HBK
          generalize r.extract 0 p = rp at hcut HG HIF
          clear HCUT
          obtain ⟨b, hb⟩ : ∃ b, b = begB rp sj := ⟨_, rfl⟩
          rw [← hb] at HG HIF
          clear hb
          by_cases htake : b = true ∧ sk.size < sj.size
          · obtain ⟨rfl, hl⟩ := htake
            have HB2 := hid (bstTo_take HB.out (by rw [List.length_map]; exact hj2) (by rw [HBJ.out]; exact HIF.out.1 rfl) (by rw [HBJ.out, HBK.out, bs_len, bs_len]; exact hl))
            clear HB HBJ HBK HIF
            go_wp2_with fail
            go_quiet ((go_at_call 11; exact Calls.quiet_of_same (HG _).out))
            go_wp2_with fail
            go_roundw
            case rel => exact ⟨j, j + 1, by omega, hj2, rfl, by go_num, HB2, hid (by obtain ⟨q, hq⟩ := HQ.out; rw [hq]; first | exact ⟨_, rfl⟩ | (simp only [World.drewN_drewN]; exact ⟨_, rfl⟩))⟩
            case measure => simp [intOf]; omega
          · have HB2 := hid (bstTo_keep HB.out (fun h => htake ⟨HIF.out.2 (by rw [← HBJ.out]; exact h.1), by have := h.2; rw [HBJ.out, HBK.out, bs_len, bs_len] at this; exact this⟩))
            have hway : b = false ∨ (b = true ∧ decide (sk.size < sj.size) = false) := by
              cases b with
              | false => exact .inl rfl
              | true => exact .inr ⟨rfl, by simpa using htake⟩
            clear HB HBJ HBK HIF htake
            rcases hway with rfl | ⟨rfl, hd⟩
            all_goals (
              go_wp2_with fail
              go_quiet ((go_at_call 11; exact Calls.quiet_of_same (HG _).out))
              go_wp2_with fail
              go_roundw
              case rel => exact ⟨k, j + 1, by omega, hkl, rfl, by go_num, HB2, hid (by obtain ⟨q, hq⟩ := HQ.out; rw [hq]; first | exact ⟨_, rfl⟩ | (simp only [World.drewN_drewN]; exact ⟨_, rfl⟩))⟩
              case measure => simp [intOf]; omega)
        · obtain rfl : j = ws.length := by omega
          obtain ⟨N, hN⟩ : ∃ N, (ws.getD k ByteArray.empty).size = N := ⟨_, rfl⟩
          have hbst : Bst (ws.map bs) (bs r).dropLast k := by
            have := HB.out
            rw [show ws.length = (ws.map bs).length by rw [List.length_map]] at this
            exact bstTo_end this
          obtain ⟨hNr, hso⟩ := soFar_step HS.out hlt hbst hN
          have HS2 := hid hso
          have ck : wr.cell? ⟨g, k, none⟩ = some (.string (ws.getD k ByteArray.empty)) := by obtain ⟨q, hq⟩ := HQ.out; rw [hq]; exact HCELL.out k hkl
          have hlen : (pcs ps).length ≤ 1099511627776 := by rw [pcs_len]; have := HS.out.room; omega
          obtain ⟨q, hq⟩ := HQ.out
          have hpieces := HP.out.drewN q
          have htexts := HW.out.drewN q
          rw [← hq] at hpieces htexts
          have hbr : Below w.heap.size w wr := by rw [hq]; exact below_drewN hbw q
          have HP1 := hid hpieces
          have HT1 := hid htexts
          have hsk : (ws.getD k ByteArray.empty).size ≤ 1000 := by omega
          generalize ws.getD k ByteArray.empty = sk at ck hN hsk
          have hx1 : ∀ W : World, Sem.run Tryd.prog (Instr.slice 9 (.string r) none (some (.int .i64 ((N : Int) + 1))) none) W = .ok (.string (r.extract 0 (N + 1))) W := fun W =>
            run_slice_string_h W 9 r Tryd.underlying9 .i64 ((N : Int) + 1) (by omega) (by omega)
          have hx2 : ∀ W : World, Sem.run Tryd.prog (Instr.slice 9 (.string r) (some (.int .i64 ((N : Int) + 1))) none none) W = .ok (.string (r.extract (N + 1) r.size)) W := fun W =>
            run_slice_string_l W 9 r Tryd.underlying9 .i64 ((N : Int) + 1) (by omega) (by omega)
          have hrs2 : (r.extract (N + 1) r.size).size < r.size := by rw [ByteArray.size_extract]; omega
          have hwlen : ws.length ≤ 1099511627776 := by omega
          have hsg : sg r N = r[N] := sg_eq r N hNr
          rw [hsg] at HS2
          have HS3 := hid (show SoFar s (r.extract (N + 1) r.size) (ps ++ [(k, r[N])]) (ws ++ [r.extract 0 (N + 1)]) from HS2.out)
          obtain ⟨r2, hr2⟩ : ∃ z, z = r.extract (N + 1) r.size := ⟨_, rfl⟩
          obtain ⟨r1, hr1⟩ : ∃ z, z = r.extract 0 (N + 1) := ⟨_, rfl⟩
          rw [← hr2] at hx2 hrs2 HS3
          rw [← hr1] at hx1 HS3
          clear hr1 hr2 hsg HS2 hso hbst HB HS HQ hq HP HW hpieces htexts HCELL HCUT HLAST hbw
          obtain ⟨wq, hwq⟩ : ∃ z, z = wr := ⟨_, rfl⟩
          subst hwq
          go_wp2_with (at_builtin; refine wpList_append_piece _ rfl (.tmp 47) (.tmp 53) 22 rfl w.heap.size 39 i0 Tryd.underlying22 hi hz0 hz1 hz2 _ (pcs ps) rfl HP1.out ((k : Int), r[N]) rfl hlen hbr.size ?_)
          intro v' w5 hown5 ht5
          have HA5 := hid (OwnX.turn HT1.out ht5 HA.out)
          have HO5 := hid (show OwnX encP 2 w5 w.heap.size 39 v' (pcs (ps ++ [(k, r[N])])) by rw [pcs_app]; exact hown5)
          have hb5 : Below w.heap.size w w5 := hbr.trans (ht5.below hbr.size fun b hb => (HP1.out.lt hb).1)
          clear hown5 ht5 HT1 HP1 HA
          go_wp2_with (at_builtin; refine wpList_append_text _ rfl (.tmp 55) (.tmp 60) 36 rfl w.heap.size 9 j0 Tryd.underlying36 hj hy0 hy1 hy2 _ ws rfl HA5.out.1 r1 rfl hwlen hb5.size ?_)
          intro u' w6 hown6 ht6
          have HA6 := hid (OwnX.turn HO5.out ht6 HA5.out.2.symm)
          have HO6 := hid hown6
          have hb6 : Below w.heap.size w w6 := hb5.trans (ht6.below hb5.size fun b hb => (HA5.out.1.lt hb).1)
          clear hown6 ht6 HO5 HA5
          go_wp2_with fail
          go_roundw
          case rel => exact ⟨r2, _, _, rfl, by omega, HS3, hid HA6.out.1, HO6, hid HA6.out.2.symm, hb6⟩
          case measure => exact hrs2
    · have hz : bs r = [] := bs_zero (by omega)
      have hw := HS.out.to_
      rw [hz] at hw
      have HWR := hid (wrTo_end hw)
      obtain ⟨A, c, rfl, _, hI⟩ := IsPcs.of_own HP.out
      rw [pcs_len] at hI
      have HI := hid hI
      have HL := hid (pcs_len ps)
      have hd : decide (0 < r.size) = false := by simpa using hlt
      clear hI hw HS HP HW HA hz hlt
      generalize (pcs ps).length = L at HL
      go_wp2_with fail
      go_ret
      exact ⟨A, c, ps, by rw [HL.out]; rfl, HWR.out, HI.out, hbw⟩
end Go.Proofs.YtgamegbmikbncaaDoor
