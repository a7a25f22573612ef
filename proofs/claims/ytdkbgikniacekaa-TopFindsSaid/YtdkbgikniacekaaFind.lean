/-
  Contracts of package find: extend and All answer the occurrences of the document, in new memory, and leave the old one alone. Conditions: none but the sizes that a row itself sets.
-/
import Derived.Test.YtdkbgikniacekaaEdgeOf
import Derived.Test.YtdkbgikniacekaaOcc
import Derived.Test.YtdkbgikniacekaaCheck
namespace Go.Proofs.Ytdkbgikniacekaa
open Go.RowKit

set_option maxHeartbeats 400000 in
theorem extend_any (u : ByteArray) (g cap : Nat) (c : UInt8) (f : Nat → UInt8) (i l0 : Nat) (w : World) (h0 : 0 < u.size) (hu : u.size ≤ 24) (hm : Mat f (sg u) u.size i l0) (hf : f i = c)
    (hc : ∀ j, j < u.size → w.cell? ⟨g, j, none⟩ = some (.int .i64 (lon (sg u) (j + 1) : Nat))) :
    Calls Try.prog 33 #[.string u, .slice (some ⟨g, 0, none⟩) u.size cap, .int .i64 l0, .int .u8 (c.toNat : Int)] w fun e w' =>
      ∃ l : Nat, e = .returned (.int .i64 l) ∧ Mat f (sg u) u.size (i + 1) l ∧ ∃ q, w' = w.drewN q := by
  have HC := hid hc
  have HF := hid hf
  have hst := hid (ex_start hm)
  have hl0 := hm.1
  clear hc hm hf
  go_enter Try.func33, Try.ntmps33
  go_wp2
  go_loopw [2] (fun v wr => ∃ l q : Nat, l ≤ u.size ∧ v = .int .i64 l ∧ Hid (Ex f (sg u) u.size i l) ∧ wr = w.drewN q) (fun v _ => (intOf v).toNat)
  case atStart => exact ⟨l0, 0, hl0, rfl, hst, rfl⟩
  case round =>
    obtain ⟨l, q, hl, rfl, HT, rfl⟩ := hrel
    clear hl0 hst
    by_cases hlm : l = u.size
    · have hpos : 0 < l := by omega
      have HR := hid (ex_step HT.out hpos (.inl hlm))
      have hcell := HC.out (l - 1) (by omega)
      have e1 : l - 1 + 1 = l := by omega
      rw [e1] at hcell
      have hll := lon_lt (f := sg u) hpos
      generalize lon (sg u) l = l' at hcell HR hll
      have hq : ((l : Int) == (u.size : Int)) = true := by simp [hlm]
      have hlt : l - 1 < u.size := by omega
      clear hlm e1 HT
      go_wp2
      go_roundw
      case rel => exact ⟨l', _, by omega, rfl, HR, by first | rfl | rw [World.drewN_drewN]⟩
      case measure => simp [intOf]; omega
    · have hlt : l < u.size := by omega
      have hq : ((l : Int) == (u.size : Int)) = false := beq_eq_false_iff_ne.2 (by omega)
      clear hlm
      by_cases he : sg u l = c
      · obtain ⟨hq1, hq2⟩ := byteC_eq u l c hlt he
        have HR := hid (ex_hit HT.out hlt (by rw [HF.out]; exact he))
        clear he
        by_cases hl0 : l = 0
        · subst hl0
          go_wp2
          go_ret
          exact ⟨1, ret_int (by go_num), HR.out, by first | exact ⟨_, rfl⟩ | (simp only [World.drewN_drewN]; exact ⟨_, rfl⟩)⟩
        · have hpos : 0 < l := by omega
          clear hl0
          go_wp2
          go_ret
          exact ⟨l + 1, ret_int (by go_num), HR.out, by first | exact ⟨_, rfl⟩ | (simp only [World.drewN_drewN]; exact ⟨_, rfl⟩)⟩
      · obtain ⟨hq1, hq2⟩ := byteC_ne u l c hlt he
        by_cases hl0 : l = 0
        · subst hl0
          have HR := hid (ex_miss HT.out (by rw [HF.out]; exact he))
          clear he
          go_wp2
          go_ret
          exact ⟨0, rfl, HR.out, by first | exact ⟨_, rfl⟩ | (simp only [World.drewN_drewN]; exact ⟨_, rfl⟩)⟩
        · have hpos : 0 < l := by omega
          have HR := hid (ex_step HT.out hpos (.inr (by rw [HF.out]; exact he)))
          have hcell := HC.out (l - 1) (by omega)
          have e1 : l - 1 + 1 = l := by omega
          rw [e1] at hcell
          have hll := lon_lt (f := sg u) hpos
          generalize lon (sg u) l = l' at hcell HR hll
          clear he hl0 e1 HT
          go_wp2
          go_roundw
          case rel => exact ⟨l', _, by omega, rfl, HR, by first | rfl | rw [World.drewN_drewN]⟩
          case measure => simp [intOf]; omega

theorem fall_bad (t u : ByteArray) (k : Int) (w : World) (h : BadW t u k) (ht : t.size ≤ maxLen) (hu : u.size ≤ maxLen) :
    Calls Try.prog 15 #[.string t, .string u] w fun e w' => e = .returned (.tuple #[.slice none 0 0, .iface 49 (.int .i64 k)]) ∧ w' = w := by
  have HQ := hid (check_bad t u k w h ht hu)
  clear h
  unfold maxLen at ht hu
  go_enter Try.func15, Try.ntmps15
  go_wp2_with fail
  refine HQ.out.mono ?_
  rintro e w' ⟨rfl, rfl⟩
  go_wp2
  go_ret2
  exact ⟨rfl, rfl⟩

set_option maxHeartbeats 800000 in
theorem fall_any (t u : ByteArray) (w : World) (h1 : t.size ≤ 24) (h2 : u.size ≤ 24) (h0 : 0 < u.size) :
    Calls Try.prog 15 #[.string t, .string u] w fun e w' => ∃ v, e = .returned (.tuple #[v, .nilIface]) ∧
      OwnI w' w.heap.size 3 v (occL t u) ∧ Below w.heap.size w w' := by
  obtain ⟨i0, hi, hz0, hz1, hz2⟩ := info_parts int_info
  have HQ := fun w => hid (check_ok t u w h1 h2 h0)
  have HO := fun w => hid (of_any u w h2)
  go_enter Try.func15, Try.ntmps15
  go_wp2_with fail
  refine (HQ _).out.mono ?_
  rintro e w' ⟨rfl, rfl⟩
  go_wp2_with fail
  refine (HO _).out.mono ?_
  rintro e w1 ⟨rfl, hown, hb⟩
  have hsz : w'.heap.size < w1.heap.size := (World.ownsRow.lt hown w'.heap.size rfl).2
  have HC : Hid (∀ j, j < u.size → w1.cell? ⟨w'.heap.size, j, none⟩ = some (.int .i64 (lon (sg u) (j + 1) : Nat))) := hid (by
    intro j hj
    unfold OwnI at hown
    rw [ofL_len] at hown
    rw [hown.cellAt j (by omega)]; simp [ofL, hj])
  clear hown HQ HO
  go_wp2
  go_loopw [9, 10, 28] (fun v m x wr => ∃ i l : Nat, i ≤ t.size ∧ l ≤ u.size ∧ m = .int .i64 l ∧ x = .int .i64 i ∧ Hid (Mat (sg t) (sg u) u.size i l) ∧ OwnI wr w1.heap.size 3 v (occTo (sg t) (sg u) t.size u.size (i + 1 - u.size)) ∧ Below w1.heap.size w1 wr) (fun _ _ x _ => t.size - (intOf x).toNat)
  case atStart => exact ⟨0, 0, by omega, by omega, rfl, rfl, hid (mat_start _ _ _), by rw [show 0 + 1 - u.size = 0 by omega, occTo_zero]; exact OwnI.nil _ _ _, Below.refl _ _⟩
  case round =>
    obtain ⟨i, l, hi1, hl1, rfl, rfl, HM, HO, hbw⟩ := hrel
    have hsz2 := hbw.size
    by_cases hlt : i < t.size
    · have HE := fun W hW => hid (extend_any u w'.heap.size u.size t[i] (sg t) i l W h0 h2 HM.out (sg_eq t i hlt) hW)
      have hlen := occTo_len (sg t) (sg u) t.size u.size (i + 1 - u.size)
      go_wp2_with fail
      refine (HE _ ?_).out.mono ?_
      · intro j hj
        rw [hbw.cell (by simpa using hsz)]; exact HC.out j hj
      rintro e w2 ⟨l2, rfl, hm2, q, rfl⟩
      have hl2 := hm2.1
      have HO := HO.drewN q
      have hbw := below_drewN hbw q
      have hsz2 := hbw.size
      generalize wr.drewN q = w2 at HO hbw hsz2 ⊢
      clear HE HM
      by_cases hfull : l2 = u.size
      · have HM2 : Hid (Mat (sg t) (sg u) u.size (i + 1) u.size) := hid (by rw [hfull] at hm2; exact hm2)
        have HX := hid (occ_hit HM2.out hlt h0)
        subst hfull
        generalize occTo (sg t) (sg u) t.size u.size (i + 1 - u.size) = cs at HO HX hlen
        clear hm2
        go_wp2_with (at_builtin; refine wpList_append_int _ rfl (.tmp 42) (.tmp 48) 23 rfl w1.heap.size 3 i0 Try.underlying23 hi hz0 hz1 hz2 _ cs rfl HO ((i : Int) + 1 - u.size) rfl (by omega) (by omega) ?_)
        intro v' w3 hown3 hb3
        go_wp2
        go_roundw
        case rel => exact ⟨i + 1, u.size, by omega, by omega, rfl, by go_num, HM2, by rw [HX.out]; exact hown3, hbw.trans hb3⟩
        case measure => simp [intOf]; omega
      · have HX := hid (occ_miss (n := t.size) hm2 hfull)
        have hq : ((l2 : Int) == (u.size : Int)) = false := beq_eq_false_iff_ne.2 (by omega)
        have HM2 := hid hm2
        clear hm2 hfull
        go_wp2
        go_roundw
        case rel => exact ⟨i + 1, l2, by omega, by omega, rfl, by go_num, HM2, by rw [HX.out]; exact HO, hbw⟩
        case measure => simp [intOf]; omega
    · have he : i = t.size := by omega
      have hx : occTo (sg t) (sg u) t.size u.size (i + 1 - u.size) = occL t u := by rw [he, occTo_end h0]; rfl
      rw [hx] at HO
      clear hx HM
      go_wp2
      go_ret2
      exact ⟨_, rfl, HO.base (by omega), hb.trans (hbw.mono (by omega))⟩
end Go.Proofs.Ytdkbgikniacekaa
