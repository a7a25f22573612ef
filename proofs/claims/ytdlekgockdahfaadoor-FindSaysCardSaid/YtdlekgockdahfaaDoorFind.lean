/-
  Contracts of package find: Check, extend, All and Apart answer the occurrences of the document, in new memory, and leave the old one alone. Conditions: none but the sizes that a row itself sets.
-/
import Derived.Test.YtdlekgockdahfaaDoorEdgeOf
import Derived.Test.YtdlekgockdahfaaDoorOcc
import Derived.Test.YtdlekgockdahfaaDoorStr
namespace Go.Proofs.YtdlekgockdahfaaDoor
open Go.RowKit

/-- A search that is told an error, and which one. -/
def BadW (t u : ByteArray) (k : Int) : Prop := (k = 4 ∧ (24 < t.size ∨ 24 < u.size)) ∨ (k = 5 ∧ t.size ≤ 24 ∧ u.size = 0)
theorem bad_or (t u : ByteArray) : (t.size ≤ 24 ∧ u.size ≤ 24 ∧ 0 < u.size) ∨ ∃ k, BadW t u k := by
  by_cases h1 : t.size ≤ 24
  · by_cases h2 : u.size ≤ 24
    · by_cases h0 : 0 < u.size
      · exact .inl ⟨h1, h2, h0⟩
      · exact .inr ⟨5, .inr ⟨rfl, h1, by omega⟩⟩
    · exact .inr ⟨4, .inl ⟨rfl, .inr (by omega)⟩⟩
  · exact .inr ⟨4, .inl ⟨rfl, .inl (by omega)⟩⟩

theorem empty_no {u : ByteArray} (h : 0 < u.size) : u.toList.isEmpty = false := by
  have : u.toList.length = u.size := by rw [ByteArray.toList_eq, Array.length_toList]; rfl
  cases e : u.toList with
  | nil => rw [e] at this; simp at this; omega
  | cons => rfl
theorem check_ok (t u : ByteArray) (w : World) (h1 : t.size ≤ 24) (h2 : u.size ≤ 24) (h0 : 0 < u.size) :
    Calls Tryd.prog 6 #[.string t, .string u] w fun e w' => e = .returned .nilIface ∧ w' = w := by
  have hq : u.toList.isEmpty = false := empty_no h0
  go_enter Tryd.func6, Tryd.ntmps6
  go_wp2
  go_ret
  exact ⟨rfl, rfl⟩
theorem check_none (t u : ByteArray) (w : World) (h1 : t.size ≤ 24) (h0 : u.size = 0) :
    Calls Tryd.prog 6 #[.string t, .string u] w fun e w' => e = .returned (.iface 35 (.int .i64 5)) ∧ w' = w := by
  have e : u = ⟨#[]⟩ := text_eq _ _ h0 fun i hi => by omega
  subst e
  go_enter Tryd.func6, Tryd.ntmps6
  go_wp2
  go_ret
  exact ⟨rfl, rfl⟩
theorem check_full (t u : ByteArray) (w : World) (h : 24 < t.size ∨ 24 < u.size) (ht : t.size ≤ maxLen) (hu : u.size ≤ maxLen) :
    Calls Tryd.prog 6 #[.string t, .string u] w fun e w' => e = .returned (.iface 35 (.int .i64 4)) ∧ w' = w := by
  unfold maxLen at ht hu
  by_cases h1 : 24 < t.size
  · clear h
    go_enter Tryd.func6, Tryd.ntmps6
    go_wp2
    go_ret
    exact ⟨rfl, rfl⟩
  · have h2 : 24 < u.size := by omega
    have h1 : t.size ≤ 24 := by omega
    clear h
    go_enter Tryd.func6, Tryd.ntmps6
    go_wp2
    go_ret
    exact ⟨rfl, rfl⟩
theorem check_bad (t u : ByteArray) (k : Int) (w : World) (h : BadW t u k) (ht : t.size ≤ maxLen) (hu : u.size ≤ maxLen) :
    Calls Tryd.prog 6 #[.string t, .string u] w fun e w' => e = .returned (.iface 35 (.int .i64 k)) ∧ w' = w := by
  rcases h with ⟨rfl, h⟩ | ⟨rfl, h1, h2⟩
  · exact check_full t u w h ht hu
  · exact check_none t u w h1 h2

theorem byteC_eq (s : ByteArray) (a : Nat) (c : UInt8) (ha : a < s.size) (h : sg s a = c) : ((s[a].toNat : Int) == (c.toNat : Int)) = true ∧ ((s[a].toNat : Int) != (c.toNat : Int)) = false := by
  rw [sg_eq s a ha] at h; simp [h]
theorem byteC_ne (s : ByteArray) (a : Nat) (c : UInt8) (ha : a < s.size) (h : sg s a ≠ c) : ((s[a].toNat : Int) == (c.toNat : Int)) = false ∧ ((s[a].toNat : Int) != (c.toNat : Int)) = true := by
  rw [sg_eq s a ha] at h; simpa using byte_apart h

set_option maxHeartbeats 400000 in
theorem extend_any (u : ByteArray) (g cap : Nat) (c : UInt8) (f : Nat → UInt8) (i l0 : Nat) (w : World) (h0 : 0 < u.size) (hu : u.size ≤ 24) (hm : Mat f (sg u) u.size i l0) (hf : f i = c)
    (hc : ∀ j, j < u.size → w.cell? ⟨g, j, none⟩ = some (.int .i64 (lon (sg u) (j + 1) : Nat))) :
    Calls Tryd.prog 14 #[.string u, .slice (some ⟨g, 0, none⟩) u.size cap, .int .i64 l0, .int .u8 (c.toNat : Int)] w fun e w' =>
      ∃ l : Nat, e = .returned (.int .i64 l) ∧ Mat f (sg u) u.size (i + 1) l ∧ ∃ q, w' = w.drewN q := by
  have HC := hid hc
  have HF := hid hf
  have hst := hid (ex_start hm)
  have hl0 := hm.1
  clear hc hm hf
  go_enter Tryd.func14, Tryd.ntmps14
  go_wp2
  go_loopw [2] (fun v wr => ∃ l q : Nat, l ≤ u.size ∧ v = .int .i64 l ∧ Hid (Ex f (sg u) u.size i l) ∧ wr = w.drewN q) (fun v _ => (intOf v).toNat)
  case atStart => exact ⟨l0, 0, hl0, rfl, hst, rfl⟩
  case round =>
    obtain ⟨l, q, hl, rfl, HT, rfl⟩ := hrel
    clear hl0 hst
    by_cases hlm : l = u.size
    · have hpos : 0 < l := by omega
      have HR := hid (ex_step HT.out hpos (.inl hlm))
      have hcell := HC.out (l - 1) (by omega)
      have e1 : l - 1 + 1 = l := by omega
      rw [e1] at hcell
      have hll := lon_lt (f := sg u) hpos
      generalize lon (sg u) l = l' at hcell HR hll
      have hq : ((l : Int) == (u.size : Int)) = true := by simp [hlm]
      have hlt : l - 1 < u.size := by omega
      clear hlm e1 HT
      go_wp2
      go_roundw
      case rel => exact ⟨l', _, by omega, rfl, HR, by first | rfl | rw [World.drewN_drewN]⟩
      case measure => simp [intOf]; omega
    · have hlt : l < u.size := by omega
      have hq : ((l : Int) == (u.size : Int)) = false := beq_eq_false_iff_ne.2 (by omega)
      clear hlm
      by_cases he : sg u l = c
      · obtain ⟨hq1, hq2⟩ := byteC_eq u l c hlt he
        have HR := hid (ex_hit HT.out hlt (by rw [HF.out]; exact he))
        clear he
        by_cases hl0 : l = 0
        · subst hl0
          go_wp2
          go_ret
          exact ⟨1, ret_int (by go_num), HR.out, by first | exact ⟨_, rfl⟩ | (simp only [World.drewN_drewN]; exact ⟨_, rfl⟩)⟩
        · have hpos : 0 < l := by omega
          clear hl0
          go_wp2
          go_ret
          exact ⟨l + 1, ret_int (by go_num), HR.out, by first | exact ⟨_, rfl⟩ | (simp only [World.drewN_drewN]; exact ⟨_, rfl⟩)⟩
      · obtain ⟨hq1, hq2⟩ := byteC_ne u l c hlt he
        by_cases hl0 : l = 0
        · subst hl0
          have HR := hid (ex_miss HT.out (by rw [HF.out]; exact he))
          clear he
          go_wp2
          go_ret
          exact ⟨0, rfl, HR.out, by first | exact ⟨_, rfl⟩ | (simp only [World.drewN_drewN]; exact ⟨_, rfl⟩)⟩
        · have hpos : 0 < l := by omega
          have HR := hid (ex_step HT.out hpos (.inr (by rw [HF.out]; exact he)))
          have hcell := HC.out (l - 1) (by omega)
          have e1 : l - 1 + 1 = l := by omega
          rw [e1] at hcell
          have hll := lon_lt (f := sg u) hpos
          generalize lon (sg u) l = l' at hcell HR hll
          clear he hl0 e1 HT
          go_wp2
          go_roundw
          case rel => exact ⟨l', _, by omega, rfl, HR, by first | rfl | rw [World.drewN_drewN]⟩
          case measure => simp [intOf]; omega

theorem fall_bad (t u : ByteArray) (k : Int) (w : World) (h : BadW t u k) (ht : t.size ≤ maxLen) (hu : u.size ≤ maxLen) :
    Calls Tryd.prog 8 #[.string t, .string u] w fun e w' => e = .returned (.tuple #[.slice none 0 0, .iface 35 (.int .i64 k)]) ∧ w' = w := by
  have HQ := hid (check_bad t u k w h ht hu)
  clear h
  unfold maxLen at ht hu
  go_enter Tryd.func8, Tryd.ntmps8
  go_wp2_with fail
  refine HQ.out.mono ?_
  rintro e w' ⟨rfl, rfl⟩
  go_wp2
  go_ret2
  exact ⟨rfl, rfl⟩

set_option maxHeartbeats 800000 in
theorem fall_any (t u : ByteArray) (w : World) (h1 : t.size ≤ 24) (h2 : u.size ≤ 24) (h0 : 0 < u.size) :
    Calls Tryd.prog 8 #[.string t, .string u] w fun e w' => ∃ v, e = .returned (.tuple #[v, .nilIface]) ∧
      OwnI w' w.heap.size 3 v (occL t u) ∧ Below w.heap.size w w' := by
  obtain ⟨i0, hi, hz0, hz1, hz2⟩ := info_parts int_info
  have HQ := fun w => hid (check_ok t u w h1 h2 h0)
  have HO := fun w => hid (of_any u w h2)
  go_enter Tryd.func8, Tryd.ntmps8
  go_wp2_with fail
  refine (HQ _).out.mono ?_
  rintro e w' ⟨rfl, rfl⟩
  go_wp2_with fail
  refine (HO _).out.mono ?_
  rintro e w1 ⟨rfl, hown, hb⟩
  have hsz : w'.heap.size < w1.heap.size := (World.ownsRow.lt hown w'.heap.size rfl).2
  have HC : Hid (∀ j, j < u.size → w1.cell? ⟨w'.heap.size, j, none⟩ = some (.int .i64 (lon (sg u) (j + 1) : Nat))) := hid (by
    intro j hj
    unfold OwnI at hown
    rw [ofL_len] at hown
    rw [hown.cellAt j (by omega)]; simp [ofL, hj])
  clear hown HQ HO
  go_wp2
  go_loopw [9, 10, 28] (fun v m x wr => ∃ i l : Nat, i ≤ t.size ∧ l ≤ u.size ∧ m = .int .i64 l ∧ x = .int .i64 i ∧ Hid (Mat (sg t) (sg u) u.size i l) ∧ OwnI wr w1.heap.size 3 v (occTo (sg t) (sg u) t.size u.size (i + 1 - u.size)) ∧ Below w1.heap.size w1 wr) (fun _ _ x _ => t.size - (intOf x).toNat)
  case atStart => exact ⟨0, 0, by omega, by omega, rfl, rfl, hid (mat_start _ _ _), by rw [show 0 + 1 - u.size = 0 by omega, occTo_zero]; exact OwnI.nil _ _ _, Below.refl _ _⟩
  case round =>
    obtain ⟨i, l, hi1, hl1, rfl, rfl, HM, HO, hbw⟩ := hrel
    have hsz2 := hbw.size
    by_cases hlt : i < t.size
    · have HE := fun W hW => hid (extend_any u w'.heap.size u.size t[i] (sg t) i l W h0 h2 HM.out (sg_eq t i hlt) hW)
      have hlen := occTo_len (sg t) (sg u) t.size u.size (i + 1 - u.size)
      go_wp2_with fail
      refine (HE _ ?_).out.mono ?_
      · intro j hj
        rw [hbw.cell (by simpa using hsz)]; exact HC.out j hj
      rintro e w2 ⟨l2, rfl, hm2, q, rfl⟩
      have hl2 := hm2.1
      have HO := HO.drewN q
      have hbw := below_drewN hbw q
      have hsz2 := hbw.size
      generalize wr.drewN q = w2 at HO hbw hsz2 ⊢
      clear HE HM
      by_cases hfull : l2 = u.size
      · have HM2 : Hid (Mat (sg t) (sg u) u.size (i + 1) u.size) := hid (by rw [hfull] at hm2; exact hm2)
        have HX := hid (occ_hit HM2.out hlt h0)
        subst hfull
        generalize occTo (sg t) (sg u) t.size u.size (i + 1 - u.size) = cs at HO HX hlen
        clear hm2
        go_wp2_with (at_builtin; refine wpList_append_int _ rfl (.tmp 42) (.tmp 48) 27 rfl w1.heap.size 3 i0 Tryd.underlying27 hi hz0 hz1 hz2 _ cs rfl HO ((i : Int) + 1 - u.size) rfl (by omega) (by omega) ?_)
        intro v' w3 hown3 hb3
        go_wp2
        go_roundw
        case rel => exact ⟨i + 1, u.size, by omega, by omega, rfl, by go_num, HM2, by rw [HX.out]; exact hown3, hbw.trans hb3⟩
        case measure => simp [intOf]; omega
      · have HX := hid (occ_miss (n := t.size) hm2 hfull)
        have hq : ((l2 : Int) == (u.size : Int)) = false := beq_eq_false_iff_ne.2 (by omega)
        have HM2 := hid hm2
        clear hm2 hfull
        go_wp2
        go_roundw
        case rel => exact ⟨i + 1, l2, by omega, by omega, rfl, by go_num, HM2, by rw [HX.out]; exact HO, hbw⟩
        case measure => simp [intOf]; omega
    · have he : i = t.size := by omega
      have hx : occTo (sg t) (sg u) t.size u.size (i + 1 - u.size) = occL t u := by rw [he, occTo_end h0]; rfl
      rw [hx] at HO
      clear hx HM
      go_wp2
      go_ret2
      exact ⟨_, rfl, HO.base (by omega), hb.trans (hbw.mono (by omega))⟩

theorem apart_bad (t u : ByteArray) (k : Int) (w : World) (h : BadW t u k) (ht : t.size ≤ maxLen) (hu : u.size ≤ maxLen) :
    Calls Tryd.prog 10 #[.string t, .string u] w fun e w' => e = .returned (.tuple #[.int .i64 0, .iface 35 (.int .i64 k)]) ∧ w' = w := by
  have HQ := hid (fall_bad t u k w h ht hu)
  clear h
  unfold maxLen at ht hu
  go_enter Tryd.func10, Tryd.ntmps10
  go_wp2_with fail
  refine HQ.out.mono ?_
  rintro e w' ⟨rfl, rfl⟩
  go_wp2
  go_ret2
  exact ⟨rfl, rfl⟩

theorem take_next {xs : List Int} {k : Nat} (h : k < xs.length) : xs.take (k + 1) = xs.take k ++ [xs.getD k 0] := by
  rw [List.take_succ_eq_append_getElem h]; simp [List.getD_eq_getElem?_getD, h]

set_option maxHeartbeats 800000 in
theorem apart_any (t u : ByteArray) (w : World) (h1 : t.size ≤ 24) (h2 : u.size ≤ 24) (h0 : 0 < u.size) :
    Calls Tryd.prog 10 #[.string t, .string u] w fun e w' => e = .returned (.tuple #[.int .i64 (apL u.size (occL t u)).1, .nilIface]) ∧ Below w.heap.size w w' := by
  have HQ := fun w => hid (fall_any t u w h1 h2 h0)
  have hlen := occL_len t u
  have HB : Hid (∀ i, i < (occL t u).length → 0 ≤ (occL t u).getD i 0 ∧ (occL t u).getD i 0 ≤ 24) := hid fun i hi => by
    obtain ⟨p, e, hp, _⟩ := occ_at hi
    omega
  generalize occL t u = xs at HQ HB hlen
  go_enter Tryd.func10, Tryd.ntmps10
  go_wp2_with fail
  refine (HQ _).out.mono ?_
  rintro e w1 ⟨v, rfl, hown, hb⟩
  obtain ⟨A, c, rfl, _, hI⟩ := IsInts.of_own hown
  have HI := hid hI
  clear hown HQ hI
  go_wp2
  go_loopw [8, 9, 23] (fun a b x wr => ∃ (k q : Nat) (c e : Int), k ≤ xs.length ∧ a = .int .i64 c ∧ b = .int .i64 e ∧ x = .int .i64 k ∧ 0 ≤ c ∧ c ≤ k ∧ 0 ≤ e ∧ e ≤ 48 ∧ Hid (apL u.size (xs.take k) = (c, e)) ∧ wr = w1.drewN q) (fun _ _ x _ => xs.length - (intOf x).toNat)
  case atStart => exact ⟨0, 0, 0, 0, by omega, rfl, rfl, rfl, by omega, by omega, by omega, by omega, hid (by simp [apL_nil]), rfl⟩
  case round =>
    obtain ⟨k, q, cc, ee, hk, rfl, rfl, rfl, hc0, hc1, he0, he1, HS, rfl⟩ := hrel
    by_cases hlt : k < xs.length
    · obtain ⟨g, off, rfl, _, hca⟩ := HI.out.2 (by omega)
      have hx := hca k hlt
      obtain ⟨hx0, hx1⟩ := HB.out k hlt
      have HN := hid (take_next hlt)
      generalize xs.getD k 0 = X at hx hx0 hx1 HN
      clear hca
      by_cases hge : ee ≤ X
      · have HR : Hid (apL u.size (xs.take (k + 1)) = (cc + 1, X + u.size)) := hid (by rw [HN.out, apL_yes (by rw [HS.out]; exact hge), HS.out])
        clear HS HN
        go_wp2
        go_roundw
        case rel => exact ⟨k + 1, _, cc + 1, X + u.size, by omega, by go_num, by go_num, by go_num, by omega, by omega, by omega, by omega, HR, by first | rfl | rw [World.drewN_drewN]⟩
        case measure => simp [intOf]; omega
      · have HR : Hid (apL u.size (xs.take (k + 1)) = (cc, ee)) := hid (by rw [HN.out, apL_no (by rw [HS.out]; exact hge), HS.out])
        have hge : X < ee := by omega
        clear HS HN
        go_wp2
        go_roundw
        case rel => exact ⟨k + 1, _, cc, ee, by omega, rfl, rfl, by go_num, by omega, by omega, by omega, by omega, HR, by first | rfl | rw [World.drewN_drewN]⟩
        case measure => simp [intOf]; omega
    · have HR : Hid (apL u.size xs = (cc, ee)) := hid (by have := HS.out; rwa [List.take_of_length_le (by omega)] at this)
      clear HS
      go_wp2
      go_ret2
      exact ⟨by have h := HR.out; simp only [h]; rfl, below_drewN hb _⟩
end Go.Proofs.YtdlekgockdahfaaDoor
