/-
  Contracts of front.There and front.Back: the code of a text, and the text of a code; the old memory stays as it was. Conditions: none but the sizes that a row itself sets.
-/
import Derived.Test.YtceipfmdgpnagaaDoorFlist
import Derived.Test.YtceipfmdgpnagaaDoorBs
import Derived.Laws.IdiomStrings
namespace Go.Proofs.YtceipfmdgpnagaaDoor
open Go.RowKit

theorem fthere_long (s : ByteArray) (w : World) (h : 1000 < s.size) (hs : s.size ≤ maxLen) :
    Calls Tryd.prog 6 #[.string s] w fun e w' => e = .returned (.tuple #[.slice none 0 0, .iface 39 (.int .i64 4)]) ∧ w' = w := by
  unfold maxLen at hs
  go_enter Tryd.func6, Tryd.ntmps6
  go_wp2
  go_ret2
  exact ⟨rfl, rfl⟩

set_option maxRecDepth 100000 in
set_option maxHeartbeats 2000000 in
theorem fthere_any (s : ByteArray) (w : World) (h : s.size ≤ 1000) :
    Calls Tryd.prog 6 #[.string s] w fun e w' => ∃ A c, e = .returned (.tuple #[.slice A s.size c, .nilIface]) ∧ IsInts w' w'.heap.size A s.size (codF allB (bs s)) ∧ Below w.heap.size w w' := by
  obtain ⟨i0, hi, hz0, hz1, hz2⟩ := info_parts int_info
  have HN := hid (newList_any w)
  have hls := hid (bs_len s)
  go_enter Tryd.func6, Tryd.ntmps6
  go_wp2_with fail
  refine HN.out.mono ?_
  rintro e w1 ⟨D, L, rfl, hL, hD1, hL1, hb1⟩
  have HL := hid hL
  have hDw := lt_of_block hL.hd
  have hLw := BlkAt.lt hL.hl
  clear hL HN
  go_wp2_with (at_make; refine wpList_make_full _ rfl _ _ 22 rfl w1.heap.size 3 i0 (.int .i64 0) 1 Tryd.underlying22 hi hz0 hz1 _ _ _ _ s.size rfl rfl rfl rfl (by rw [hz2]; omega) (by unfold maxLen; omega) (by simp) ?_)
  intro w2 hown hgrow
  have HM := hid (NumAt.made hown)
  have hb2 : Below w1.heap.size w1 w2 := (Below.refl _ _).grown hgrow (by simp) (by simp)
  have HL2 := hid (HL.out.below hb2 (Nat.le_refl _))
  have hbw := hb1.trans (hb2.mono hb1.size)
  clear hown hgrow hi hz0 hz1 hz2 HL hb2
  have hC := hb1.size
  clear hb1
  generalize w1.heap.size = C at hDw hLw HM hC ⊢
  go_wp2_with fail
  go_loopw [21] (fun x wr => ∃ i : Nat, i ≤ s.size ∧ x = .int .i64 i ∧ Hid (LstB wr D L (rowT allB ((bs s).take i))) ∧ Hid (NumAt wr C 3 (partL 0 (codF allB (bs s)) s.size i)) ∧ Below w.heap.size w wr) (fun x _ => s.size - (intOf x).toNat)
  case atStart => exact ⟨0, by omega, rfl, HL2, hid (by rw [partL_zero]; exact HM.out), hbw⟩
  case round =>
    clear HL2 HM hbw
    obtain ⟨i, hin, rfl, HL, HM, hb⟩ := hrel
    by_cases hlt : i < s.size
    · have cK := HM.out.cell (k := i) (by rw [partL_len]; exact hlt)
      have fK := BlkAt.frozen HM.out i
      generalize (partL 0 (codF allB (bs s)) s.size i).getD i 0 = C0 at cK
      have hsg : (bs s).getD i 0 = s[i] := by rw [bs_sg, sg_eq s i hlt]
      have hli : i < (bs s).length := by rw [hls.out]; exact hlt
      have hat := codF_at allB (bs s) i hli
      have hrow := rowT_snoc allB ((bs s).take i) ((bs s).getD i 0)
      rw [← take_snoc (bs s) i hli] at hrow
      rw [hsg] at hat hrow
      have hst := HM.out.stored i ((codF allB (bs s)).getD i 0)
      rw [partL_set, hat] at hst
      have hidx := HL.out.full.idx (s[i]'hlt)
      have HI := hid (indexOf_fn D L _ (s[i]'hlt) _ HL.out)
      have HROW := hid hrow
      generalize rowT allB ((bs s).take i) = R at HL HI hst hidx HROW
      generalize R.idxOf (s[i]'hlt) = K at HI hst hidx HROW
      have HST := hid hst
      have HL3 := hid (HL.out.only hst.2 (by omega) (by omega))
      have HT := hid (take_fn D L K R _ HL3.out hidx)
      clear hst hat hrow hsg hli HM
      go_wp2_with fail
      refine HI.out.mono ?_
      rintro e w5 ⟨rfl, hw5⟩
      subst w5
      clear HI
      go_wp2_with fail
      refine HT.out.mono ?_
      rintro e w6 ⟨rfl, hL6, hO6⟩
      have HL6 := hid hL6
      clear hL6 HT
      have hCs := hid ((hO6.block C (by omega)).trans HST.out.1)
      have hb6 : Below w.heap.size w w6 := (hb.trans (HST.out.2.below hC)).trans (hO6.below hL1)
      clear hb hO6 HST HL3 HL
      go_wp2_with fail
      go_roundw
      case rel => exact ⟨i + 1, by omega, by go_num, hid (by rw [HROW.out]; exact HL6.out), hCs, hb6⟩
      case measure => simp [intOf]; omega
    · obtain rfl : i = s.size := by omega
      have hm := HM.out
      rw [partL_all 0 (codF allB (bs s)) s.size (by rw [codF_len, hls.out])] at hm
      have HI := hid (hm.ints (n := s.size) (by rw [codF_len, hls.out]))
      clear hm HM HL
      go_wp2_with fail
      go_ret2
      exact ⟨_, _, rfl, HI.out, hb⟩

theorem fback_long (A : Option Addr) (n c : Nat) (w : World) (h : 1000 < n) (hn : n ≤ maxLen) :
    Calls Tryd.prog 11 #[.slice A n c] w fun e w' => e = .returned (.tuple #[.string ByteArray.empty, .iface 39 (.int .i64 4)]) ∧ w' = w := by
  unfold maxLen at hn
  go_enter Tryd.func11, Tryd.ntmps11
  go_wp2
  go_ret2
  exact ⟨rfl, rfl⟩
/-- 'string(b)', b a block of its own. -/
theorem conv_row {w : World} {g n c : Nat} {xs : List UInt8} (h : RowAt w g 5 xs) (hn : xs.length = n) : (convert 36 9 (.slice (some ⟨g, 0, none⟩) n c)).run Tryd.prog w = .ok (.string (txt xs)) w := by
  subst hn
  exact run_convert_bytes_back (P := Tryd.prog) w 36 9 5 ⟨g, 0, none⟩ c xs Tryd.underlying36 Tryd.underlying5 Tryd.underlying9 (fun j hj => by
    rw [show Addr.add ⟨g, 0, none⟩ j = ⟨g, j, none⟩ by by_cases h : j = 0 <;> simp [Addr.add, h], h.cell hj]
    simp [hj])
theorem inB_take {l : List Int} {i : Nat} (h : InB (l.take i)) (hi : i < l.length) (hk : 0 ≤ l.getD i 0 ∧ l.getD i 0 ≤ 255) : InB (l.take (i + 1)) := by
  intro k hm
  rw [take_snoc (d := 0) l i hi] at hm
  rcases List.mem_append.1 hm with hm | hm
  · exact h k hm
  · rw [List.mem_singleton.1 hm]; exact hk
theorem inB_not {l : List Int} {i : Nat} (hi : i < l.length) (hk : ¬ (0 ≤ l.getD i 0 ∧ l.getD i 0 ≤ 255)) : ¬ InB l := fun h => hk (h _ (by
  have e : l.getD i 0 = l[i] := by simp [List.getD_eq_getElem?_getD, hi]
  rw [e]
  exact List.getElem_mem hi))

set_option maxRecDepth 100000 in
set_option maxHeartbeats 2000000 in
theorem fback_any (A : Option Addr) (n c : Nat) (l : List Int) (w : World) (h : n ≤ 1000) (hl : IsInts w w.heap.size A n l) :
    Calls Tryd.prog 11 #[.slice A n c] w fun e w' => ((InB l ∧ e = .returned (.tuple #[.string (txt (decF allB l)), .nilIface])) ∨ (¬ InB l ∧ e = .returned (.tuple #[.string ByteArray.empty, .iface 39 (.int .i64 1)]))) ∧ Below w.heap.size w w' := by
  obtain ⟨i0, hi, hz0, hz1, hz2⟩ := info_parts byteI
  have HN := hid (newList_any w)
  have HI := hid hl
  have hls := hid hl.1
  clear hl
  go_enter Tryd.func11, Tryd.ntmps11
  go_wp2_with fail
  refine HN.out.mono ?_
  rintro e w1 ⟨D, L, rfl, hL, hD1, hL1, hb1⟩
  have HL := hid hL
  have hDw := lt_of_block hL.hd
  have hLw := BlkAt.lt hL.hl
  clear hL HN
  go_wp2_with (at_make; refine wpList_make_full _ rfl _ _ 36 rfl w1.heap.size 5 i0 (.int .u8 0) 1 Tryd.underlying36 hi hz0 hz1 _ _ _ _ n rfl rfl rfl rfl (by rw [hz2]; omega) (by unfold maxLen; omega) (by simp) ?_)
  intro w2 hown hgrow
  have HM := hid (RowAt.made hown)
  have hb2 : Below w1.heap.size w1 w2 := (Below.refl _ _).grown hgrow (by simp) (by simp)
  have HL2 := hid (HL.out.below hb2 (Nat.le_refl _))
  have hbw := hb1.trans (hb2.mono hb1.size)
  clear hown hgrow hi hz0 hz1 hz2 HL hb2
  have hC := hb1.size
  clear hb1
  generalize w1.heap.size = C at hDw hLw HM hC ⊢
  go_wp2_with fail
  go_loopw [22] (fun x wr => ∃ i : Nat, i ≤ n ∧ x = .int .i64 i ∧ Hid (InB (l.take i)) ∧ Hid (LstB wr D L (rowI allB (l.take i))) ∧ Hid (RowAt wr C 5 (partL 0 (decF allB l) n i)) ∧ Below w.heap.size w wr) (fun x _ => n - (intOf x).toNat)
  case atStart => exact ⟨0, by omega, rfl, hid (fun k hk => by simp at hk), HL2, hid (by rw [partL_zero]; exact HM.out), hbw⟩
  case round =>
    clear HL2 HM hbw
    obtain ⟨i, hin, rfl, HB, HL, HM, hb⟩ := hrel
    by_cases hlt : i < n
    · have hli : i < l.length := by rw [hls.out]; exact hlt
      obtain ⟨g, off, rfl, hg, hc⟩ := HI.out.2 (by omega)
      have c1 := (hb.cell (p := ⟨g, off + i, none⟩) hg).trans (hc i hlt)
      clear hc
      by_cases hk : 0 ≤ l.getD i 0 ∧ l.getD i 0 ≤ 255
      · have HB2 := hid (inB_take HB.out hli hk)
        have cK := HM.out.cell (k := i) (by rw [partL_len]; exact hlt)
        have fK := BlkAt.frozen HM.out i
        generalize (partL 0 (decF allB l) n i).getD i 0 = C0 at cK
        have hat := decF_at allB l i hli
        have hrow := rowI_snoc allB (l.take i) (l.getD i 0)
        rw [← take_snoc (d := 0) l i hli] at hrow
        obtain ⟨K, hK⟩ : ∃ K : Nat, l.getD i 0 = (K : Int) := ⟨(l.getD i 0).toNat, by omega⟩
        rw [hK] at c1 hat hrow hk
        rw [Int.toNat_natCast] at hat hrow
        have hK2 : K < 256 := by omega
        have HT := hid (take_fn D L K _ _ HL.out hK2)
        have hset := partL_set 0 (decF allB l) n i
        rw [hat] at hset
        have HROW := hid hrow
        generalize rowI allB (l.take i) = R at HL HT hset HROW
        have HSET := hid hset
        generalize R.getD K 0 = X at HT HSET
        clear hat hrow hset hli hK HB HL
        have k1 : ¬ ((K : Int) < 0) := by omega
        have k2 : ¬ (256 ≤ (K : Int)) := by omega
        have d1 : decide ((K : Int) < 0) = false := decide_eq_false k1
        have d2 : decide (256 ≤ (K : Int)) = false := decide_eq_false k2
        go_wp2_with fail
        refine HT.out.mono ?_
        rintro e w5 ⟨rfl, hL5, hO5⟩
        have cK5 := (hO5.cell (b := C) (o := i) (by omega)).trans cK
        have HM5 := hid ((hO5.block C (by omega)).trans HM.out)
        have fK5 := BlkAt.frozen HM5.out i
        have hst := RowAt.stored HM5.out i X
        rw [HSET.out] at hst
        have HST := hid hst
        have HL5 := hid (hL5.only hst.2 (by omega) (by omega))
        have hb5 : Below w.heap.size w w5 := hb.trans (hO5.below hL1)
        clear hL5 hO5 hst HM5 HT HM cK fK hb HSET c1
        go_wp2_with fail
        go_roundw
        case rel => exact ⟨i + 1, by omega, by go_num, HB2, hid (by rw [HROW.out]; exact HL5.out), hid HST.out.1, hb5.trans (HST.out.2.below hC)⟩
        case measure => simp [intOf]; omega
      · have HNB := hid (inB_not hli hk)
        generalize l.getD i 0 = K at c1 hk
        have hK : (K < 0 ∧ decide (K < 0) = true) ∨ (¬ K < 0 ∧ decide (K < 0) = false ∧ 256 ≤ K) := by
          by_cases h0 : K < 0
          · exact .inl ⟨h0, by simpa using h0⟩
          · exact .inr ⟨h0, by simpa using h0, by omega⟩
        clear hk HB HL HM hli
        rcases hK with ⟨h1, d1⟩ | ⟨h1, d1, h2⟩
        · go_wp2_with fail
          go_ret2
          exact ⟨.inr ⟨HNB.out, rfl⟩, hb⟩
        · go_wp2_with fail
          go_ret2
          exact ⟨.inr ⟨HNB.out, rfl⟩, hb⟩
    · obtain rfl : i = n := by omega
      have hm := HM.out
      rw [partL_all 0 (decF allB l) i (by rw [decF_len, hls.out])] at hm
      have hcv := fun c => conv_row (n := i) (c := c) hm (by rw [decF_len, hls.out])
      have HBn : Hid (InB l) := hid (by have := HB.out; rwa [List.take_of_length_le (by rw [hls.out]; exact Nat.le_refl _)] at this)
      obtain ⟨X, hX⟩ : ∃ X, X = txt (decF allB l) := ⟨_, rfl⟩
      rw [← hX] at hcv
      have HX := hid hX
      clear hX hm HM HL HB
      go_wp2_with fail
      go_ret2
      exact ⟨.inl ⟨HBn.out, by rw [← HX.out]; rfl⟩, hb⟩
theorem fback_ok (A : Option Addr) (n c : Nat) (l : List Int) (w : World) (h : n ≤ 1000) (hl : IsInts w w.heap.size A n l) (hb : InB l) :
    Calls Tryd.prog 11 #[.slice A n c] w fun e w' => e = .returned (.tuple #[.string (txt (decF allB l)), .nilIface]) ∧ Below w.heap.size w w' :=
  (fback_any A n c l w h hl).mono fun _ _ ⟨hc, hB⟩ => ⟨by
    rcases hc with ⟨_, he⟩ | ⟨hn, _⟩
    · exact he
    · exact absurd hb hn, hB⟩
theorem fback_bad (A : Option Addr) (n c : Nat) (l : List Int) (w : World) (h : n ≤ 1000) (hl : IsInts w w.heap.size A n l) (hb : ¬ InB l) :
    Calls Tryd.prog 11 #[.slice A n c] w fun e w' => e = .returned (.tuple #[.string ByteArray.empty, .iface 39 (.int .i64 1)]) ∧ Below w.heap.size w w' :=
  (fback_any A n c l w h hl).mono fun _ _ ⟨hc, hB⟩ => ⟨by
    rcases hc with ⟨hn, _⟩ | ⟨_, he⟩
    · exact absurd hn hb
    · exact he, hB⟩
end Go.Proofs.YtceipfmdgpnagaaDoor
