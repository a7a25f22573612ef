/-
  Contracts of many.check and many.All: the error that comes first, or all hits by place, then by word, in new memory. Conditions: the sizes that a row itself sets.
-/
import Derived.Test.YtdkbgikniacekaaMend
import Derived.Test.YtdkbgikniacekaaMhit
namespace Go.Proofs.Ytdkbgikniacekaa
open Go.RowKit Go.Maps

/-- What is wrong with the words and the text. -/
def BadM (ws : List ByteArray) (t : ByteArray) (k : Int) : Prop := Bad ws k ∨ (Fine ws ∧ 24 < t.size ∧ k = 4)
theorem badM_or (ws : List ByteArray) (t : ByteArray) : (Fine ws ∧ t.size ≤ 24) ∨ ∃ k, BadM ws t k := by
  rcases words_or ws with h | ⟨k, h⟩
  · rcases Nat.lt_or_ge 24 t.size with h' | h'
    · exact .inr ⟨4, .inr ⟨h, h', rfl⟩⟩
    · exact .inl ⟨h, h'⟩
  · exact .inr ⟨k, .inl h⟩
theorem mcheck_ok (A : Option Addr) (n c : Nat) (ws : List ByteArray) (t : ByteArray) (w : World) (hf : Fine ws) (ht : t.size ≤ 24) (h : IsStrs w w.heap.size A n ws) :
    Calls Try.prog 35 #[.slice A n c, .string t] w fun e w' => e = .returned .nilIface ∧ Below w.heap.size w w' := by
  have HC := hid (tcheck_ok A n c ws w hf h)
  clear h hf
  go_enter Try.func35, Try.ntmps35
  go_wp2_with fail
  refine HC.out.mono ?_
  rintro e w1 ⟨rfl, hb⟩
  go_wp2_with fail
  go_ret
  exact ⟨rfl, hb⟩
theorem mcheck_bad (A : Option Addr) (n c : Nat) (ws : List ByteArray) (t : ByteArray) (k : Int) (w : World) (hn : n ≤ maxLen) (hs : ∀ i, i < n → (wat ws i).size ≤ maxLen) (ht : t.size ≤ maxLen) (hk : BadM ws t k) (h : IsStrs w w.heap.size A n ws) :
    Calls Try.prog 35 #[.slice A n c, .string t] w fun e w' => e = .returned (.iface 49 (.int .i64 k)) ∧ Below w.heap.size w w' := by
  rcases hk with hk | ⟨hf, h24, rfl⟩
  · have HC := hid (tcheck_bad A n c ws k w hn hs hk h)
    clear h hk hs hn ht
    go_enter Try.func35, Try.ntmps35
    go_wp2_with fail
    refine HC.out.mono ?_
    rintro e w1 ⟨rfl, hb⟩
    go_wp2_with fail
    go_ret
    exact ⟨rfl, hb⟩
  · have HC := hid (tcheck_ok A n c ws w hf h)
    clear h hf hs hn
    unfold maxLen at ht
    go_enter Try.func35, Try.ntmps35
    go_wp2_with fail
    refine HC.out.mono ?_
    rintro e w1 ⟨rfl, hb⟩
    go_wp2_with fail
    go_ret
    exact ⟨rfl, hb⟩
theorem all_bad (A : Option Addr) (n c : Nat) (ws : List ByteArray) (t : ByteArray) (k : Int) (w : World) (hn : n ≤ maxLen) (hs : ∀ i, i < n → (wat ws i).size ≤ maxLen) (ht : t.size ≤ maxLen) (hk : BadM ws t k) (h : IsStrs w w.heap.size A n ws) :
    Calls Try.prog 21 #[.slice A n c, .string t] w fun e w' => e = .returned (.tuple #[.slice none 0 0, .iface 49 (.int .i64 k)]) ∧ Below w.heap.size w w' := by
  have HC := hid (mcheck_bad A n c ws t k w hn hs ht hk h)
  clear h hk hs hn ht
  go_enter Try.func21, Try.ntmps21
  go_wp2_with fail
  refine HC.out.mono ?_
  rintro e w1 ⟨rfl, hb⟩
  go_wp2_with fail
  go_ret2
  exact ⟨rfl, hb⟩

/-- All hits of the words in the text. -/
def hitsL (ws : List ByteArray) (t : ByteArray) : List (Nat × Nat) := hitL ws (bs t) (bs t).length
theorem hitAt_get (ws : List ByteArray) (t : List UInt8) (i j : Nat) (h : j < (endN ws (t.take (i + 1)) ws.length).length) :
    (hitAt ws t i).take (j + 1) = (hitAt ws t i).take j ++ [(i + 1 - (bs (wat ws ((endN ws (t.take (i + 1)) ws.length).getD j 0))).length, (endN ws (t.take (i + 1)) ws.length).getD j 0)] := by
  rw [List.take_add_one]
  congr 1
  unfold hitAt
  simp [List.getD_eq_getElem?_getD, h]
theorem hitAt_len (ws : List ByteArray) (t : List UInt8) (i : Nat) : (hitAt ws t i).length = (endN ws (t.take (i + 1)) ws.length).length := by unfold hitAt; rw [List.length_map]
theorem hitE_len (ws : List ByteArray) (t : List UInt8) (n : Nat) : (hitE ws t n).length ≤ n * ws.length := by
  induction n with
  | zero => simp [hitE]
  | succ n ih => rw [hitE_succ, List.length_append, hitAt_len, Nat.add_mul]; have := endN_len ws (t.take (n + 1)) ws.length; omega
theorem hit_info : (Try.prog.info? 46).map (fun i => (i.zero, i.size, i.bytes)) = some (some (.agg #[.int .i64 0, .int .i64 0]), 2, 16) := by kernel_rfl

set_option maxRecDepth 100000 in
set_option maxHeartbeats 4000000 in
theorem all_ok (A : Option Addr) (n c : Nat) (ws : List ByteArray) (t : ByteArray) (w : World) (hf : Fine ws) (ht : t.size ≤ 24) (h : IsStrs w w.heap.size A n ws) :
    Calls Try.prog 21 #[.slice A n c, .string t] w fun e w' => ∃ A' c', e = .returned (.tuple #[.slice A' (hitsL ws t).length c', .nilIface]) ∧ IsHits w' w'.heap.size A' (hitsL ws t).length (hitsL ws t) ∧ Below w.heap.size w w' := by
  obtain ⟨i0, hi, hz0, hz1, hz2⟩ := info_parts hit_info
  have hl : ws.length = n := h.1
  have hn : n ≤ 6 := by have := hf.1; omega
  have H := hid h
  have HL := hid hl
  have HF := hid hf
  have HT := hid (bs_len t)
  clear h hl hf
  go_enter Try.func21, Try.ntmps21
  go_wp2_with fail
  refine (mcheck_ok A n c ws t w HF.out ht H.out).mono ?_
  rintro e w1 ⟨rfl, hb1⟩
  go_wp2_with fail
  refine (endings_any A n c ws w1 HF.out ((H.out.below hb1).mono hb1.size)).mono ?_
  rintro e w2 ⟨lo, sb, rfl, hst, hb2⟩
  have HS := hid hst
  have hb12 : Below w.heap.size w w2 := hb1.trans (hb2.mono hb1.size)
  have H2 := hid (H.out.below hb12)
  clear hst hb1 hb2
  clear w1
  go_wp2_with fail
  go_loopw [8, 9, 24] (fun v y x wr => ∃ i b : Nat, i ≤ t.size ∧ y = .int .i64 b ∧ x = .int .i64 i ∧ Hid (Clear ws (bs t) i b) ∧ OwnH wr w2.heap.size 46 v (hitE ws (bs t) i) ∧ Below w2.heap.size w2 wr) (fun _ _ x _ => t.size - (intOf x).toNat)
  case atStart => exact ⟨0, 0, by omega, rfl, rfl, hid (clear_start ws (bs t)), OwnH.nil _ _ _, Below.refl _ _⟩
  case round =>
    obtain ⟨i, b, hit, rfl, rfl, HC, hown, hb⟩ := hrel
    by_cases hlt : i < t.size
    · have HC1 := hid (clear_next HC.out (by rw [HT.out]; exact hlt))
      have hbi : b ≤ i := HC.out.1
      have HSr := hid (HS.out.below hb)
      obtain ⟨wz, hwz⟩ : ∃ z, z = wr := ⟨_, rfl⟩
      obtain ⟨b0, hb0⟩ : ∃ z, z = b := ⟨_, rfl⟩
      subst hwz hb0
      clear HC
      go_wp2_with fail
      go_loopw [9] (fun y wr => ∃ b : Nat, b ≤ i + 1 ∧ y = .int .i64 b ∧ Hid (∀ j, j < b → ¬ IsPre ws (((bs t).take (i + 1)).drop j)) ∧ Hid (wr = wz)) (fun y _ => i + 1 - (intOf y).toNat)
      case atStart => exact ⟨b0, by omega, rfl, HC1, hid rfl⟩
      case round =>
        obtain ⟨b, hbi1, rfl, HB, HWR⟩ := hrel
        have hwr := HWR.out
        subst hwr
        clear HWR
        have hcut : ∀ W : World, Sem.run Try.prog (Instr.slice 9 (.string t) (some (.int .i64 (b : Int))) (some (.int .i64 ((i : Int) + 1))) none) W = .ok (.string (t.extract b (i + 1))) W := fun W => by
          have := run_slice_string (P := Try.prog) W 9 t .i64 .i64 (b : Int) ((i : Int) + 1) Try.underlying9 (by omega) (by omega) (by omega)
          simpa using this
        have HU := hid (bs_cut t b (i + 1))
        have husz : (t.extract b (i + 1)).size ≤ maxLen := by rw [ByteArray.size_extract]; unfold maxLen; omega
        by_cases hbl : b < i + 1 ∧ ¬ IsPre ws (((bs t).take (i + 1)).drop b)
        · have HH := hid (has_no sb lo 1000 ws (t.extract b (i + 1)) wr HSr.out husz (by rw [HU.out]; exact hbl.2))
          have HB2 := hid (clear_more HB.out hbl.2)
          have hd1 : (b : Int) < (i : Int) + 1 := by omega
          have hbl1 := hbl.1
          clear hbl HB HU husz
          generalize t.extract b (i + 1) = u at hcut HH
          go_wp2_with fail
          refine HH.out.mono ?_
          rintro e w3 ⟨rfl, hw3⟩
          subst w3
          go_wp2_with fail
          go_roundw
          case rel => exact ⟨b + 1, by omega, by go_num, HB2, by first | exact hid rfl | exact hid trivial⟩
          case measure => simp [intOf]; omega
        · have hend : IsPre ws (bs (t.extract b (i + 1))) ∨ bs (t.extract b (i + 1)) = [] := by
            rw [HU.out]
            rcases Nat.lt_or_ge b (i + 1) with h' | h'
            · exact .inl (Classical.byContradiction fun h'' => hbl ⟨h', h''⟩)
            · right; apply List.drop_eq_nil_of_le; rw [List.length_take, HT.out]; omega
          obtain ⟨A3, c3, hrun, hsl⟩ := look_any sb lo 1000 ws (t.extract b (i + 1)) w2 wr HF.out HS.out hb husz hend
          have hlen3 := endI_len ws (bs (t.extract b (i + 1))) ws.length
          have HEE := hid (show endN ws (bs (t.extract b (i + 1))) ws.length = endN ws ((bs t).take (i + 1)) ws.length by rw [HU.out]; exact clear_ends HF.out (by rw [HT.out]; exact hlt) hbi1 HB.out)
          have HB2 := hid (show Clear ws (bs t) (i + 1) b from ⟨hbi1, HB.out⟩)
          have HSL := hid (show IsInts w2 w2.heap.size A3 (endN ws ((bs t).take (i + 1)) ws.length).length (endI ws ((bs t).take (i + 1)) ws.length) by
            have := hsl.1
            unfold endI at this ⊢
            rw [HEE.out] at this
            simpa using this)
          have hel : (endI ws (bs (t.extract b (i + 1))) ws.length).length = (endN ws ((bs t).take (i + 1)) ws.length).length := by unfold endI; rw [HEE.out]; simp
          rw [hel] at hrun
          have hL6 : (endN ws ((bs t).take (i + 1)) ws.length).length ≤ 6 := Nat.le_trans (endN_len _ _ _) (by rw [HL.out]; exact hn)
          have HH : b < i + 1 → Hid (Calls Try.prog 37 #[.map (some sb), .string (t.extract b (i + 1))] wr fun e w' => e = .returned (.bool true) ∧ w' = wr) := fun h' => hid (has_yes sb lo 1000 ws (t.extract b (i + 1)) wr HSr.out husz (by
            rw [HU.out]; exact Classical.byContradiction fun h'' => hbl ⟨h', h''⟩))
          clear hsl hlen3 HEE HB hbl hend husz HU hel
          generalize t.extract b (i + 1) = u at hcut HH hrun
          have HEN := hid (fun j hj => endN_get ws ((bs t).take (i + 1)) ws.length j hj)
          have HTK := hid (fun j hj => hitAt_get ws (bs t) i j hj)
          have HTL := hid (hitAt_len ws (bs t) i)
          have HEI := hid (fun j hj => endI_getD ws ((bs t).take (i + 1)) ws.length j hj)
          have hEl := hitE_len ws (bs t) i
          have hEl2 : (hitE ws (bs t) i).length ≤ 1000 := by have := HL.out; have : i * ws.length ≤ 24 * 6 := Nat.mul_le_mul (by omega) (by omega); omega
          clear hEl
          obtain ⟨es, hes⟩ : ∃ z, z = endN ws ((bs t).take (i + 1)) ws.length := ⟨_, rfl⟩
          rw [← hes] at HSL hrun hL6 HEN HTK HTL
          have HES := hid hes
          clear hes
          obtain ⟨L, hL⟩ : ∃ z, z = es.length := ⟨_, rfl⟩
          rw [← hL] at HSL hrun hL6 HTL
          have HLL := hid hL
          clear hL
          obtain ⟨wz, hwz⟩ : ∃ z, z = wr := ⟨_, rfl⟩
          subst hwz
          by_cases hx : b < i + 1
          have hd1 : (b : Int) < (i : Int) + 1 := by omega
          have HX := HH hx
          clear HH
          go_wp2_with fail
          refine HX.out.mono ?_
          rintro e w3 ⟨rfl, hw3⟩
          subst w3
          clear HX
          go_wp2_with fail
          rotate_left
          have hd1 : ¬ (b : Int) < (i : Int) + 1 := by omega
          clear HH
          go_wp2_with fail
          all_goals
            clear hd1 hx hrun hcut
            go_loopw [8, 50] (fun v x wr => ∃ j : Nat, j ≤ L ∧ x = .int .i64 j ∧ OwnH wr w2.heap.size 46 v (hitE ws (bs t) i ++ (hitAt ws (bs t) i).take j) ∧ Below w2.heap.size w2 wr) (fun _ x _ => L - (intOf x).toNat)
            case atStart => exact ⟨0, by omega, rfl, by rw [List.take_zero, List.append_nil]; exact hown, hb⟩
            case round =>
              obtain ⟨j, hj, rfl, hown3, hb3⟩ := hrel
              by_cases hjl : j < L
              · obtain ⟨g3, off3, rfl, hg3, hc3⟩ := HSL.out.2 (by omega)
                have hj' : j < es.length := by have := HLL.out; omega
                have hkn : es.getD j 0 < n := by have := (HEN.out j hj').1; have := HL.out; omega
                have hck : wr.cell? ⟨g3, off3 + j, none⟩ = some (.int .i64 ((es.getD j 0 : Nat) : Int)) := by
                  rw [hb3.cell (show g3 < w2.heap.size from hg3), hc3 j hjl, HEI.out j (by unfold endI; rw [List.length_map, ← HES.out]; exact hj'), ← HES.out]
                obtain ⟨g, off, rfl, hg, hcw⟩ := H2.out.2 (by omega)
                have hwk : wr.cell? ⟨g, off + es.getD j 0, none⟩ = some (.string (wat ws (es.getD j 0))) :=
                  (hb3.cell (show g < w2.heap.size by have := hb12.size; omega)).trans (hcw _ hkn)
                have hsl : (wat ws (es.getD j 0)).size ≤ i + 1 := by
                  have := (HEN.out j hj').2.length_le
                  rw [bs_len, List.length_take] at this; omega
                have HE := hid (HTK.out j hj')
                rw [bs_len] at HE
                have hlen4 : (hitE ws (bs t) i ++ (hitAt ws (bs t) i).take j).length ≤ 1099511627776 := by
                  rw [List.length_append, List.length_take]; have := HTL.out; omega
                obtain ⟨cs, hcs⟩ : ∃ z, z = hitE ws (bs t) i ++ (hitAt ws (bs t) i).take j := ⟨_, rfl⟩
                have HCS := hid hcs
                rw [← hcs] at hown3 hlen4
                clear hcs hj' hc3 hcw
                generalize es.getD j 0 = k at hkn hck hwk hsl HE
                generalize wat ws k = s at hwk hsl HE
                obtain ⟨x, hx⟩ : ∃ z : Nat, z = i + 1 - s.size := ⟨_, rfl⟩
                have hxe : (i : Int) + 1 - (s.size : Int) = (x : Int) := by omega
                rw [← hx] at HE
                clear hx
                have hsz3 := hb3.size
                go_wp2_with (at_builtin; refine wpList_append_hit _ rfl (.tmp 54) (.tmp 64) 41 rfl w2.heap.size 46 i0 Try.underlying41 hi hz0 hz1 hz2 _ cs rfl hown3 (x, k) rfl hlen4 (by omega) ?_)
                intro v' w6 hown6 hb6
                go_wp2_with fail
                go_roundw
                case rel => exact ⟨j + 1, by omega, by go_num, by rw [HE.out, ← List.append_assoc, ← HCS.out]; exact hown6, hb3.trans hb6⟩
                case measure => simp [intOf]; omega
              · rw [List.take_of_length_le (by have := HTL.out; omega), ← hitE_succ] at hown3
                have HO := hid hown3
                clear hown3
                go_wp2_with fail
                go_roundw
                case rel => exact ⟨i + 1, b, by omega, rfl, by go_num, HB2, HO.out, hb3⟩
                case measure => simp [intOf]; omega
    · have hit' : i = (bs t).length := by have := HT.out; omega
      have hEl := hitE_len ws (bs t) i
      have hEl2 : (hitE ws (bs t) i).length ≤ 1000000 := by have := HL.out; have : i * ws.length ≤ 24 * 6 := Nat.mul_le_mul (by omega) (by omega); omega
      have HQ := hid (sort_own w2.heap.size _ _ wr hEl2 hown)
      rw [hit'] at HQ
      clear hown HC hEl hEl2
      go_wp2_with fail
      refine HQ.out.mono ?_
      rintro e w3 ⟨rfl, A3, c3, l, rfl, hp, hs, hI, hb3⟩
      have HP := hid (hits_sorted HF.out hp hs)
      have hll : (hitE ws (bs t) (bs t).length).length = (hitsL ws t).length := by rw [← hp.length_eq, HP.out]; rfl
      rw [hll] at hI
      rw [HP.out] at hI
      have HI := hid hI
      clear hp hs hI HQ
      rw [hll]
      go_wp2_with fail
      go_ret2
      exact ⟨A3, c3, rfl, HI.out, hb12.trans ((hb.trans hb3).mono hb12.size)⟩
end Go.Proofs.Ytdkbgikniacekaa
