/-
  Contracts of package regex: parse, Check, Null, Signs. Conditions: what is wrong with the text of a pattern, or what it means.
-/
import Derived.Test.YtdhklkpeepmedaaDoorRgU
import Derived.Test.YtdhklkpeepmedaaDoorCpct
import Derived.Test.YtdhklkpeepmedaaDoorConv
import Derived.Test.YtdhklkpeepmedaaDoorByteI
import Derived.Test.YtdhklkpeepmedaaDoorRgm
import Derived.Test.YtdhklkpeepmedaaDoorRgltm
namespace Go.Proofs.YtdhklkpeepmedaaDoor
open Go.RowKit

set_option maxRecDepth 100000 in
set_option maxHeartbeats 4000000 in
theorem parse_ok (p : ByteArray) (r : Re UInt8) (w : World) (h : RgOk p r) :
    Calls Tryd.prog 19 #[.string p] w fun e w' => (∃ A k c, e = .returned (.tuple #[.slice A k c, .nilIface]) ∧ ChoV (From w.heap.size) w' (.slice A k c) (nul r)) ∧ Below w.heap.size w w' := by
  have h12 := h.1
  have HP := hid (pattern_any (p.size + 1) p w (by omega) (by omega))
  have HR := hid h.2
  clear h
  go_enter Tryd.func19, Tryd.ntmps19
  go_wp2_with fail
  refine HP.out.mono ?_
  rintro e w1 ⟨⟨A, k, c, x, b, rfl, hx, hO, hC⟩, hb⟩
  have h0 : x.size = 0 := by
    rcases Nat.eq_zero_or_pos x.size with h | h
    · exact h
    · have := patO_rest hO (by intro e; rw [← bs_len, e] at h; exact absurd h (by simp))
      rw [HR.out] at this; cases this
  have HC := hid (show ChoV (From w.heap.size) w1 (.slice A k c) (nul r) from by
    rw [bs_zero h0] at hO
    obtain ⟨r', e, hn⟩ := patO_all hO
    rw [HR.out] at e
    cases e
    rw [hn]; exact hC)
  have he := blank_yes h0
  clear hO hC hx h0 HP
  go_wp2_with fail
  go_ret2
  exact ⟨⟨_, _, _, rfl, HC.out⟩, hb⟩
set_option maxRecDepth 100000 in
set_option maxHeartbeats 4000000 in
theorem parse_bad (p : ByteArray) (k : Int) (w : World) (_hp : p.size ≤ maxLen) (h : RgBad p k) :
    Calls Tryd.prog 19 #[.string p] w fun e w' => e = .returned (.tuple #[.slice none 0 0, .iface 43 (.int .i64 k)]) ∧ Below w.heap.size w w' := by
  rcases h with ⟨h12, rfl⟩ | ⟨h12, hn, rfl⟩
  · go_enter Tryd.func19, Tryd.ntmps19
    go_wp2_with fail
    go_ret2
    exact ⟨rfl, Below.refl _ _⟩
  · have HP := hid (pattern_any (p.size + 1) p w (by omega) (by omega))
    have HR := hid hn
    clear hn
    go_enter Tryd.func19, Tryd.ntmps19
    go_wp2_with fail
    refine HP.out.mono ?_
    rintro e w1 ⟨⟨A, k, c, x, b, rfl, hx, hO, hC⟩, hb⟩
    have h0 : 0 < x.size := by
      rcases Nat.eq_zero_or_pos x.size with h | h
      · exfalso
        rw [bs_zero h] at hO
        obtain ⟨r', e, hn⟩ := patO_all hO
        rw [HR.out] at e; cases e
      · exact h
    have he := blank_no h0
    clear hO hC hx h0 HP
    go_wp2_with fail
    go_ret2
    exact ⟨rfl, hb⟩
theorem rgcheck_ok (p : ByteArray) (r : Re UInt8) (w : World) (h : RgOk p r) :
    Calls Tryd.prog 9 #[.string p] w fun e w' => e = .returned .nilIface ∧ Below w.heap.size w w' := by
  have HP := hid (parse_ok p r w h)
  clear h
  go_enter Tryd.func9, Tryd.ntmps9
  go_wp2_with fail
  refine HP.out.mono ?_
  rintro e w1 ⟨⟨A, k, c, rfl, _⟩, hb⟩
  go_wp2_with fail
  go_ret
  exact ⟨rfl, hb⟩
theorem rgcheck_bad (p : ByteArray) (k : Int) (w : World) (hp : p.size ≤ maxLen) (h : RgBad p k) :
    Calls Tryd.prog 9 #[.string p] w fun e w' => e = .returned (.iface 43 (.int .i64 k)) ∧ Below w.heap.size w w' := by
  have HP := hid (parse_bad p k w hp h)
  clear h
  go_enter Tryd.func9, Tryd.ntmps9
  go_wp2_with fail
  refine HP.out.mono ?_
  rintro e w1 ⟨rfl, hb⟩
  go_wp2_with fail
  go_ret
  exact ⟨rfl, hb⟩
theorem rgnull_ok (p : ByteArray) (r : Re UInt8) (w : World) (h : RgOk p r) :
    Calls Tryd.prog 13 #[.string p] w fun e w' => e = .returned (.tuple #[.bool (nul r), .nilIface]) ∧ Below w.heap.size w w' := by
  have HP := hid (parse_ok p r w h)
  clear h
  go_enter Tryd.func13, Tryd.ntmps13
  go_wp2_with fail
  refine HP.out.mono ?_
  rintro e w1 ⟨⟨A, k, c, rfl, hC⟩, hb⟩
  have HC := hid (hC w1 (Fr.of_below (Below.refl _ _)))
  clear hC HP
  go_wp2_with fail
  refine HC.out.mono ?_
  rintro e w2 ⟨rfl, hb2⟩
  go_wp2_with fail
  go_ret2
  exact ⟨rfl, hb.trans (hb2.mono hb.size)⟩
theorem rgnull_bad (p : ByteArray) (k : Int) (w : World) (hp : p.size ≤ maxLen) (h : RgBad p k) :
    Calls Tryd.prog 13 #[.string p] w fun e w' => e = .returned (.tuple #[.bool false, .iface 43 (.int .i64 k)]) ∧ Below w.heap.size w w' := by
  have HP := hid (parse_bad p k w hp h)
  clear h
  go_enter Tryd.func13, Tryd.ntmps13
  go_wp2_with fail
  refine HP.out.mono ?_
  rintro e w1 ⟨rfl, hb⟩
  go_wp2_with fail
  go_ret2
  exact ⟨rfl, hb⟩

/-! ### Letters -/
theorem compact_none (A : Option Addr) (c : Nat) (w : World) : Calls Tryd.prog 24 #[.slice A 0 c] w fun e w' => e = .returned (.slice A 0 c) ∧ w' = w := by
  go_enter Tryd.func24, Tryd.ntmps24
  go_wp2
  go_ret
  exact ⟨rfl, rfl⟩
theorem ltr_take {p : ByteArray} {i : Nat} (hi : i < p.size) : ((bs p).take (i + 1)).filter ltr = ((bs p).take i).filter ltr ++ if ltr p[i] = true then [p[i]] else [] := by
  rw [bs_take_succ p i hi, List.filter_append, List.filter_cons]
  split <;> rfl
set_option maxRecDepth 100000 in
set_option maxHeartbeats 4000000 in
theorem rgsigns_ok (p : ByteArray) (r : Re UInt8) (w : World) (h : RgOk p r) :
    Calls Tryd.prog 14 #[.string p] w fun e w' => e = .returned (.tuple #[.string (txt (sgnL (bs p))), .int .i64 (((bs p).filter ltr).length : Nat), .nilIface]) ∧ Below w.heap.size w w' := by
  have h12 := h.1
  have HP := hid (rgcheck_ok p r w h)
  have HL := fun c W => hid (isLetter_any c W)
  obtain ⟨i0, hi, hz0, hz1, hz2⟩ := info_parts byteI
  clear h
  go_enter Tryd.func14, Tryd.ntmps14
  go_wp2_with fail
  refine HP.out.mono ?_
  rintro e w1 ⟨rfl, hb1⟩
  clear HP
  go_wp2_with fail
  go_loopw [6, 7, 16] (fun v _ x wr => ∃ (i : Nat) (z : Value), v = z ∧ i ≤ p.size ∧ x = .int .i64 i ∧ Hid (OwnB wr w.heap.size 5 z (((bs p).take i).filter ltr)) ∧ Below w.heap.size w wr) (fun _ _ x _ => p.size - (intOf x).toNat)
  case atStart => exact ⟨0, _, rfl, by omega, rfl, hid (OwnB.nil _ _ _), hb1⟩
  case round =>
    clear hb1
    obtain ⟨i, v, hv, hin, rfl, HO, hb⟩ := hrel
    have hv := hv.symm
    subst hv
    by_cases hlt : i < p.size
    · have hlt1 : (i : Int) < (p.size : Int) := by omega
      have HS := hid (ltr_take hlt)
      obtain ⟨c, hc⟩ : ∃ c, c = p[i] := ⟨_, rfl⟩
      rw [← hc] at HS
      have hci : p[i] = c := hc.symm
      clear hc
      have hlen : (((bs p).take i).filter ltr).length ≤ 1099511627776 := by
        refine Nat.le_trans (List.length_filter_le _ _) ?_
        rw [List.length_take]; omega
      have hout : Out v 0 0 := fun b _ => .inr (Nat.zero_le _)
      have hsz := hb.size
      cases ht : ltr c with
      | true =>
        have HLc := fun W => hid (HL c W).out
        rw [ht] at HLc
        rw [ht, if_pos rfl] at HS
        clear ht
        go_wp2_with fail
        refine (HLc _).out.mono ?_
        rintro e w2 ⟨rfl, hw2⟩
        subst hw2
        go_wp2_with (at_builtin; refine wpList_append_byte _ rfl (.tmp 23) (.tmp 27) 50 rfl w.heap.size 5 i0 Tryd.underlying50 hi hz0 hz1 hz2 _ (((bs p).take i).filter ltr) rfl HO.out c rfl hlen hsz 0 0 hout (Nat.zero_le _) ?_)
        intro v' w6 hown6 hb6 _ _
        have HO6 := hid hown6
        rw [← HS.out] at HO6
        have hbx := hb.trans hb6
        clear hown6 hb6 HO hb hout
        go_wp2_with fail
        go_roundw
        case rel => exact ⟨i + 1, _, rfl, by omega, by go_num, HO6, hbx⟩
        case measure => simp [intOf]; omega
      | false =>
        have HLc := fun W => hid (HL c W).out
        rw [ht] at HLc
        rw [ht, if_neg (by decide), List.append_nil] at HS
        rw [← HS.out] at HO
        clear ht
        go_wp2_with fail
        refine (HLc _).out.mono ?_
        rintro e w2 ⟨rfl, hw2⟩
        subst hw2
        go_wp2_with fail
        go_roundw
        case rel => exact ⟨i + 1, _, rfl, by omega, by go_num, HO, hb⟩
        case measure => simp [intOf]; omega
    · obtain rfl : i = p.size := by omega
      rw [List.take_of_length_le (by rw [bs_len]; exact Nat.le_refl _)] at HO
      have hle : ((bs p).filter ltr).length ≤ 12 := Nat.le_trans (List.length_filter_le _ _) (by rw [bs_len]; exact h12)
      have HM := hid (show ∀ R : List UInt8, R.Pairwise (fun a b => a.toNat < b.toNat) → (∀ c, c ∈ R ↔ c ∈ (bs p).filter ltr) → R = sgnL (bs p) from fun R hR hm => rise_one hR (sgn_rise _) fun c => by
        rw [hm, List.mem_filter, sgn_mem])
      obtain ⟨sg0, hsg⟩ : ∃ x, x = sgnL (bs p) := ⟨_, rfl⟩
      obtain ⟨l0, hl0⟩ : ∃ x, x = (bs p).filter ltr := ⟨_, rfl⟩
      rw [← hsg, ← hl0] at HM
      rw [← hl0] at HO hle
      have HE := hid (And.intro hsg hl0)
      clear hsg hl0
      obtain ⟨A, c, rfl, hlc, hcell, _⟩ := HO.out.cells
      by_cases h0 : l0.length = 0
      · have hl0 : l0 = [] := List.length_eq_zero_iff.1 h0
        subst hl0
        have hs0 : sg0 = [] := (HM.out [] List.Pairwise.nil (fun c => Iff.rfl)).symm
        rw [hs0] at HE
        have HV := fun W => hid (sort_few A 0 c W (by omega) (fun w' => w' = W) (insort_none A c W))
        have HK := fun W => hid (compact_none A c W)
        have hconv := conv_own HO.out
        rw [List.length_nil] at hconv
        clear hcell HM HO h0 hlc
        go_wp2_with fail
        refine (HV _).out.mono ?_
        rintro e w2 ⟨rfl, hw2⟩
        subst hw2
        go_wp2_with fail
        refine (HK _).out.mono ?_
        rintro e w2 ⟨rfl, hw2⟩
        subst hw2
        go_wp2_with fail
        go_ret3
        exact ⟨by rw [← HE.out.1, ← HE.out.2]; rfl, hb⟩
      · obtain ⟨n, hn⟩ : ∃ n, n = l0.length := ⟨_, rfl⟩
        have HR0 := HO.out
        obtain ⟨g, off, rfl, hbg, hgw, hcell⟩ := hcell (by omega)
        have hoff : off = 0 := by
          rcases HR0.2 with ⟨e, _⟩ | ⟨g', cap, cur, e, _⟩
          · cases e
          · injection e with e1 e2 e3
            injection e1 with e1
            injection e1
        subst hoff
        have HV := hid (sort_few (some ⟨g, 0, none⟩) n c wr (by omega) (fun w' => ∃ l, l.Perm l0 ∧ l.Pairwise (· ≤ ·) ∧ RowB w' w.heap.size g n c l ∧ Below w.heap.size wr w') (insort_any w.heap.size g n c l0 wr (by omega) hbg ⟨by rw [hn]; exact HR0, hn.symm⟩))
        have HNL := hid hn
        rw [← hn] at hlc h0 hle ⊢
        clear hcell HO HR0 hn
        go_wp2_with fail
        refine HV.out.mono ?_
        rintro e w2 ⟨rfl, l, hpm, hso, hrow, hb2⟩
        have HK := hid (compact_any w.heap.size g 0 n c l w2 hrow.2 (by omega) hlc hbg hrow.at hso (by omega))
        have HPM := hid hpm
        have HLL := hid hrow.2
        have hbx := hb.trans hb2
        clear hb hb2 hrow hso hpm HV
        go_wp2_with fail
        refine HK.out.mono ?_
        rintro e w3 ⟨R, rfl, hR, hcl, hb3⟩
        have hRs : R = sg0 := HM.out R hR.1 fun x => by
          rw [hR.2, List.take_of_length_le (Nat.le_refl _)]
          exact HPM.out.mem_iff
        have HRs := hid hRs
        clear hRs
        have hconv := run_convert_bytes_back (P := Tryd.prog) w3 50 9 5 ⟨g, 0, none⟩ c R Tryd.underlying50 Tryd.underlying5 Tryd.underlying9 (fun j hj => by
          rw [show Addr.add ⟨g, 0, none⟩ j = ⟨g, j, none⟩ by by_cases h : j = 0 <;> simp [Addr.add, h]]
          have := hcl j hj
          rw [Nat.zero_add] at this
          simpa [List.getD_eq_getElem?_getD, hj] using this)
        have hby := hbx.trans hb3
        clear hcl hR HPM HK hbx hb3
        generalize R.length = m at hconv
        go_wp2_with fail
        go_ret3
        exact ⟨by rw [← HE.out.1, ← HE.out.2, ← HNL.out, ← HRs.out]; rfl, hby⟩
theorem rgsigns_bad (p : ByteArray) (k : Int) (w : World) (hp : p.size ≤ maxLen) (h : RgBad p k) :
    Calls Tryd.prog 14 #[.string p] w fun e w' => e = .returned (.tuple #[.string ByteArray.empty, .int .i64 0, .iface 43 (.int .i64 k)]) ∧ Below w.heap.size w w' := by
  have HP := hid (rgcheck_bad p k w hp h)
  clear h
  go_enter Tryd.func14, Tryd.ntmps14
  go_wp2_with fail
  refine HP.out.mono ?_
  rintro e w1 ⟨rfl, hb⟩
  go_wp2_with fail
  go_ret3
  exact ⟨rfl, hb⟩
end Go.Proofs.YtdhklkpeepmedaaDoor
