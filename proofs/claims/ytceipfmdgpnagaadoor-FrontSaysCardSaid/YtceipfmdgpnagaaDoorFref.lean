/-
  Contracts of letterbeckref2.all, front, Front, Unfront and All: all signs in a row; a row with a place put to its front; the code of a text; the text of a code; whether all numbers lie between two others. The old memory stays as it was. Conditions: none but the sizes that a row itself sets; the numbers of a code are places of a row.
-/
import Derived.Test.YtceipfmdgpnagaaDoorBase
import Derived.Test.YtceipfmdgpnagaaDoorByteI
import Derived.Test.YtceipfmdgpnagaaDoorBs
import Derived.Test.YtceipfmdgpnagaaDoorFmem
import Derived.Test.YtceipfmdgpnagaaDoorInr
import Derived.Test.YtceipfmdgpnagaaDoorConv
namespace Go.Proofs.YtceipfmdgpnagaaDoor
open Go.RowKit

theorem allB_take (k : Nat) (h : k < 256) : allB.take (k + 1) = allB.take k ++ [UInt8.ofNat k] := by
  rw [take_snoc (d := 0) allB k (by rw [allB_len]; exact h), allB_at k h]
set_option maxRecDepth 100000 in
set_option maxHeartbeats 1000000 in
theorem rall_any (w : World) : Calls Tryd.prog 12 #[] w fun e w' => ∃ v, e = .returned v ∧ OwnB w' w.heap.size 5 v allB ∧ Below w.heap.size w w' := by
  obtain ⟨i0, hi, hz0, hz1, hz2⟩ := info_parts byteI
  go_enter Tryd.func12, Tryd.ntmps12
  go_wp2_with fail
  go_loopw [1, 2] (fun v x wr => ∃ k : Nat, k ≤ 256 ∧ x = .int .i64 k ∧ Hid (OwnB wr w.heap.size 5 v (allB.take k)) ∧ Below w.heap.size w wr) (fun _ x _ => 256 - (intOf x).toNat)
  case atStart => exact ⟨0, by omega, rfl, hid (OwnB.nil _ _ _), Below.refl _ _⟩
  case round =>
    obtain ⟨k, hk, rfl, HB, hb⟩ := hrel
    have hsz := hb.size
    by_cases hlt : k < 256
    · have hlen : (allB.take k).length ≤ 1099511627776 := by rw [List.length_take]; omega
      have HT := hid (allB_take k hlt)
      have hw8 : (k : Int) = ((UInt8.ofNat k).toNat : Int) := by rw [UInt8.toNat_ofNat']; omega
      have HW8 := hid hw8
      clear hw8
      generalize allB.take k = cs at HB hlen HT
      generalize UInt8.ofNat k = C at HT HW8
      go_wp2_with (at_builtin; rw [HW8.out]; refine wpList_append_byte _ rfl (.tmp 7) (.tmp 10) 36 rfl w.heap.size 5 i0 Tryd.underlying36 hi hz0 hz1 hz2 _ cs rfl HB.out C rfl hlen hsz 0 0 (fun _ _ => .inr (Nat.zero_le _)) (Nat.zero_le _) ?_)
      intro v' w6 hown6 hb6 _ _
      have HO6 := hid hown6
      clear hown6 HB
      rw [← HW8.out]
      go_wp2_with fail
      go_roundw
      case rel => exact ⟨k + 1, by omega, by go_num, hid (by rw [HT.out]; exact HO6.out), hb.trans hb6⟩
      case measure => simp [intOf]; omega
    · obtain rfl : k = 256 := by omega
      have hB := HB.out
      rw [List.take_of_length_le (by rw [allB_len]; exact Nat.le_refl _)] at hB
      have HB2 := hid hB
      clear hB HB
      go_wp2_with fail
      go_ret
      exact ⟨_, rfl, HB2.out, hb⟩

/-- A part of a row, from a place on. -/
theorem IsSigns.part {w : World} {g off : Nat} {r : List UInt8} (hc : ∀ j, j < r.length → w.cell? ⟨g, off + j, none⟩ = some (.int .u8 ((r.getD j 0).toNat : Int))) (b m : Nat) (h : b + m ≤ r.length) (ad : Addr) (had : 0 < m → ad = ⟨g, off + b, none⟩) : IsSigns w ad ((r.drop b).take m) := by
  intro j hj
  have hl : ((r.drop b).take m).length = m := by rw [List.length_take, List.length_drop]; omega
  rw [hl] at hj
  rw [had (by omega), show Addr.add ⟨g, off + b, none⟩ j = ⟨g, off + (b + j), none⟩ by by_cases h : j = 0 <;> simp [Addr.add, h, Nat.add_assoc], hc (b + j) (by omega)]
  simp [List.getD_eq_getElem?_getD, hj]
set_option maxRecDepth 100000 in
set_option maxHeartbeats 1000000 in
theorem rfront_any (r : List UInt8) (v : Value) (base k : Nat) (w : World) (hv : OwnB w base 5 v r) (hr : r.length = 256) (hk : k < 256) :
    Calls Tryd.prog 13 #[v, .int .i64 (k : Int)] w fun e w' => ∃ v', e = .returned v' ∧ OwnB w' w.heap.size 5 v' (mtf r k) ∧ Below w.heap.size w w' := by
  obtain ⟨i0, hi, hz0, hz1, hz2⟩ := info_parts byteI
  obtain ⟨A, c, rfl, hlc, hcells, _⟩ := hv.cells
  obtain ⟨g, off, rfl, _, hg, hc⟩ := hcells (by omega)
  rw [hr] at hlc ⊢
  have HC := hid hc
  have HR := hid hr
  have cK := hc k (by omega)
  obtain ⟨X, hX⟩ : ∃ X, X = r.getD k 0 := ⟨_, rfl⟩
  rw [← hX] at cK
  have HX := hid hX
  have k1 : (k : Int) ≤ 256 := by omega
  have k2 : (0 : Int) ≤ (k : Int) := by omega
  have k3 : (k : Int) < 256 := by omega
  have k4 : (k : Int) ≤ (c : Int) := by omega
  have k5 : (k : Int) + 1 ≤ 256 := by omega
  have k6 : (0 : Int) ≤ (k : Int) + 1 := by omega
  clear hc hr hX hcells hv
  have hl1 : ∀ (x : UInt8), OwnB (w.alloc (.cells #[.int .u8 (x.toNat : Int)] 5)) w.heap.size 5 (.slice (some ⟨w.heap.size, 0, none⟩) 1 1) [x] := OwnB.lit w _
  have HL1 := hid (hl1 X)
  clear hl1
  have hbl : Below w.heap.size w (w.alloc (.cells #[.int .u8 (X.toNat : Int)] 5)) := (Below.refl _ _).alloc (Nat.le_refl _) _
  go_enter Tryd.func13, Tryd.ntmps13
  have HS1 : Hid (IsSigns (w.alloc (.cells #[.int .u8 (X.toNat : Int)] 5)) ⟨g, off, none⟩ ((r.drop 0).take k)) :=
    hid (IsSigns.part (g := g) (off := off) (fun j hj => (hbl.cell (p := ⟨g, off + j, none⟩) hg).trans (HC.out j hj)) 0 k (by rw [HR.out]; omega) _ (fun _ => rfl))
  have hn1 : ((r.drop 0).take k).length = k := by rw [List.drop_zero, List.length_take, HR.out]; omega
  have HE1 := hid (show (r.drop 0).take k = r.take k by rw [List.drop_zero])
  generalize (r.drop 0).take k = xs at HS1 hn1 HE1
  go_wp2_with (at_builtin; refine wpList_append_signs _ rfl (.tmp 11) (.tmp 14) 36 rfl w.heap.size 5 i0 Tryd.underlying36 hi hz0 hz1 hz2 _ [X] rfl HL1.out ⟨g, off, none⟩ k c xs hn1 rfl HS1.out (by simp; omega) (by simp) ?_)
  intro v2 w2 hown2 hb2
  have HO2 : Hid (OwnB w2 w.heap.size 5 v2 ([X] ++ xs)) := hid hown2
  have hbw := hbl.trans hb2
  clear hown2 hb2 hbl HS1 HL1
  have hn2 : ((r.drop (k + 1)).take (255 - k)).length = 255 - k := by rw [List.length_take, List.length_drop, HR.out]; omega
  have HE2 := hid (show (r.drop (k + 1)).take (255 - k) = r.drop (k + 1) by rw [List.take_of_length_le (by rw [List.length_drop, HR.out]; omega)])
  have HS2 : Hid (∀ ad : Addr, (0 < 255 - k → ad = ⟨g, off + (k + 1), none⟩) → IsSigns w2 ad ((r.drop (k + 1)).take (255 - k))) :=
    hid (fun ad had => IsSigns.part (g := g) (off := off) (fun j hj => (hbw.cell (p := ⟨g, off + j, none⟩) hg).trans (HC.out j hj)) (k + 1) (255 - k) (by rw [HR.out]; omega) ad had)
  generalize (r.drop (k + 1)).take (255 - k) = ys at HS2 hn2 HE2
  have hxl : xs.length = k := hn1
  have HF : Hid ([X] ++ xs ++ ys = mtf r k) := hid (by
    unfold mtf
    rw [HE1.out, HE2.out, HX.out, List.append_assoc]
    rfl)
  have hls : ([X] ++ xs).length ≤ 1000 := by simp; omega
  generalize [X] ++ xs = zs at HO2 HF hls
  have hsw := hbw.size
  clear cK HC hn1 HE1 HE2 HX hxl
  by_cases hck : c = k + 1
  · have HS3 := hid (HS2.out ⟨g, off, none⟩ (fun h => by omega))
    have hn3 : ys.length = 0 := by omega
    clear HS2 hn2
    subst hck
    go_wp2_with (at_builtin; refine wpList_append_signs _ rfl (.tmp 16) (.tmp 20) 36 rfl w.heap.size 5 i0 Tryd.underlying36 hi hz0 hz1 hz2 _ zs rfl HO2.out ⟨g, off, none⟩ 0 0 ys hn3 rfl HS3.out (by omega) hsw ?_)
    intro v3 w3 hown3 hb3
    have HO3 := hid hown3
    have hbF := hbw.trans hb3
    clear hown3 hb3 HO2 HS3
    go_wp2_with fail
    go_ret
    exact ⟨_, rfl, by rw [← HF.out]; exact HO3.out, hbF⟩
  · have HS3 := hid (HS2.out ⟨g, off + (k + 1), none⟩ (fun _ => rfl))
    clear HS2
    go_wp2_with (at_builtin; refine wpList_append_signs _ rfl (.tmp 16) (.tmp 20) 36 rfl w.heap.size 5 i0 Tryd.underlying36 hi hz0 hz1 hz2 _ zs rfl HO2.out ⟨g, off + (k + 1), none⟩ (255 - k) (c - (k + 1)) ys hn2 rfl HS3.out (by omega) hsw ?_)
    intro v3 w3 hown3 hb3
    have HO3 := hid hown3
    have hbF := hbw.trans hb3
    clear hown3 hb3 HO2 HS3
    go_wp2_with fail
    go_ret
    exact ⟨_, rfl, by rw [← HF.out]; exact HO3.out, hbF⟩

theorem OwnB.kept {w w' : World} {base hi : Nat} {e : TypeId} {v : Value} {xs : List UInt8} (h : OwnB w base e v xs) (hk : Kept base hi w w') (hs : w.heap.size ≤ hi) : OwnB w' base e v xs := by
  refine ⟨h.1, ?_⟩
  rcases h.2 with h' | ⟨g, cap, cur, h1, h2, h3, h4⟩
  · exact .inl h'
  · refine .inr ⟨g, cap, cur, h1, h2, ?_, h4⟩
    have hlt : g < w.heap.size := by
      rcases Nat.lt_or_ge g w.heap.size with hlt | hge
      · exact hlt
      · rw [Array.getElem?_eq_none hge] at h3; cases h3
    rw [hk g h2 (by omega)]; exact h3
theorem out_nil (lo hi : Nat) : Out (.slice none 0 0) lo hi := fun b hb => by cases hb
theorem idx_before {r : List UInt8} (h : Full r) {c : UInt8} {k : Nat} (hk : k < r.idxOf c) : r.getD k 0 ≠ c := fun e => by
  have h1 := h.idx c
  have h2 := h.idx_at (k := k) (by omega)
  rw [e] at h2
  omega
theorem codF_snoc (r t : List UInt8) (i : Nat) (h : i < t.length) : codF r (t.take (i + 1)) = codF r (t.take i) ++ [((rowT r (t.take i)).idxOf (t.getD i 0) : Int)] := by
  rw [codF_take, codF_take, take_snoc (d := 0) (codF r t) i (by rw [codF_len]; exact h), codF_at r t i h]

set_option maxRecDepth 100000 in
set_option maxHeartbeats 2000000 in
theorem rcode_any (s : ByteArray) (w : World) (h : s.size ≤ 1000) :
    Calls Tryd.prog 5 #[.string s] w fun e w' => ∃ v, e = .returned v ∧ OwnI w' w.heap.size 3 v (codF allB (bs s)) ∧ Below w.heap.size w w' := by
  obtain ⟨i0, hi, hz0, hz1, hz2⟩ := info_parts int_info
  have HA := hid (rall_any w)
  have hls := hid (bs_len s)
  go_enter Tryd.func5, Tryd.ntmps5
  go_wp2_with fail
  refine HA.out.mono ?_
  rintro e w1 ⟨v1, rfl, hO1, hb1⟩
  have HO1 := hid hO1
  clear hO1 HA
  go_wp2_with fail
  go_loopw [3, 4, 5] (fun r v x wr => ∃ i Rb : Nat, i ≤ s.size ∧ x = .int .i64 i ∧ w.heap.size ≤ Rb ∧ Hid (OwnB wr Rb 5 r (rowT allB ((bs s).take i))) ∧ Hid (OwnI wr w.heap.size 3 v (codF allB ((bs s).take i))) ∧ Hid (∀ hh, Out v Rb hh) ∧ Below w.heap.size w wr) (fun _ _ x _ => s.size - (intOf x).toNat)
  case atStart => exact ⟨0, w.heap.size, by omega, rfl, Nat.le_refl _, HO1, hid (OwnI.nil _ _ _), hid (fun hh => out_nil _ hh), hb1⟩
  case round =>
    clear HO1 hb1
    obtain ⟨i, Rb, hin, rfl, hRb, HR, HV, HU, hb⟩ := hrel
    by_cases hlt : i < s.size
    · have hli : i < (bs s).length := by rw [hls.out]; exact hlt
      have hcod := codF_snoc allB (bs s) i hli
      have hrow := rowT_snoc allB ((bs s).take i) ((bs s).getD i 0)
      rw [← take_snoc (bs s) i hli] at hrow
      rw [bs_sg, sg_eq s i hlt] at hcod hrow
      have HROW := hid hrow
      have HCOD := hid hcod
      have HFU := hid (rowT_full full_all ((bs s).take i))
      have hclen : (codF allB ((bs s).take i)).length ≤ 1000 := by rw [codF_len, List.length_take, hls.out]; omega
      generalize codF allB ((bs s).take i) = cs at HV HCOD hclen
      generalize rowT allB ((bs s).take i) = R at HR HROW HCOD HFU
      have HBef := fun k => hid (idx_before HFU.out (c := s[i]'hlt) (k := k))
      have HAt := hid (HFU.out.at_idx (s[i]'hlt))
      have hK := HFU.out.idx (s[i]'hlt)
      generalize R.idxOf (s[i]'hlt) = K at HROW HCOD HBef HAt hK
      clear hcod hrow hli
      obtain ⟨A, c, rfl, hlc, hcells, _⟩ := HR.out.cells
      obtain ⟨g, off, rfl, _, hg, hc⟩ := hcells (by rw [HFU.out.len]; omega)
      rw [HFU.out.len] at hc ⊢
      have HC := hid hc
      have HR6 := hid HR.out
      rw [HFU.out.len] at hlc
      clear hc hcells HR
      have h256 : Hid (R.length = 256) := hid HFU.out.len
      go_wp2_with fail
      obtain ⟨wz, hwz⟩ : ∃ z, z = wr := ⟨_, rfl⟩
      subst hwz
      go_loopw [6] (fun x wy => ∃ k q : Nat, k ≤ K ∧ x = .int .i64 k ∧ wy = wz.drewN q) (fun x _ => K - (intOf x).toNat)
      case atStart => exact ⟨0, 0, by omega, rfl, rfl⟩
      case round =>
        obtain ⟨k, q, hkK, rfl, rfl⟩ := hrel
        have ck := HC.out k (by omega)
        by_cases hkl : k < K
        · have hne := (HBef k).out hkl
          generalize R.getD k 0 = X at ck hne
          have q1 : ((X.toNat : Int) != ((s[i]'hlt).toNat : Int)) = true := by simpa using byte_apart hne
          clear hne
          go_wp2_with fail
          go_quiet (fail)
          go_wp2_with fail
          go_roundw
          case rel => exact ⟨k + 1, _, by omega, by go_num, rfl⟩
          case measure => simp [intOf]; omega
        · obtain rfl : k = K := by omega
          rw [HAt.out] at ck
          have q1 : (((s[i]'hlt).toNat : Int) != ((s[i]'hlt).toNat : Int)) = false := by simp
          clear HBef HAt
          go_wp2_with fail
          go_quiet (fail)
          rename_i nq _
          have HVy := hid ((HV.out.drewN q).drewN nq)
          have HRy := hid ((HR6.out.drewN q).drewN nq)
          have hby := below_drewN (below_drewN hb q) nq
          clear ck q1 HV HR6 hb HC
          generalize (wz.drewN q).drewN nq = wy at HVy HRy hby ⊢
          have hsz := hby.size
          go_wp2_with (at_builtin; refine wpList_append_apart _ rfl (.tmp 24) (.tmp 26) 22 rfl w.heap.size 3 i0 Tryd.underlying22 hi hz0 hz1 hz2 _ cs rfl HVy.out (k : Int) rfl (by omega) hsz Rb wy.heap.size (HU.out _) (Nat.le_refl _) ?_)
          intro v6 w6 ho6 hb6 hout6 hk6
          have HR7 := hid (HRy.out.kept hk6 (Nat.le_refl _))
          have HF := hid (rfront_any R _ Rb k w6 HR7.out h256.out hK)
          rw [h256.out] at HF
          have HV7 : Hid (OwnI w6 w.heap.size 3 v6 (cs ++ [(k : Int)])) := hid ho6
          have hb6w := hby.trans hb6
          clear ho6 hout6 hk6 HRy HVy hby hb6 HR7 HU
          go_wp2_with fail
          refine HF.out.mono ?_
          rintro e w7 ⟨v7, rfl, hO7, hb7⟩
          have HR8 := hid hO7
          have HV8 := hid (HV7.out.below hb7 (Nat.le_refl _))
          have HU8 := hid (fun hh => HV7.out.out (lo := w6.heap.size) (hi := hh) (Nat.le_refl _))
          have hb7w := hb6w.trans (hb7.mono hb6w.size)
          have hs6 := hb6w.size
          clear hO7 hb7 HV7 HF hb6w
          go_wp2_with fail
          go_roundw
          case rel => exact ⟨i + 1, w6.heap.size, by omega, by go_num, hs6, hid (by rw [HROW.out]; exact HR8.out), hid (by rw [HCOD.out]; exact HV8.out), HU8, hb7w⟩
          case measure => simp [intOf]; omega
    · obtain rfl : i = s.size := by omega
      have hV := HV.out
      rw [List.take_of_length_le (by rw [hls.out]; exact Nat.le_refl _)] at hV
      have HV2 := hid hV
      clear hV HV HR HU
      go_wp2_with fail
      go_ret
      exact ⟨_, rfl, HV2.out, hb⟩

theorem decF_snoc (r : List UInt8) (l : List Int) (i : Nat) (h : i < l.length) : decF r (l.take (i + 1)) = decF r (l.take i) ++ [(rowI r (l.take i)).getD (l.getD i 0).toNat 0] := by
  rw [decF_take, decF_take, take_snoc (d := 0) (decF r l) i (by rw [decF_len]; exact h), decF_at r l i h]
theorem inB_mem {l : List Int} {i : Nat} (h : InB l) (hi : i < l.length) : 0 ≤ l.getD i 0 ∧ l.getD i 0 ≤ 255 := h _ (by
  have e : l.getD i 0 = l[i] := by simp [List.getD_eq_getElem?_getD, hi]
  rw [e]
  exact List.getElem_mem hi)
set_option maxRecDepth 100000 in
set_option maxHeartbeats 2000000 in
theorem rtext_any (A : Option Addr) (n c : Nat) (l : List Int) (w : World) (h : n ≤ 1000) (hl : IsInts w w.heap.size A n l) (hB : InB l) :
    Calls Tryd.prog 10 #[.slice A n c] w fun e w' => e = .returned (.string (txt (decF allB l))) ∧ Below w.heap.size w w' := by
  obtain ⟨i0, hi, hz0, hz1, hz2⟩ := info_parts byteI
  have HA := hid (rall_any w)
  have HI := hid hl
  have hls := hid hl.1
  have HIB := hid hB
  clear hl hB
  go_enter Tryd.func10, Tryd.ntmps10
  go_wp2_with fail
  refine HA.out.mono ?_
  rintro e w1 ⟨v1, rfl, hO1, hb1⟩
  have HO1 := hid hO1
  clear hO1 HA
  go_wp2_with fail
  go_loopw [3, 4, 5] (fun r v x wr => ∃ i Rb : Nat, i ≤ n ∧ x = .int .i64 i ∧ w.heap.size ≤ Rb ∧ Hid (OwnB wr Rb 5 r (rowI allB (l.take i))) ∧ Hid (OwnB wr w.heap.size 5 v (decF allB (l.take i))) ∧ Hid (∀ hh, Out v Rb hh) ∧ Below w.heap.size w wr) (fun _ _ x _ => n - (intOf x).toNat)
  case atStart => exact ⟨0, w.heap.size, by omega, rfl, Nat.le_refl _, HO1, hid (OwnB.nil _ _ _), hid (fun hh => out_nil _ hh), hb1⟩
  case round =>
    clear HO1 hb1
    obtain ⟨i, Rb, hin, rfl, hRb, HR, HV, HU, hb⟩ := hrel
    by_cases hlt : i < n
    · have hli : i < l.length := by rw [hls.out]; exact hlt
      obtain ⟨g0, off0, rfl, hg0, hc0⟩ := HI.out.2 (by omega)
      have hl0 := hc0 i hlt
      have hk := inB_mem HIB.out hli
      have hdec := decF_snoc allB l i hli
      have hrow := rowI_snoc allB (l.take i) (l.getD i 0)
      rw [← take_snoc (d := 0) l i hli] at hrow
      obtain ⟨K, hKe⟩ : ∃ K : Nat, l.getD i 0 = (K : Int) := ⟨(l.getD i 0).toNat, by omega⟩
      rw [hKe] at hl0 hdec hrow hk
      rw [Int.toNat_natCast] at hdec hrow
      have hK : K < 256 := by omega
      have HL0 := hid hl0
      have HROW := hid hrow
      have HDEC := hid hdec
      have HFU := hid (rowI_full full_all (l := l.take i) (fun x hx => HIB.out x (List.mem_of_mem_take hx)))
      have hclen : (decF allB (l.take i)).length ≤ 1000 := by rw [decF_len, List.length_take, hls.out]; omega
      generalize decF allB (l.take i) = cs at HV HDEC hclen
      generalize rowI allB (l.take i) = R at HR HROW HDEC HFU
      clear hdec hrow hli hKe hl0 hk hc0
      obtain ⟨A, c2, rfl, hlc, hcells, _⟩ := HR.out.cells
      obtain ⟨g, off, rfl, _, hg, hc⟩ := hcells (by rw [HFU.out.len]; omega)
      rw [HFU.out.len] at hc hlc ⊢
      have ck := hc K hK
      have cl := (hb.cell (p := ⟨g0, off0 + i, none⟩) hg0).trans HL0.out
      have HR6 := hid HR.out
      have h256 : Hid (R.length = 256) := hid HFU.out.len
      clear hc hcells HR
      generalize R.getD K 0 = X at ck HDEC
      have hsz := hb.size
      have k1 : (K : Int) < 256 := by omega
      go_wp2_with (at_builtin; refine wpList_append_byte _ rfl (.tmp 13) (.tmp 21) 36 rfl w.heap.size 5 i0 Tryd.underlying36 hi hz0 hz1 hz2 _ cs rfl HV.out X rfl (by omega) hsz Rb wr.heap.size (HU.out _) (Nat.le_refl _) ?_)
      intro v6 w6 ho6 hb6 hout6 hk6
      have HR7 := hid (HR6.out.kept hk6 (Nat.le_refl _))
      have HF := hid (rfront_any R _ Rb K w6 HR7.out h256.out hK)
      rw [h256.out] at HF
      have HV7 : Hid (OwnB w6 w.heap.size 5 v6 (cs ++ [X])) := hid ho6
      have hb6w := hb.trans hb6
      have cl6 := (hb6w.cell (p := ⟨g0, off0 + i, none⟩) hg0).trans HL0.out
      clear ho6 hout6 hk6 HV hb hb6 HR7 HU HR6 ck cl
      go_wp2_with fail
      refine HF.out.mono ?_
      rintro e w7 ⟨v7, rfl, hO7, hb7⟩
      have HR8 := hid hO7
      have HV8 := hid (HV7.out.below hb7 (Nat.le_refl _))
      have HU8 := hid (fun hh => HV7.out.out (lo := w6.heap.size) (hi := hh) (Nat.le_refl _))
      have hb7w := hb6w.trans (hb7.mono hb6w.size)
      have hs6 := hb6w.size
      clear hO7 hb7 HV7 HF hb6w cl6
      go_wp2_with fail
      go_roundw
      case rel => exact ⟨i + 1, w6.heap.size, by omega, by go_num, hs6, hid (by rw [HROW.out]; exact HR8.out), hid (by rw [HDEC.out]; exact HV8.out), HU8, hb7w⟩
      case measure => simp [intOf]; omega
    · obtain rfl : i = n := by omega
      have hV := HV.out
      rw [List.take_of_length_le (by rw [hls.out]; exact Nat.le_refl _)] at hV
      have hcv := conv_own hV
      obtain ⟨X, hX⟩ : ∃ X, X = txt (decF allB l) := ⟨_, rfl⟩
      rw [← hX] at hcv
      have HX := hid hX
      clear hX hV HV HR HU
      go_wp2_with fail
      go_ret
      exact ⟨by rw [← HX.out]; rfl, hb⟩

theorem rin_take {l : List Int} {i : Nat} (h : InB (l.take i)) (hi : i < l.length) (hk : 0 ≤ l.getD i 0 ∧ l.getD i 0 ≤ 255) : InB (l.take (i + 1)) := by
  intro k hm
  rw [take_snoc (d := 0) l i hi] at hm
  rcases List.mem_append.1 hm with hm | hm
  · exact h k hm
  · rw [List.mem_singleton.1 hm]; exact hk
set_option maxHeartbeats 1000000 in
theorem rAll_any (A : Option Addr) (n c : Nat) (l : List Int) (w : World) (h : n ≤ 1000) (hl : IsInts w w.heap.size A n l) :
    Calls Tryd.prog 9 #[.slice A n c, .int .i64 0, .int .i64 255] w fun e w' => ((InB l ∧ e = .returned (.bool true)) ∨ (¬ InB l ∧ e = .returned (.bool false))) ∧ w' = w := by
  have HI := hid hl
  have hls := hid hl.1
  clear hl
  go_enter Tryd.func9, Tryd.ntmps9
  go_wp2_with fail
  go_loopw [7] (fun x wr => ∃ i : Nat, i ≤ n ∧ x = .int .i64 i ∧ Hid (InB (l.take i)) ∧ wr = w) (fun x _ => n - (intOf x).toNat)
  case atStart => exact ⟨0, by omega, rfl, hid (fun k hk => by simp at hk), rfl⟩
  case round =>
    obtain ⟨i, hin, rfl, HB, hwr⟩ := hrel
    subst hwr
    by_cases hlt : i < n
    · have hli : i < l.length := by rw [hls.out]; exact hlt
      obtain ⟨g, off, rfl, hg, hc⟩ := HI.out.2 (by omega)
      have c1 := hc i hlt
      by_cases hk : 0 ≤ l.getD i 0 ∧ l.getD i 0 ≤ 255
      · have HB2 := hid (rin_take HB.out hli hk)
        have HN := fun W => hid (in2_yes (l.getD i 0) 0 255 W hk.1 hk.2)
        generalize l.getD i 0 = K at c1 HN
        clear hk hli hc HB
        go_wp2_with fail
        refine (HN _).out.mono ?_
        rintro e w5 ⟨rfl, hw5⟩
        subst w5
        go_wp2_with fail
        go_roundw
        case rel => exact ⟨i + 1, by omega, by go_num, HB2, by first | rfl | trivial⟩
        case measure => simp [intOf]; omega
      · have HNB : Hid (¬ InB l) := hid (fun hB => hk (inB_mem hB hli))
        have HN := fun W => hid (in2_no (l.getD i 0) 0 255 W hk)
        generalize l.getD i 0 = K at c1 HN
        clear hk hli hc HB
        go_wp2_with fail
        refine (HN _).out.mono ?_
        rintro e w5 ⟨rfl, hw5⟩
        subst w5
        go_wp2_with fail
        go_ret
        exact ⟨.inr ⟨HNB.out, rfl⟩, rfl⟩
    · obtain rfl : i = n := by omega
      have HBn : Hid (InB l) := hid (by have := HB.out; rwa [List.take_of_length_le (by rw [hls.out]; exact Nat.le_refl _)] at this)
      clear HB
      go_wp2_with fail
      go_ret
      exact ⟨.inl ⟨HBn.out, rfl⟩, rfl⟩
end Go.Proofs.YtceipfmdgpnagaaDoor
