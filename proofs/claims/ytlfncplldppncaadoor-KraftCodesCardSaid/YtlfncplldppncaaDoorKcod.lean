/-
  Contracts of kraft.Codes: the codes of lengths, or the error that comes first. Conditions: none.
-/
import Derived.Test.YtlfncplldppncaaDoorKroom
import Derived.Test.YtlfncplldppncaaDoorKlen
import Derived.Test.YtlfncplldppncaaDoorKbin
import Derived.Test.YtlfncplldppncaaDoorCodeT
import Derived.Deep.RegionWith
namespace Go.Proofs.YtlfncplldppncaaDoor
open Go.RowKit

theorem strI : (Tryd.prog.info? 9).map (fun i => (i.zero, i.size, i.bytes)) = some (some (.string ByteArray.empty), 1, 16) := by kernel_rfl
/-- The row of codes in block C, those of l there; the order of the places in block O. -/
structure CodS (w : World) (C O n : Nat) (E o l : List Nat) (W : World) : Prop where
  row : BlkAt W C 9 ((crow E l).map Value.string)
  ord : ∀ j, j < n → W.cell? ⟨O, j, none⟩ = some (.int .i64 ((o.getD j 0 : Nat) : Int))
  lt : O < W.heap.size
  bel : Below w.heap.size w W
theorem CodS.drewN {w W : World} {C O n : Nat} {E o l : List Nat} (h : CodS w C O n E o l W) (q : Nat) : CodS w C O n E o l (W.drewN q) := ⟨h.row, h.ord, h.lt, below_drewN h.bel q⟩
theorem CodS.below {w W W' : World} {C O n : Nat} {E o l : List Nat} (h : CodS w C O n E o l W) (hb : Below W.heap.size W W') : CodS w C O n E o l W' :=
  ⟨h.row.below hb (Nat.le_refl _), fun j hj => (hb.cell (p := ⟨O, j, none⟩) h.lt).trans (h.ord j hj), Nat.lt_of_lt_of_le h.lt hb.size, h.bel.trans (hb.mono h.bel.size)⟩
theorem CodS.set {w W : World} {C O n : Nat} {E o l : List Nat} (h : CodS w C O n E o l W) (hne : O ≠ C) (hC : w.heap.size ≤ C) (i : Nat) : CodS w C O n E o (l ++ [i]) (W.setCell ⟨C, i, none⟩ (.string (txt (codeL E i)))) := by
  have h1 := h.row.stored i (.string (txt (codeL E i)))
  rw [← List.map_set, crow_set] at h1
  exact ⟨h1.1, fun j hj => (h1.2.cell hne).trans (h.ord j hj), by rw [h1.2.size]; exact h.lt, h.bel.trans (h1.2.below hC)⟩

set_option maxRecDepth 100000 in
set_option maxHeartbeats 4000000 in
theorem kcodes_ok (A : Option Addr) (n c : Nat) (E : List Nat) (w : World) (hl : IsInts w w.heap.size A n (nums E)) (h10 : n ≤ 10) (hE : LenOk E) (hr : rm 12 E ≤ 4096) :
    Calls Tryd.prog 11 #[.slice A n c] w fun e w' => ∃ B cB, e = .returned (.tuple #[.slice B n cB, .nilIface]) ∧ IsStrs w' w'.heap.size B n (codeT E) ∧ Below w.heap.size w w' := by
  obtain ⟨i0, hi, hz0, hz1, hz2⟩ := info_parts strI
  have HR := hid (kroom_ok A n c E w hl h10 hE)
  have HLn : Hid (E.length = n) := hid (by rw [← nums_len]; exact hl.1)
  have HB := fun (W : World) (h : Below w.heap.size w W) => hid (blen_any A n c E W ((hl.below h).keep (w' := W) h.size fun _ _ _ => rfl) h10 hE)
  have HI := hid hl
  have HE := hid hE
  have HRm := hid hr
  clear hl hE
  have r1 : ¬ (4096 < ((rm 12 E : Nat) : Int)) := by omega
  generalize rm 12 E = R at HR r1
  clear hr
  go_enter Tryd.func11, Tryd.ntmps11
  go_wp2_with fail
  refine HR.out.mono ?_
  rintro e w1 ⟨rfl, hb1⟩
  clear HR
  go_wp2_with (at_make; refine wpList_make_full _ rfl _ _ 23 rfl w1.heap.size 9 i0 (.string ByteArray.empty) 1 Tryd.underlying23 hi hz0 hz1 _ _ _ _ n rfl rfl rfl rfl (by rw [hz2]; omega) (by unfold maxLen; omega) (Nat.le_refl _) ?_)
  intro w2 hown hgr
  have hb2 : Below w1.heap.size w1 w2 := (Below.refl _ _).grown hgr (Nat.le_refl _) (by intro k hk; cases hk)
  have hB : BlkAt w2 w1.heap.size 9 ((crow E []).map Value.string) := by
    rw [crow_nil, HLn.out, List.map_replicate]
    have h2 : w2.ownsRow w1.heap.size 9 1 (.slice (some ⟨w1.heap.size, 0, none⟩) n n) n (madeCells #[Value.string ByteArray.empty] n).toList := by simpa using hown
    rw [toList_madeCells_one] at h2
    exact BlkAt.of_own h2
  have HB2 := hid hB
  have hCw := hb1.size
  have hC2 := hB.lt
  have hbw := hb1.trans (hb2.mono hb1.size)
  have HL := HB w2 hbw
  clear hown hgr hB HB hi hz0 hz1 hz2 hb1 hb2
  generalize w1.heap.size = C at HB2 hCw hC2 ⊢
  go_wp2_with fail
  refine HL.out.mono ?_
  rintro e w3 ⟨o, rfl, hO, hI, hb3⟩
  have HO := hid hO
  have HOl := hid (ord_len hO)
  have hCS : CodS w C (w2.heap.size + 1) n E o (o.take 0) w3 := by
    rw [List.take_zero]
    exact ⟨HB2.out.below hb3 (Nat.le_refl _), hI.2, hI.1, hbw.trans (hb3.mono hbw.size)⟩
  have HCS := hid hCS
  have hOC : w2.heap.size + 1 ≠ C := by omega
  clear hO hI hb3 HB2 hbw HL hCS hC2
  generalize w2.heap.size + 1 = O at HCS hOC ⊢
  go_wp2_with fail
  go_loopw [7, 28] (fun v x wr => ∃ t : Nat, t ≤ n ∧ x = .int .i64 t ∧ v = .int .i64 (tkn E (o.take t) : Nat) ∧ Hid (CodS w C O n E o (o.take t) wr)) (fun _ x _ => n - (intOf x).toNat)
  case atStart => exact ⟨0, by omega, rfl, rfl, HCS⟩
  case round =>
    clear HCS
    obtain ⟨t, htn, rfl, rfl, HS⟩ := hrel
    by_cases hlt : t < n
    · have hto : t < o.length := by rw [HOl.out, HLn.out]; exact hlt
      have c1 := HS.out.ord t hlt
      have hi := ord_lt HO.out hto
      have hah := ord_ahd HO.out hto
      have hnx := ord_next (E := E) hto
      have htk : o.take (t + 1) = o.take t ++ [o.getD t 0] := by
        rw [List.take_succ_eq_append_getElem hto]
        simp [hto]
      rw [htk] at hnx
      have HNx := hid hnx
      have HTk := hid htk
      clear hnx htk
      obtain ⟨g, off, rfl, hg, hc⟩ := HI.out.2 (by omega)
      have hcl : ∀ W, CodS w C O n E o (o.take t) W → ∀ j, j < n → W.cell? ⟨g, off + j, none⟩ = some (.int .i64 ((E.getD j 0 : Nat) : Int)) := fun W hW j hj => by
        rw [← nums_at]
        exact (hW.bel.cell (p := ⟨g, off + j, none⟩) hg).trans (hc j hj)
      have hbT : tkn E (o.take t) ≤ 4096 := by
        rw [hah]
        exact Nat.le_trans (usd_all _ _ _) HRm.out
      have hcv : tkn E (o.take t) / 2 ^ (12 - E.getD (o.getD t 0) 0) = cvN E (o.getD t 0) := by rw [hah]; rfl
      have hlc := cvN_lt HE.out HRm.out hi
      have h12 := (HE.out _ hi).2
      have hin : o.getD t 0 < n := by rw [← HLn.out]; exact hi
      generalize o.getD t 0 = i at c1 hi hah hcv hlc h12 hin HNx HTk
      have c2 := hcl wr HS.out i hin
      have HSh := fun W => hid (share_any (E.getD i 0) W h12)
      have hY0 : 0 < 2 ^ (12 - E.getD i 0) := Nat.pow_pos (by decide)
      have hY1 : 2 ^ (12 - E.getD i 0) ≤ 4096 := pow_le (n := 12) (by omega)
      have hV : cvN E i ≤ 4096 := Nat.le_trans (Nat.le_of_lt hlc) (pow_le (n := 12) h12)
      have HX : Hid (wrap64 (((tkn E (o.take t) : Nat) : Int) / ((2 ^ (12 - E.getD i 0) : Nat) : Int)) = ((cvN E i : Nat) : Int)) := hid (by
        rw [← Int.natCast_ediv, hcv]
        rw [← IntWalk.i64_left, IntWalk.i64_in _ (by omega)])
      have HBn := fun W (hW : CodS w C O n E o (o.take t) W) => hid (show Calls Tryd.prog 25 #[.int .i64 (wrap64 (((tkn E (o.take t) : Nat) : Int) / ((2 ^ (12 - E.getD i 0) : Nat) : Int))), .int .i64 ((E.getD i 0 : Nat) : Int)] W (fun e w' => e = .returned (.string (txt (codeL E i))) ∧ CodS w C O n E o (o.take t) w') by
        rw [HX.out]
        exact (binary_any (cvN E i) (E.getD i 0) W hV h12).mono fun e w' ⟨h1, h2⟩ => ⟨h1, hW.below h2⟩)
      have HSt : Hid (∀ W, CodS w C O n E o (o.take t) W → (∃ x, W.cell? ⟨C, i, none⟩ = some x) ∧ W.frozen? ⟨C, i, none⟩ = false ∧ CodS w C O n E o (o.take (t + 1)) (W.setCell ⟨C, i, none⟩ (.string (txt (codeL E i))))) := hid (fun W hW => by
        rw [HTk.out]
        exact ⟨⟨_, hW.row.cell (k := i) (v := .string ((crow E (o.take t)).getD i ByteArray.empty)) (by rw [List.getElem?_map, List.getD_eq_getElem?_getD, List.getElem?_eq_getElem (by rw [crow_len]; exact hi)]; rfl)⟩, hW.row.frozen i, hW.set hOC hCw i⟩)
      obtain ⟨x, cL⟩ := (HSt.out wr HS.out).1
      have fL := (HSt.out wr HS.out).2.1
      have HNs : Hid (tkn E (o.take (t + 1)) = tkn E (o.take t) + 2 ^ (12 - E.getD i 0)) := hid (by rw [HTk.out]; exact HNx.out)
      generalize 2 ^ (12 - E.getD i 0) = Y at HSh hY0 hY1 HBn HNs HX
      generalize E.getD i 0 = D at c2 HSh HBn h12
      generalize tkn E (o.take t) = T at hbT HBn HNs HX ⊢
      generalize txt (codeL E i) = X at HBn HSt
      have y1 : ¬ ((Y : Int) = 0) := by omega
      have i1 : (i : Int) < (n : Int) := by omega
      clear hah hcv hlc hV hi hto hc hcl HNx HTk HX
      go_wp2_with fail
      refine (HSh _).out.mono ?_
      rintro e w5 ⟨rfl, hw5⟩
      subst w5
      clear HSh
      go_wp2_with fail
      go_region_with (go_at_call 25; refine (HBn _ (by first | exact HS.out | exact HS.out.drewN 1)).out.mono ?_; rintro e w6 ⟨rfl, hS6⟩; have HS6 := hid hS6; clear hS6; obtain ⟨⟨x6, cL6⟩, fL6, _⟩ := HSt.out w6 HS6.out)
      all_goals (
        go_wp2_with fail
        go_roundw
        case rel => exact ⟨t + 1, by omega, by go_num, by rw [HNs.out]; push_cast; rfl, hid (by first | exact (HSt.out _ HS6.out).2.2 | exact (HSt.out _ (HS6.out.drewN 1)).2.2)⟩
        case measure => simp [intOf]; omega)
    · obtain rfl : t = n := by omega
      have hS := HS.out
      rw [List.take_of_length_le (by rw [HOl.out, HLn.out]; exact Nat.le_refl _)] at hS ⊢
      have hIs : IsStrs wr wr.heap.size (some ⟨C, 0, none⟩) t (codeT E) := by
        have h1 := hS.row
        rw [crow_all (fun j hj => HO.out.1.mem_iff.2 (List.mem_range.2 hj))] at h1
        refine ⟨by rw [codeT_len, HLn.out], fun _ => ⟨C, 0, rfl, h1.lt, fun j hj => ?_⟩⟩
        rw [Nat.zero_add]
        refine h1.cell ?_
        rw [List.getElem?_map, wat_get (by rw [codeT_len, HLn.out]; exact hj)]
        rfl
      have HIs := hid hIs
      have hbe := hS.bel
      generalize tkn E o = T
      clear hS HS hIs
      go_wp2_with fail
      go_ret2
      exact ⟨_, _, rfl, HIs.out, hbe⟩

theorem kcodes_clash (A : Option Addr) (n c : Nat) (E : List Nat) (w : World) (hl : IsInts w w.heap.size A n (nums E)) (h10 : n ≤ 10) (hE : LenOk E) (hr : 4096 < rm 12 E) :
    Calls Tryd.prog 11 #[.slice A n c] w fun e w' => e = .returned (.tuple #[.slice none 0 0, .iface 44 (.int .i64 6)]) ∧ Below w.heap.size w w' := by
  have HR := hid (kroom_ok A n c E w hl h10 hE)
  have r1 : 4096 < ((rm 12 E : Nat) : Int) := by omega
  generalize rm 12 E = R at HR r1
  clear hl hE hr
  go_enter Tryd.func11, Tryd.ntmps11
  go_wp2_with fail
  refine HR.out.mono ?_
  rintro e w1 ⟨rfl, hb1⟩
  clear HR
  go_wp2_with fail
  go_ret2
  exact ⟨rfl, hb1⟩
theorem kcodes_bad (A : Option Addr) (n c : Nat) (ys : List Int) (k : Int) (w : World) (hl : IsInts w w.heap.size A n ys) (hk : LenC ys k) (hk0 : k ≠ 0) :
    Calls Tryd.prog 11 #[.slice A n c] w fun e w' => e = .returned (.tuple #[.slice none 0 0, .iface 44 (.int .i64 k)]) ∧ Below w.heap.size w w' := by
  have HR := hid (kroom_bad A n c ys k w hl hk hk0)
  clear hl hk hk0
  go_enter Tryd.func11, Tryd.ntmps11
  go_wp2_with fail
  refine HR.out.mono ?_
  rintro e w1 ⟨rfl, hb1⟩
  clear HR
  go_wp2_with fail
  go_ret2
  exact ⟨rfl, hb1⟩
end Go.Proofs.YtlfncplldppncaaDoor
