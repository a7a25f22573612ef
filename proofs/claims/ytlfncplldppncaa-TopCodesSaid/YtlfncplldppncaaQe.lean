/-
  Several of this claim's texts in one (Kcod, Maps, Tcheck, Pref, OwnS, Ostr, SardR, Ksd, Krest, Kq): what each proves stands at its own head. Conditions: as each says.
-/
import Derived.Deep.RegionWith
import Derived.Maps.OwnSet
import Derived.Maps.RangeWalk
import Derived.OneCell
import Derived.StringKeys
import Derived.ArgAppend
import Derived.Maps.AppendAt
import Derived.RangeFuncBox
import Derived.Test.YtlfncplldppncaaQd

/-
  Contracts of kraft.Codes: the codes of lengths, or the error that comes first. Conditions: none.
-/
namespace Go.Proofs.Ytlfncplldppncaa
open Go.RowKit

theorem strI : (Try.prog.info? 9).map (fun i => (i.zero, i.size, i.bytes)) = some (some (.string ByteArray.empty), 1, 16) := by kernel_rfl
/-- The row of codes in block C, those of l there; the order of the places in block O. -/
structure CodS (w : World) (C O n : Nat) (E o l : List Nat) (W : World) : Prop where
  row : BlkAt W C 9 ((crow E l).map Value.string)
  ord : ∀ j, j < n → W.cell? ⟨O, j, none⟩ = some (.int .i64 ((o.getD j 0 : Nat) : Int))
  lt : O < W.heap.size
  bel : Below w.heap.size w W
theorem CodS.drewN {w W : World} {C O n : Nat} {E o l : List Nat} (h : CodS w C O n E o l W) (q : Nat) : CodS w C O n E o l (W.drewN q) := ⟨h.row, h.ord, h.lt, below_drewN h.bel q⟩
theorem CodS.below {w W W' : World} {C O n : Nat} {E o l : List Nat} (h : CodS w C O n E o l W) (hb : Below W.heap.size W W') : CodS w C O n E o l W' :=
  ⟨h.row.below hb (Nat.le_refl _), fun j hj => (hb.cell (p := ⟨O, j, none⟩) h.lt).trans (h.ord j hj), Nat.lt_of_lt_of_le h.lt hb.size, h.bel.trans (hb.mono h.bel.size)⟩
theorem CodS.set {w W : World} {C O n : Nat} {E o l : List Nat} (h : CodS w C O n E o l W) (hne : O ≠ C) (hC : w.heap.size ≤ C) (i : Nat) : CodS w C O n E o (l ++ [i]) (W.setCell ⟨C, i, none⟩ (.string (txt (codeL E i)))) := by
  have h1 := h.row.stored i (.string (txt (codeL E i)))
  rw [← List.map_set, crow_set] at h1
  exact ⟨h1.1, fun j hj => (h1.2.cell hne).trans (h.ord j hj), by rw [h1.2.size]; exact h.lt, h.bel.trans (h1.2.below hC)⟩

set_option maxRecDepth 100000 in
set_option maxHeartbeats 4000000 in
theorem kcodes_ok (A : Option Addr) (n c : Nat) (E : List Nat) (w : World) (hl : IsInts w w.heap.size A n (nums E)) (h10 : n ≤ 10) (hE : LenOk E) (hr : rm 12 E ≤ 4096) :
    Calls Try.prog 14 #[.slice A n c] w fun e w' => ∃ B cB, e = .returned (.tuple #[.slice B n cB, .nilIface]) ∧ IsStrs w' w'.heap.size B n (codeT E) ∧ Below w.heap.size w w' := by
  obtain ⟨i0, hi, hz0, hz1, hz2⟩ := info_parts strI
  have HR := hid (kroom_ok A n c E w hl h10 hE)
  have HLn : Hid (E.length = n) := hid (by rw [← nums_len]; exact hl.1)
  have HB := fun (W : World) (h : Below w.heap.size w W) => hid (blen_any A n c E W ((hl.below h).keep (w' := W) h.size fun _ _ _ => rfl) h10 hE)
  have HI := hid hl
  have HE := hid hE
  have HRm := hid hr
  clear hl hE
  have r1 : ¬ (4096 < ((rm 12 E : Nat) : Int)) := by omega
  generalize rm 12 E = R at HR r1
  clear hr
  go_enter Try.func14, Try.ntmps14
  go_wp2_with fail
  refine HR.out.mono ?_
  rintro e w1 ⟨rfl, hb1⟩
  clear HR
  go_wp2_with (at_make; refine wpList_make_full _ rfl _ _ 22 rfl w1.heap.size 9 i0 (.string ByteArray.empty) 1 Try.underlying22 hi hz0 hz1 _ _ _ _ n rfl rfl rfl rfl (by rw [hz2]; omega) (by unfold maxLen; omega) (Nat.le_refl _) ?_)
  intro w2 hown hgr
  have hb2 : Below w1.heap.size w1 w2 := (Below.refl _ _).grown hgr (Nat.le_refl _) (by intro k hk; cases hk)
  have hB : BlkAt w2 w1.heap.size 9 ((crow E []).map Value.string) := by
    rw [crow_nil, HLn.out, List.map_replicate]
    have h2 : w2.ownsRow w1.heap.size 9 1 (.slice (some ⟨w1.heap.size, 0, none⟩) n n) n (madeCells #[Value.string ByteArray.empty] n).toList := by simpa using hown
    rw [toList_madeCells_one] at h2
    exact BlkAt.of_own h2
  have HB2 := hid hB
  have hCw := hb1.size
  have hC2 := hB.lt
  have hbw := hb1.trans (hb2.mono hb1.size)
  have HL := HB w2 hbw
  clear hown hgr hB HB hi hz0 hz1 hz2 hb1 hb2
  generalize w1.heap.size = C at HB2 hCw hC2 ⊢
  go_wp2_with fail
  refine HL.out.mono ?_
  rintro e w3 ⟨o, rfl, hO, hI, hb3⟩
  have HO := hid hO
  have HOl := hid (ord_len hO)
  have hCS : CodS w C (w2.heap.size + 1) n E o (o.take 0) w3 := by
    rw [List.take_zero]
    exact ⟨HB2.out.below hb3 (Nat.le_refl _), hI.2, hI.1, hbw.trans (hb3.mono hbw.size)⟩
  have HCS := hid hCS
  have hOC : w2.heap.size + 1 ≠ C := by omega
  clear hO hI hb3 HB2 hbw HL hCS hC2
  generalize w2.heap.size + 1 = O at HCS hOC ⊢
  go_wp2_with fail
  go_loopw [7, 28] (fun v x wr => ∃ t : Nat, t ≤ n ∧ x = .int .i64 t ∧ v = .int .i64 (tkn E (o.take t) : Nat) ∧ Hid (CodS w C O n E o (o.take t) wr)) (fun _ x _ => n - (intOf x).toNat)
  case atStart => exact ⟨0, by omega, rfl, rfl, HCS⟩
  case round =>
    clear HCS
    obtain ⟨t, htn, rfl, rfl, HS⟩ := hrel
    by_cases hlt : t < n
    · have hto : t < o.length := by rw [HOl.out, HLn.out]; exact hlt
      have c1 := HS.out.ord t hlt
      have hi := ord_lt HO.out hto
      have hah := ord_ahd HO.out hto
      have hnx := ord_next (E := E) hto
      have htk : o.take (t + 1) = o.take t ++ [o.getD t 0] := by
        rw [List.take_succ_eq_append_getElem hto]
        simp [hto]
      rw [htk] at hnx
      have HNx := hid hnx
      have HTk := hid htk
      clear hnx htk
      obtain ⟨g, off, rfl, hg, hc⟩ := HI.out.2 (by omega)
      have hcl : ∀ W, CodS w C O n E o (o.take t) W → ∀ j, j < n → W.cell? ⟨g, off + j, none⟩ = some (.int .i64 ((E.getD j 0 : Nat) : Int)) := fun W hW j hj => by
        rw [← nums_at]
        exact (hW.bel.cell (p := ⟨g, off + j, none⟩) hg).trans (hc j hj)
      have hbT : tkn E (o.take t) ≤ 4096 := by
        rw [hah]
        exact Nat.le_trans (usd_all _ _ _) HRm.out
      have hcv : tkn E (o.take t) / 2 ^ (12 - E.getD (o.getD t 0) 0) = cvN E (o.getD t 0) := by rw [hah]; rfl
      have hlc := cvN_lt HE.out HRm.out hi
      have h12 := (HE.out _ hi).2
      have hin : o.getD t 0 < n := by rw [← HLn.out]; exact hi
      generalize o.getD t 0 = i at c1 hi hah hcv hlc h12 hin HNx HTk
      have c2 := hcl wr HS.out i hin
      have HSh := fun W => hid (share_any (E.getD i 0) W h12)
      have hY0 : 0 < 2 ^ (12 - E.getD i 0) := Nat.pow_pos (by decide)
      have hY1 : 2 ^ (12 - E.getD i 0) ≤ 4096 := pow_le (n := 12) (by omega)
      have hV : cvN E i ≤ 4096 := Nat.le_trans (Nat.le_of_lt hlc) (pow_le (n := 12) h12)
      have HX : Hid (wrap64 (((tkn E (o.take t) : Nat) : Int) / ((2 ^ (12 - E.getD i 0) : Nat) : Int)) = ((cvN E i : Nat) : Int)) := hid (by
        rw [← Int.natCast_ediv, hcv]
        rw [← IntWalk.i64_left, IntWalk.i64_in _ (by omega)])
      have HBn := fun W (hW : CodS w C O n E o (o.take t) W) => hid (show Calls Try.prog 33 #[.int .i64 (wrap64 (((tkn E (o.take t) : Nat) : Int) / ((2 ^ (12 - E.getD i 0) : Nat) : Int))), .int .i64 ((E.getD i 0 : Nat) : Int)] W (fun e w' => e = .returned (.string (txt (codeL E i))) ∧ CodS w C O n E o (o.take t) w') by
        rw [HX.out]
        exact (binary_any (cvN E i) (E.getD i 0) W hV h12).mono fun e w' ⟨h1, h2⟩ => ⟨h1, hW.below h2⟩)
      have HSt : Hid (∀ W, CodS w C O n E o (o.take t) W → (∃ x, W.cell? ⟨C, i, none⟩ = some x) ∧ W.frozen? ⟨C, i, none⟩ = false ∧ CodS w C O n E o (o.take (t + 1)) (W.setCell ⟨C, i, none⟩ (.string (txt (codeL E i))))) := hid (fun W hW => by
        rw [HTk.out]
        exact ⟨⟨_, hW.row.cell (k := i) (v := .string ((crow E (o.take t)).getD i ByteArray.empty)) (by rw [List.getElem?_map, List.getD_eq_getElem?_getD, List.getElem?_eq_getElem (by rw [crow_len]; exact hi)]; rfl)⟩, hW.row.frozen i, hW.set hOC hCw i⟩)
      obtain ⟨x, cL⟩ := (HSt.out wr HS.out).1
      have fL := (HSt.out wr HS.out).2.1
      have HNs : Hid (tkn E (o.take (t + 1)) = tkn E (o.take t) + 2 ^ (12 - E.getD i 0)) := hid (by rw [HTk.out]; exact HNx.out)
      generalize 2 ^ (12 - E.getD i 0) = Y at HSh hY0 hY1 HBn HNs HX
      generalize E.getD i 0 = D at c2 HSh HBn h12
      generalize tkn E (o.take t) = T at hbT HBn HNs HX ⊢
      generalize txt (codeL E i) = X at HBn HSt
      have y1 : ¬ ((Y : Int) = 0) := by omega
      have i1 : (i : Int) < (n : Int) := by omega
      clear hah hcv hlc hV hi hto hc hcl HNx HTk HX
      go_wp2_with fail
      refine (HSh _).out.mono ?_
      rintro e w5 ⟨rfl, hw5⟩
      subst w5
      clear HSh
      go_wp2_with fail
      go_region_with (go_at_call 33; refine (HBn _ (by first | exact HS.out | exact HS.out.drewN 1)).out.mono ?_; rintro e w6 ⟨rfl, hS6⟩; have HS6 := hid hS6; clear hS6; obtain ⟨⟨x6, cL6⟩, fL6, _⟩ := HSt.out w6 HS6.out)
      all_goals (
        go_wp2_with fail
        go_roundw
        case rel => exact ⟨t + 1, by omega, by go_num, by rw [HNs.out]; push_cast; rfl, hid (by first | exact (HSt.out _ HS6.out).2.2 | exact (HSt.out _ (HS6.out.drewN 1)).2.2)⟩
        case measure => simp [intOf]; omega)
    · obtain rfl : t = n := by omega
      have hS := HS.out
      rw [List.take_of_length_le (by rw [HOl.out, HLn.out]; exact Nat.le_refl _)] at hS ⊢
      have hIs : IsStrs wr wr.heap.size (some ⟨C, 0, none⟩) t (codeT E) := by
        have h1 := hS.row
        rw [crow_all (fun j hj => HO.out.1.mem_iff.2 (List.mem_range.2 hj))] at h1
        refine ⟨by rw [codeT_len, HLn.out], fun _ => ⟨C, 0, rfl, h1.lt, fun j hj => ?_⟩⟩
        rw [Nat.zero_add]
        refine h1.cell ?_
        rw [List.getElem?_map, wat_get (by rw [codeT_len, HLn.out]; exact hj)]
        rfl
      have HIs := hid hIs
      have hbe := hS.bel
      generalize tkn E o = T
      clear hS HS hIs
      go_wp2_with fail
      go_ret2
      exact ⟨_, _, rfl, HIs.out, hbe⟩

theorem kcodes_clash (A : Option Addr) (n c : Nat) (E : List Nat) (w : World) (hl : IsInts w w.heap.size A n (nums E)) (h10 : n ≤ 10) (hE : LenOk E) (hr : 4096 < rm 12 E) :
    Calls Try.prog 14 #[.slice A n c] w fun e w' => e = .returned (.tuple #[.slice none 0 0, .iface 58 (.int .i64 6)]) ∧ Below w.heap.size w w' := by
  have HR := hid (kroom_ok A n c E w hl h10 hE)
  have r1 : 4096 < ((rm 12 E : Nat) : Int) := by omega
  generalize rm 12 E = R at HR r1
  clear hl hE hr
  go_enter Try.func14, Try.ntmps14
  go_wp2_with fail
  refine HR.out.mono ?_
  rintro e w1 ⟨rfl, hb1⟩
  clear HR
  go_wp2_with fail
  go_ret2
  exact ⟨rfl, hb1⟩
theorem kcodes_bad (A : Option Addr) (n c : Nat) (ys : List Int) (k : Int) (w : World) (hl : IsInts w w.heap.size A n ys) (hk : LenC ys k) (hk0 : k ≠ 0) :
    Calls Try.prog 14 #[.slice A n c] w fun e w' => e = .returned (.tuple #[.slice none 0 0, .iface 58 (.int .i64 k)]) ∧ Below w.heap.size w w' := by
  have HR := hid (kroom_bad A n c ys k w hl hk hk0)
  clear hl hk hk0
  go_enter Try.func14, Try.ntmps14
  go_wp2_with fail
  refine HR.out.mono ?_
  rintro e w1 ⟨rfl, hb1⟩
  clear HR
  go_wp2_with fail
  go_ret2
  exact ⟨rfl, hb1⟩
end Go.Proofs.Ytlfncplldppncaa

/-
  Look-ups in maps of the call's own whose elements are bools or pointers, with the answer known ahead. No condition.
-/
namespace Go.Proofs.Ytlfncplldppncaa
open Go.RowKit Go.Maps

/-- The key of a sign. -/
def keyL (c : UInt8) : Lit := .int .u8 (c.toNat : Int)
theorem keyL_wf (c : UInt8) : (keyL c).wf = true := WalkArith.wf_u8 (by have := c.toNat_lt; omega)
theorem keyL_ne {c d : UInt8} (h : c ≠ d) : keyL c ≠ keyL d := by
  intro e
  apply h
  simp [keyL] at e
  exact UInt8.toNat_inj.1 (by omega)
theorem keyL_key (c : UInt8) : WideAt.IsKeyLit (keyL c) := trivial

/-- How a pointer to a whole block reads here: by the block's number. -/
def ptrE : Value → Option (DataW Unit × List MemPlace)
  | .pointer none => some (.lit (.int .i64 (-1)), [])
  | .pointer (some ⟨b, 0, none⟩) => some (.lit (.int .i64 (b : Int)), [])
  | _ => none
theorem ptrE_mk (b : Nat) : ptrE (.pointer (some ⟨b, 0, none⟩)) = some (.lit (.int .i64 (b : Int)), []) := rfl
theorem ptrE_nil : ptrE (.pointer none) = some (.lit (.int .i64 (-1)), []) := rfl
theorem ptrE_inv {v : Value} {b : Nat} {ps : List MemPlace} (h : ptrE v = some (.lit (.int .i64 (b : Int)), ps)) : v = .pointer (some ⟨b, 0, none⟩) := by
  unfold ptrE at h
  split at h
  · simp at h
  · simp at h; obtain ⟨h, _⟩ := h; obtain rfl := Int.ofNat_inj.1 h; rfl
  · cases h
theorem ptrE_inv_nil {v : Value} {ps : List MemPlace} (h : ptrE v = some (.lit (.int .i64 (-1)), ps)) : v = .pointer none := by
  unfold ptrE at h
  split at h
  · rfl
  · simp at h
  · cases h
theorem ptrE_shape {v : Value} {y : DataW Unit × List MemPlace} (h : ptrE v = some y) : ∃ p, v = .pointer p := by
  unfold ptrE at h
  split at h
  · exact ⟨_, rfl⟩
  · exact ⟨_, rfl⟩
  · cases h

theorem plainElem_bool_inv {H : Type} {P : Program} {e : TypeId} (he : P.underlying e = some .bool) {v : Value} {z : DataW H × List MemPlace} (h : plainElem P e v = some z) : ∃ x, v = .bool x ∧ z = (.lit (.bool x), []) := by
  unfold plainElem at h
  rw [he] at h
  cases v <;> simp at h
  exact ⟨_, rfl, h.symm⟩

section
variable {P : Program} {ops : Array Oper} {rest : List Oper} {o : Oper} {a : Act} {Q : Exit → Act → World → Prop}
/-- 'm[k]' in a map of bools. -/
theorem wpList_lookup_bool {H : Type} (w : World) (hg : o.guard = none) (m x : Operand) (t : TypeId) (hop : o.op = Op.lookup t m x false)
    (k e : TypeId) (K : Keyed P k) (ht : P.underlying t = some (.map k e)) (he : P.underlying e = some .bool) (hz : (zeroValue e).run P w = .ok (.bool false) w) (b n : Nat) (D : DataW H)
    (hm : a.eval m = .map (some b)) (hown : w.ownsMap P k (plainElem P e) b n D) (key : Value) (kl : Lit) (hx : a.eval x = key) (hkey : keyOf P k key = some kl)
    (c : Bool) (hat : D.atKey kl (.lit (.bool false)) = .lit (.bool c)) (hK : wpList P ops Q rest (a.put o.dst (.bool c)) w) :
    wpList P ops Q (o :: rest) a w := by
  refine wpList_plain hg fun K' hK' => ?_
  obtain ⟨v, ps, hrun, hv⟩ := hown.lookup K ht hz (plainElem_bool he false) hkey
  rw [hat] at hv
  obtain ⟨x', rfl, e'⟩ := plainElem_bool_inv he hv
  obtain rfl : c = x' := by simpa using congrArg Prod.fst e'
  unfold Oper.wp
  simp [execOp, hop, hm, hx, hrun, Result.andThen]
  exact hK' _ _ hK
/-- 'm[k]' in a map of pointers, where there is one. -/
theorem wpList_lookup_ptr (w : World) (hg : o.guard = none) (m x : Operand) (t : TypeId) (hop : o.op = Op.lookup t m x false)
    (k e : TypeId) (K : Keyed P k) (ht : P.underlying t = some (.map k e)) (hz : (zeroValue e).run P w = .ok (.pointer none) w) (b n : Nat) (D : DataW Unit)
    (hm : a.eval m = .map (some b)) (hown : w.ownsMap P k ptrE b n D) (key : Value) (kl : Lit) (hx : a.eval x = key) (hkey : keyOf P k key = some kl)
    (c : Nat) (hat : ∀ z, D.atKey kl z = .lit (.int .i64 (c : Int))) (hK : wpList P ops Q rest (a.put o.dst (.pointer (some ⟨c, 0, none⟩))) w) :
    wpList P ops Q (o :: rest) a w := by
  refine wpList_plain hg fun K' hK' => ?_
  obtain ⟨v, ps, hrun, hv⟩ := hown.lookup K ht hz ptrE_nil hkey
  rw [hat] at hv
  obtain rfl := ptrE_inv hv
  unfold Oper.wp
  simp [execOp, hop, hm, hx, hrun, Result.andThen]
  exact hK' _ _ hK
end
/-- 'v, ok := m[k]' as an equation: there is one. -/
theorem look_ptr_yes {P : Program} {w : World} {t k e : TypeId} {b n : Nat} {D : DataW Unit} (hown : w.ownsMap P k ptrE b n D) (K : Keyed P k) (ht : P.underlying t = some (.map k e)) (hz : (zeroValue e).run P w = .ok (.pointer none) w)
    {key : Value} {kl : Lit} (hkey : keyOf P k key = some kl) {c : Nat} (hat : ∀ z, D.atKey kl z = .lit (.int .i64 (c : Int))) (hh : Maps.has D kl = true) :
    (Instr.lookup t (.map (some b)) key true).run P w = .ok (.tuple #[.pointer (some ⟨c, 0, none⟩), .bool true]) w := by
  obtain ⟨v, ps, hrun, hv⟩ := hown.look_ok K ht hz ptrE_nil hkey
  rw [hat] at hv
  obtain rfl := ptrE_inv hv
  rw [hrun, hh]
/-- .. there is none. -/theorem look_ptr_none {P : Program} {w : World} {t k e : TypeId} {b n : Nat} {D : DataW Unit} (hown : w.ownsMap P k ptrE b n D) (K : Keyed P k) (ht : P.underlying t = some (.map k e)) (hz : (zeroValue e).run P w = .ok (.pointer none) w)
    {key : Value} {kl : Lit} (hkey : keyOf P k key = some kl) (hh : Maps.has D kl = false) :
    (Instr.lookup t (.map (some b)) key true).run P w = .ok (.tuple #[.pointer none, .bool false]) w := by
  obtain ⟨v, ps, hrun, hv⟩ := hown.look_ok K ht hz ptrE_nil hkey
  rw [atKey_of_not_has hh] at hv
  obtain rfl := ptrE_inv_nil hv
  rw [hrun, hh]
end Go.Proofs.Ytlfncplldppncaa

/-
  Contract of trie.Check: nil where the words are as they should be, else the error of the first fault. Conditions: the sizes that a row itself sets.
-/
namespace Go.Proofs.Ytlfncplldppncaa
open Go.RowKit Go.Maps

/-- The key of a text. -/
def keyS (s : ByteArray) : Lit := .string (bs s)
theorem keyS_key (s : ByteArray) : WideAt.IsKeyLit (keyS s) := trivial
theorem keyS_ne {s t : ByteArray} (h : s ≠ t) : keyS s ≠ keyS t := fun e => h (bs_inj (by simpa [keyS] using e))
/-- The map D tells of every text whether it is among the first k words. -/
def SeenD (D : DataW Unit) (ws : List ByteArray) (k : Nat) : Prop :=
  IsMap D ∧ ∀ s : ByteArray, ((∃ m, m < k ∧ wat ws m = s) → D.atKey (keyS s) (.lit (.bool false)) = .lit (.bool true)) ∧ ((∀ m, m < k → wat ws m ≠ s) → D.atKey (keyS s) (.lit (.bool false)) = .lit (.bool false))
theorem seenD_start (ws : List ByteArray) : SeenD (.map []) ws 0 := ⟨isMap_empty, fun _ => ⟨fun ⟨_, h, _⟩ => by omega, fun _ => rfl⟩⟩
theorem seenD_step {D : DataW Unit} {ws : List ByteArray} {k : Nat} (h : SeenD D ws k) : SeenD (D.put (keyS (wat ws k)) (.lit (.bool true))) ws (k + 1) := by
  refine ⟨h.1.put _ _, fun s => ?_⟩
  by_cases e : wat ws k = s
  · subst e
    refine ⟨fun _ => atKey_put_same h.1 (keyS_key _) _ _, fun hn => absurd rfl (hn k (by omega))⟩
  · rw [atKey_put_other (keyS_ne (Ne.symm e))]
    refine ⟨fun ⟨m, hm, he⟩ => (h.2 s).1 ⟨m, ?_, he⟩, fun hn => (h.2 s).2 fun m hm => hn m (by omega)⟩
    rcases Nat.lt_or_ge m k with h' | h'
    · exact h'
    · obtain rfl : m = k := by omega
      exact absurd he e

theorem str_keyed : Keyed Try.prog 9 := string_keyed Try.underlying9
theorem zero_bool (w : World) : (zeroValue 4).run Try.prog w = .ok (.bool false) w := by kernel_rfl
theorem key_str {s : ByteArray} (h : s.size ≤ maxLen) : keyOf Try.prog 9 (.string s) = some (keyS s) := Go.WideMaps.keyOf_string_mk Try.underlying9 h
theorem empty_yes {s : ByteArray} (h : s.size = 0) : s.toList.isEmpty = true := by
  have : s.toList.length = s.size := by rw [ByteArray.toList_eq, Array.length_toList]; rfl
  rw [h] at this
  simp [List.length_eq_zero_iff.1 this]
theorem empty_not {s : ByteArray} (h : 0 < s.size) : s.toList.isEmpty = false := by
  have : s.toList.length = s.size := by rw [ByteArray.toList_eq, Array.length_toList]; rfl
  cases e : s.toList with
  | nil => rw [e] at this; simp at this; omega
  | cons => rfl

set_option maxRecDepth 100000 in
set_option maxHeartbeats 1000000 in
theorem tcheck_any (A : Option Addr) (n c : Nat) (ws : List ByteArray) (w : World) (hn : n ≤ maxLen) (hs : ∀ i, i < n → (wat ws i).size ≤ maxLen) (h : IsStrs w w.heap.size A n ws) :
    Calls Try.prog 18 #[.slice A n c] w fun e w' =>
      ((e = .returned .nilIface ∧ Fine ws) ∨ ∃ k, e = .returned (.iface 58 (.int .i64 k)) ∧ Bad ws k) ∧ Below w.heap.size w w' := by
  unfold maxLen at hn
  have hl : ws.length = n := h.1
  by_cases h6 : 6 < n
  · go_enter Try.func18, Try.ntmps18
    go_wp2
    go_ret
    exact ⟨.inr ⟨4, rfl, .inl ⟨rfl, by omega⟩⟩, Below.refl _ _⟩
  · have hmm := @run_makeMap Try.prog
    have H := hid h
    have HS := hid hs
    have HL := hid hl
    clear h hs hl
    go_enter Try.func18, Try.ntmps18
    go_wp2
    go_loopw [13] (fun x wr => ∃ (k : Nat) (D : DataW Unit), k ≤ n ∧ x = .int .i64 k ∧ Hid (FineTo ws k) ∧ wr.ownsMap Try.prog 9 (plainElem Try.prog 4) w.heap.size k D ∧ Hid (SeenD D ws k) ∧ Below w.heap.size w wr) (fun x _ => n - (intOf x).toNat)
    case atStart => exact ⟨0, _, by omega, rfl, hid (fun j hj => by omega), World.ownsMap_made _ _ _ _, hid (seenD_start ws), (Below.refl _ _).alloc (Nat.le_refl _) _⟩
    case round =>
      obtain ⟨k, D, hk, rfl, HF, hm, HD, hb⟩ := hrel
      by_cases hlt : k < n
      · obtain ⟨g, off, rfl, hg, hc⟩ := H.out.2 (by omega)
        have hx : wr.cell? ⟨g, off + k, none⟩ = some (.string (wat ws k)) := (hb.cell hg).trans (hc k hlt)
        have hsz := HS.out k hlt
        have hbad : ∀ q, BadAt ws k q → Bad ws q := fun q hq => .inr ⟨by have := HL.out; omega, k, by have := HL.out; omega, HF.out, hq⟩
        have HB := hid hbad
        clear hc hbad
        by_cases h8 : 8 < (wat ws k).size
        · have HR := hid (HB.out 4 (.inl ⟨rfl, h8⟩))
          clear HB
          generalize wat ws k = s at hx hsz h8
          unfold maxLen at hsz
          go_wp2
          go_ret
          exact ⟨.inr ⟨4, rfl, HR.out⟩, hb⟩
        · by_cases h0 : (wat ws k).size = 0
          · have HR := hid (HB.out 5 (.inr (.inl ⟨rfl, h0⟩)))
            clear HB
            generalize wat ws k = s at hx hsz h0 h8
            have he := empty_yes h0
            have h1 : s.size ≤ 8 := by omega
            clear h0
            go_wp2
            go_ret
            exact ⟨.inr ⟨5, rfl, HR.out⟩, hb⟩
          · have he := empty_not (s := wat ws k) (by omega)
            have h1 : (wat ws k).size ≤ 8 := by omega
            have hkey := key_str hsz
            by_cases h3 : ∃ m, m < k ∧ wat ws m = wat ws k
            · have HR := hid (HB.out 6 (.inr (.inr ⟨rfl, h1, by omega, h3⟩)))
              have hat := (HD.out.2 (wat ws k)).1 h3
              clear HB h3 HD h0 h8
              generalize wat ws k = s at hx hsz h1 he hkey hat
              go_wp2_with (at_lookup; refine wpList_lookup_bool _ rfl _ _ 44 rfl 9 4 str_keyed Try.underlying44 Try.underlying4 (zero_bool _) w.heap.size k D rfl hm _ _ rfl hkey true hat ?_)
              go_wp2
              go_ret
              exact ⟨.inr ⟨6, rfl, HR.out⟩, hb⟩
            · have h3' : ∀ m, m < k → wat ws m ≠ wat ws k := fun m hm e => h3 ⟨m, hm, e⟩
              have HR := hid (fineTo_succ HF.out h1 (by omega) h3')
              have hat := (HD.out.2 (wat ws k)).2 h3'
              have HN := hid (seenD_step HD.out)
              clear HB h3 h3' HD h0 h8 HF
              generalize wat ws k = s at hx hsz h1 he hkey hat HN
              go_wp2_with (first
                | (at_lookup; refine wpList_lookup_bool _ rfl _ _ 44 rfl 9 4 str_keyed Try.underlying44 Try.underlying4 (zero_bool _) w.heap.size k D rfl hm _ _ rfl hkey false hat ?_)
                | (at_mapUpdate; refine wpList_mapUpdate_own _ rfl _ _ _ 44 rfl 9 4 str_keyed Try.underlying44 _ w.heap.size k _ rfl hm (by unfold maxLen; omega) _ _ _ rfl rfl hkey _ [] (plainElem_bool Try.underlying4 true) ?_; intro w1 hown1 hgrow1)
                | go_in)
              go_roundw
              case rel => exact ⟨k + 1, _, by omega, by go_num, HR, hown1, HN, hb.grown hgrow1 hb.size (fun j hj => by cases hj; exact Nat.le_refl _)⟩
              case measure => simp [intOf]; omega
      · have HR := hid (show Fine ws from ⟨by have := HL.out; omega, by rw [show ws.length = k by have := HL.out; omega]; exact HF.out⟩)
        clear HF HD
        go_wp2
        go_ret
        exact ⟨.inl ⟨rfl, HR.out⟩, hb⟩
theorem tcheck_ok (A : Option Addr) (n c : Nat) (ws : List ByteArray) (w : World) (hf : Fine ws) (h : IsStrs w w.heap.size A n ws) :
    Calls Try.prog 18 #[.slice A n c] w fun e w' => e = .returned .nilIface ∧ Below w.heap.size w w' :=
  (tcheck_any A n c ws w (by have := h.1; have := hf.1; unfold maxLen; omega) (fun i hi => by have := hf.2 i (by have := h.1; omega); unfold maxLen; omega) h).mono fun e w' ⟨he, hb⟩ =>
    ⟨he.elim (fun h => h.1) fun ⟨_, _, h⟩ => (bad_fine h hf).elim, hb⟩
theorem tcheck_bad (A : Option Addr) (n c : Nat) (ws : List ByteArray) (k : Int) (w : World) (hn : n ≤ maxLen) (hs : ∀ i, i < n → (wat ws i).size ≤ maxLen) (hk : Bad ws k) (h : IsStrs w w.heap.size A n ws) :
    Calls Try.prog 18 #[.slice A n c] w fun e w' => e = .returned (.iface 58 (.int .i64 k)) ∧ Below w.heap.size w w' :=
  (tcheck_any A n c ws w hn hs h).mono fun e w' ⟨he, hb⟩ =>
    ⟨he.elim (fun h => (bad_fine hk h.2).elim) fun ⟨q, he, h⟩ => by rw [he, bad_one h hk], hb⟩
end Go.Proofs.Ytlfncplldppncaa

/-
  Contract of strings.HasPrefix: whether a text begins with another one. Conditions: texts of at most 2^40 bytes.
-/
namespace Go.Proofs.Ytlfncplldppncaa
open Go.RowKit

/-- Does s begin with t? -/
def preB (s t : ByteArray) : Bool := decide (t.size ≤ s.size ∧ s.extract 0 t.size = t)
set_option maxHeartbeats 400000 in
theorem plite_any (s t : ByteArray) (w : World) (_hs : s.size ≤ 1099511627776) (ht : t.size ≤ 1099511627776) :
    Calls Try.prog 41 #[.string s, .string t] w fun e w' => e = .returned (.bool (preB s t)) ∧ w' = w := by
  by_cases h : t.size ≤ s.size
  · have hcut : ∀ W : World, Sem.run Try.prog (Instr.slice 9 (.string s) none (some (.int .i64 (t.size : Int))) none) W = .ok (.string (s.extract 0 t.size)) W := fun W =>
      run_slice_string_h W 9 s Try.underlying9 .i64 (t.size : Int) (by omega) (by omega)
    have hd : decide (t.size ≤ s.size) = true := by simpa using h
    by_cases e : s.extract 0 t.size = t
    · have HR : Hid (preB s t = true) := hid (decide_eq_true ⟨h, e⟩)
      have hq := same_yes e
      clear e
      generalize s.extract 0 t.size = s1 at hcut hq
      go_enter Try.func41, Try.ntmps41
      go_wp2
      go_ret
      exact ⟨ret_bool HR.out.symm, rfl⟩
    · have HR : Hid (preB s t = false) := hid (decide_eq_false fun h' => e h'.2)
      have hq := same_no e
      clear e
      generalize s.extract 0 t.size = s1 at hcut hq
      go_enter Try.func41, Try.ntmps41
      go_wp2
      go_ret
      exact ⟨ret_bool HR.out.symm, rfl⟩
  · have HR : Hid (preB s t = false) := hid (decide_eq_false fun h' => h h'.1)
    have hd : decide (t.size ≤ s.size) = false := by simpa using h
    go_enter Try.func41, Try.ntmps41
    go_wp2
    go_ret
    exact ⟨ret_bool HR.out.symm, rfl⟩
theorem prefix_any (s t : ByteArray) (w : World) (hs : s.size ≤ 1099511627776) (ht : t.size ≤ 1099511627776) :
    Calls Try.prog 36 #[.string s, .string t] w fun e w' => e = .returned (.bool (preB s t)) ∧ w' = w := by
  have HC := hid (plite_any s t w hs ht)
  go_enter Try.func36, Try.ntmps36
  go_wp2_with fail
  refine HC.out.mono ?_
  rintro e w1 ⟨rfl, hw⟩
  subst w1
  go_wp2_with fail
  go_ret
  exact ⟨rfl, rfl⟩
end Go.Proofs.Ytlfncplldppncaa

/-
  Plain facts on a slice of texts that is the call's own: how it reads, and 'out = append(out, t)'. No condition.
-/
namespace Go.Proofs.Ytlfncplldppncaa
open Go.RowKit

/-- A slice value that is the call's own (nil, or a row from block 'base' on) and holds the texts ws. Shut for the walk. -/
def OwnS (w : World) (base : Nat) (e : TypeId) (v : Value) (ws : List ByteArray) : Prop := w.ownsRow base e 1 v ws.length (ws.map Value.string)
theorem OwnS.mk_ {w : World} {base : Nat} {e : TypeId} {v : Value} {ws : List ByteArray} (h : w.ownsRow base e 1 v ws.length (ws.map Value.string)) : OwnS w base e v ws := h
theorem OwnS.nil (w : World) (base : Nat) (e : TypeId) : OwnS w base e (.slice none 0 0) [] := World.ownsRow_nil _ _ _ _
theorem OwnS.drewN {w : World} {base : Nat} {e : TypeId} {v : Value} {ws : List ByteArray} (h : OwnS w base e v ws) (q : Nat) : OwnS (w.drewN q) base e v ws := h
theorem OwnS.read {w : World} {base : Nat} {e : TypeId} {v : Value} {ws : List ByteArray} (h : OwnS w base e v ws) :
    ∃ A c, v = .slice A ws.length c ∧ ∀ j, j < ws.length → ∃ g, A = some ⟨g, 0, none⟩ ∧ w.cell? ⟨g, j, none⟩ = some (.string (ws.getD j ByteArray.empty)) := by
  unfold OwnS at h
  generalize hn : ws.length = n at h ⊢
  have hl : ws.length = n := by have := h.1; simpa using this
  rcases h.2 with ⟨rfl, rfl⟩ | ⟨g, cap, cur, rfl, hg, hh, hnc, hcm, hcs, htk⟩
  · exact ⟨none, 0, rfl, fun j hj => absurd hj (by omega)⟩
  · refine ⟨_, _, rfl, fun j hj => ⟨g, rfl, ?_⟩⟩
    rw [h.cellAt j (by omega)]
    simp [show j < ws.length by omega]

/-- 'out = append(out, t)', out nil or the call's own: one text more, and nothing below 'base' has turned. -/
theorem wpList_append_str {P : Program} (wr : World) {ops : Array Oper} {rest : List Oper} {o : Oper} {a : Act} {Q : Exit → Act → World → Prop} (hgd : o.guard = none) (s x : Operand) (t : TypeId)
    (ho : o.op = .call { callee := .builtin .append, args := #[s, x], argTypes := #[t, t] }) (base : Nat) (e : TypeId) (i : TypeInfo)
    (ht : P.underlying t = some (.slice e)) (hi : P.info? e = some i) (hz : i.zero = some (.string ByteArray.empty)) (hsize : i.size = 1) (hby : i.bytes = 16)
    (v : Value) (cs : List ByteArray) (hs : a.eval s = v) (hown : OwnS wr base e v cs) (k : ByteArray) (hx : a.eval x = .slice (some ⟨wr.heap.size, 0, none⟩) 1 1)
    (hlen : cs.length ≤ 1099511627776) (hbase : base ≤ wr.heap.size)
    (h : ∀ v' w', OwnS w' base e v' (cs ++ [k]) → Below base wr w' → wpList P ops Q rest (a.put o.dst v') w') :
    wpList P ops Q (o :: rest) a (wr.alloc (.cells #[.string k] e)) := by
  refine wpList_append_own _ hgd s x t ho base e i (.string ByteArray.empty) 1 16 ht hi hz hsize hby rfl (by decide) v _ _ hs (World.ownsRow.alloc hown _) ⟨wr.heap.size, 0, none⟩ 1 1 [.string k] hx rfl ?_ ?_ ?_ ?_ ?_ ?_
  · intro j u hj
    match j, hj with
    | 0, hj => simp at hj; subst hj; simp [Addr.add]
  · intro u hu; simp at hu; subst hu; rfl
  · unfold maxLen; omega
  · omega
  · simp; omega
  · intro v' w' ho hg _
    refine h v' w' (OwnS.mk_ (by simpa using ho)) (((Below.refl base wr).alloc hbase _).grown hg (by simp; omega) fun b hb => ?_)
    exact (World.ownsRow.lt hown b hb).1
end Go.Proofs.Ytlfncplldppncaa

/-
  A slice of texts that is the call's own reads as its list. No condition.
-/
namespace Go.Proofs.Ytlfncplldppncaa
open Go.RowKit

theorem OwnS.strs {w : World} {base : Nat} {e : TypeId} {v : Value} {ws : List ByteArray} (h : OwnS w base e v ws) : ∃ A c, v = .slice A ws.length c ∧ IsStrs w w.heap.size A ws.length ws := by
  have hlt := fun b => World.ownsRow.lt h b
  obtain ⟨A, c, rfl, hr⟩ := h.read
  refine ⟨A, c, rfl, rfl, fun h0 => ?_⟩
  obtain ⟨g, rfl, _⟩ := hr 0 h0
  refine ⟨g, 0, rfl, (hlt g rfl).2, fun j hj => ?_⟩
  obtain ⟨g', e, hc⟩ := hr j hj
  injection e with e
  injection e with e1
  subst e1
  rw [Nat.zero_add]
  exact hc
end Go.Proofs.Ytlfncplldppncaa

/-
  Plain facts for the search of Sardinas and Patterson over a list of texts that grows: the states of its two loops, and how long the list may grow. No program.
-/
namespace Go.Proofs.Ytlfncplldppncaa

/-- What is left of a behind b. -/
def rst (a b : ByteArray) : ByteArray := a.extract b.size a.size
theorem rst_bs {a b : ByteArray} (h : bs b <+: bs a) : bs a = bs b ++ bs (rst a b) := by
  unfold rst
  rw [wb_ext, List.take_of_length_le (by rw [bs_len]; exact Nat.le_refl _), ← bs_len b]
  obtain ⟨r, e⟩ := h
  rw [← e, List.drop_left]
theorem rst_one {a b : ByteArray} {r : List UInt8} (e : bs a = bs b ++ r) : rst a b = txt r := by
  have h := rst_bs (a := a) (b := b) ⟨r, e.symm⟩
  rw [e] at h
  have := List.append_cancel_left h
  rw [this, txt_bs]
theorem nodup_sub {α : Type} [DecidableEq α] : ∀ (B S : List α), B.Nodup → (∀ x ∈ B, x ∈ S) → B.length ≤ S.length
  | [], _, _, _ => Nat.zero_le _
  | x :: B, S, hn, h => by
    rw [List.nodup_cons] at hn
    have hx : x ∈ S := h x (by simp)
    have := nodup_sub B (S.erase x) hn.2 (fun y hy => (List.mem_erase_of_ne (fun e => hn.1 (by rw [← e]; exact hy))).2 (h y (by simp [hy])))
    rw [List.length_erase_of_mem hx] at this
    have : 0 < S.length := List.length_pos_of_mem hx
    rw [List.length_cons]
    omega
/-- All ends of words. -/
def sufs (W : List (List UInt8)) : List (List UInt8) := W.flatMap fun x => (List.range (x.length + 1)).map fun k => x.drop k
theorem sufs_mem {W : List (List UInt8)} {s : List UInt8} (h : Dang W s) : s ∈ sufs W := by
  obtain ⟨i, hi, p, e⟩ := dang_end_of h
  refine List.mem_flatMap.2 ⟨W.getD i [], ?_, List.mem_map.2 ⟨p.length, List.mem_range.2 ?_, by rw [e, List.drop_left]⟩⟩
  · rw [List.getD_eq_getElem?_getD, List.getElem?_eq_getElem hi]
    exact List.getElem_mem hi
  · rw [e, List.length_append]; omega
theorem sufs_len {W : List (List UInt8)} (h : ∀ x ∈ W, x.length ≤ 8) : (sufs W).length ≤ 9 * W.length := by
  induction W with
  | nil => simp [sufs]
  | cons x W ih =>
    have h1 := ih (fun y hy => h y (by simp [hy]))
    have h2 := h x (by simp)
    have : (sufs (x :: W)).length = (x.length + 1) + (sufs W).length := by
      unfold sufs
      rw [List.flatMap_cons, List.length_append]
      simp
    rw [this, List.length_cons]
    omega
/-- The first loop, at a pair of words. -/
structure St1 (W : List (List UInt8)) (l : List ByteArray) (i k : Nat) : Prop where
  sound : ∀ a ∈ l, Dang W (bs a)
  start : ∀ i' k' s, i' < W.length → k' < W.length → i' ≠ k' → (i' < i ∨ (i' = i ∧ k' < k)) → W.getD i' [] = W.getD k' [] ++ s → txt s ∈ l
  few : l.length ≤ 6 * i + k
theorem st1_nil (W : List (List UInt8)) : St1 W [] 0 0 := ⟨fun _ h => (by cases h), fun _ _ _ _ _ _ h => (by omega), Nat.zero_le _⟩
theorem st1_row {W : List (List UInt8)} {l : List ByteArray} {i : Nat} (h : St1 W l i W.length) (h6 : W.length ≤ 6) : St1 W l (i + 1) 0 :=
  ⟨h.sound, fun i' k' s h1 h2 h3 h4 e => h.start i' k' s h1 h2 h3 (by omega) e, by have := h.few; omega⟩
theorem st1_yes {W : List (List UInt8)} {l : List ByteArray} {i k : Nat} (h : St1 W l i k) (hi : i < W.length) (hk : k < W.length) (hne : i ≠ k) {a : ByteArray} (ha : W.getD i [] = W.getD k [] ++ bs a) : St1 W (l ++ [a]) i (k + 1) := by
  refine ⟨fun b hb => ?_, fun i' k' s h1 h2 h3 h4 e => ?_, by rw [List.length_append, List.length_singleton]; have := h.few; omega⟩
  · rcases List.mem_append.1 hb with hb | hb
    · exact h.sound b hb
    · rw [List.mem_singleton.1 hb]
      exact .start hi hk hne ha
  · by_cases e1 : i' = i ∧ k' = k
    · obtain ⟨rfl, rfl⟩ := e1
      rw [ha] at e
      have := List.append_cancel_left e
      rw [← this, txt_bs]
      simp
    · exact List.mem_append_left _ (h.start i' k' s h1 h2 h3 (by omega) e)
theorem st1_no {W : List (List UInt8)} {l : List ByteArray} {i k : Nat} (h : St1 W l i k) (hno : i = k ∨ ¬ W.getD k [] <+: W.getD i []) : St1 W l i (k + 1) := by
  refine ⟨h.sound, fun i' k' s h1 h2 h3 h4 e => ?_, by have := h.few; omega⟩
  by_cases e1 : i' = i ∧ k' = k
  · obtain ⟨rfl, rfl⟩ := e1
    rcases hno with hno | hno
    · exact absurd hno h3
    · exact absurd ⟨s, e.symm⟩ hno
  · exact h.start i' k' s h1 h2 h3 (by omega) e
/-- What comes of a by word i is in l. -/
def Shut (W : List (List UInt8)) (l : List ByteArray) (a : ByteArray) (i : Nat) : Prop := ∀ r, (W.getD i [] = bs a ++ r ∨ bs a = W.getD i [] ++ r) → txt r ∈ l
theorem Shut.more {W : List (List UInt8)} {l : List ByteArray} {a : ByteArray} {i : Nat} (h : Shut W l a i) (m : List ByteArray) : Shut W (l ++ m) a i := fun r hr => List.mem_append_left _ (h r hr)
/-- The second loop, at place n of the list and word i. -/
structure St2 (W : List (List UInt8)) (l : List ByteArray) (n i : Nat) : Prop where
  sound : ∀ a ∈ l, Dang W (bs a)
  start : ∀ i' k' s, i' < W.length → k' < W.length → i' ≠ k' → W.getD i' [] = W.getD k' [] ++ s → txt s ∈ l
  done : ∀ j, j < n → j < l.length → 0 < (l.getD j ByteArray.empty).size ∧ ∀ i', i' < W.length → Shut W l (l.getD j ByteArray.empty) i'
  part : n < l.length → ∀ i', i' < i → Shut W l (l.getD n ByteArray.empty) i'
  few : ∃ A B : List ByteArray, l = A ++ B ∧ A.length ≤ 42 ∧ (B.map bs).Nodup ∧ ∀ b ∈ B, bs b ∈ sufs W
theorem st2_start {W : List (List UInt8)} {l : List ByteArray} (h : St1 W l W.length 0) (h6 : W.length ≤ 6) : St2 W l 0 0 :=
  ⟨h.sound, fun i' k' s h1 h2 h3 e => h.start i' k' s h1 h2 h3 (.inl h1) e, fun _ h => (by omega), fun _ _ h => (by omega), l, [], by simp, by have := h.few; omega, by simp, fun _ h => (by cases h)⟩
theorem st2_few {W : List (List UInt8)} {l : List ByteArray} {n i : Nat} (h : St2 W l n i) (h6 : W.length ≤ 6) (h8 : ∀ x ∈ W, x.length ≤ 8) : l.length ≤ 96 := by
  obtain ⟨A, B, e, hA, hB, hs⟩ := h.few
  have h1 := nodup_sub (B.map bs) (sufs W) hB (fun x hx => by obtain ⟨b, hb, rfl⟩ := List.mem_map.1 hx; exact hs b hb)
  rw [List.length_map] at h1
  have h2 := sufs_len h8
  rw [e, List.length_append]
  omega
theorem getD_more (l m : List ByteArray) {j : Nat} (hj : j < l.length) : (l ++ m).getD j ByteArray.empty = l.getD j ByteArray.empty := by
  simp [List.getD_eq_getElem?_getD, List.getElem?_append_left hj]
theorem st2_row {W : List (List UInt8)} {l : List ByteArray} {n : Nat} (h : St2 W l n W.length) (h0 : 0 < (l.getD n ByteArray.empty).size) : St2 W l (n + 1) 0 :=
  ⟨h.sound, h.start, fun j hj hl => by
    rcases Nat.lt_or_ge j n with h1 | h1
    · exact h.done j h1 hl
    · obtain rfl : j = n := by omega
      exact ⟨h0, h.part hl⟩, fun _ _ h => (by omega), h.few⟩
/-- What is left is one. -/
theorem rest_same {x y r r' : List UInt8} (h : x = y ++ r ∨ y = x ++ r) (h' : x = y ++ r' ∨ y = x ++ r') : r' = r := by
  rcases h with e | e <;> rcases h' with e' | e'
  · rw [e] at e'; exact (List.append_cancel_left e').symm
  · have h1 : (r ++ r').length = 0 := by
      have := congrArg List.length e
      have h2 := congrArg List.length e'
      rw [List.length_append] at this h2 ⊢
      omega
    have h3 := List.append_eq_nil_iff.1 (List.eq_nil_of_length_eq_zero h1)
    rw [h3.1, h3.2]
  · have h1 : (r ++ r').length = 0 := by
      have := congrArg List.length e
      have h2 := congrArg List.length e'
      rw [List.length_append] at this h2 ⊢
      omega
    have h3 := List.append_eq_nil_iff.1 (List.eq_nil_of_length_eq_zero h1)
    rw [h3.1, h3.2]
  · rw [e] at e'; exact (List.append_cancel_left e').symm
theorem shut_in {W : List (List UInt8)} {l : List ByteArray} {a r : ByteArray} {i : Nat} (hr : W.getD i [] = bs a ++ bs r ∨ bs a = W.getD i [] ++ bs r) (hm : r ∈ l) : Shut W l a i := fun r' h' => by
  rw [rest_same hr h', txt_bs]
  exact hm
theorem shut_no {W : List (List UInt8)} {l : List ByteArray} {a : ByteArray} {i : Nat} (h1 : ¬ bs a <+: W.getD i []) (h2 : ¬ W.getD i [] <+: bs a) : Shut W l a i := fun r h => by
  rcases h with e | e
  · exact absurd ⟨r, e.symm⟩ h1
  · exact absurd ⟨r, e.symm⟩ h2
/-- Nothing new comes of word i. -/
theorem st2_old {W : List (List UInt8)} {l : List ByteArray} {n i : Nat} (h : St2 W l n i) (hs : n < l.length → Shut W l (l.getD n ByteArray.empty) i) : St2 W l n (i + 1) :=
  ⟨h.sound, h.start, h.done, fun hn i' hi => by
    rcases Nat.lt_or_ge i' i with h1 | h1
    · exact h.part hn i' h1
    · obtain rfl : i' = i := by omega
      exact hs hn, h.few⟩
theorem st2_new {W : List (List UInt8)} {l : List ByteArray} {n i : Nat} (h : St2 W l n i) (hn : n < l.length) (hi : i < W.length) {r : ByteArray}
    (hr : W.getD i [] = bs (l.getD n ByteArray.empty) ++ bs r ∨ bs (l.getD n ByteArray.empty) = W.getD i [] ++ bs r) (hnew : r ∉ l) : St2 W (l ++ [r]) n (i + 1) := by
  have hd : Dang W (bs r) := by
    have ha : Dang W (bs (l.getD n ByteArray.empty)) := h.sound _ (by rw [List.getD_eq_getElem?_getD, List.getElem?_eq_getElem hn]; exact List.getElem_mem hn)
    rcases hr with e | e
    · exact .fwd ha hi e
    · exact .back ha hi e
  have hone : ∀ r', (W.getD i [] = bs (l.getD n ByteArray.empty) ++ r' ∨ bs (l.getD n ByteArray.empty) = W.getD i [] ++ r') → r' = bs r := fun r' h' => rest_same hr h'
  refine ⟨fun a ha => ?_, fun i' k' s h1 h2 h3 e => List.mem_append_left _ (h.start i' k' s h1 h2 h3 e), fun j hj hl => ?_, fun _ i' hi' => ?_, ?_⟩
  · rcases List.mem_append.1 ha with ha | ha
    · exact h.sound a ha
    · rw [List.mem_singleton.1 ha]; exact hd
  · have hjl : j < l.length := by omega
    rw [getD_more l [r] hjl]
    have := h.done j hj hjl
    exact ⟨this.1, fun i' hi' => (this.2 i' hi').more _⟩
  · rw [getD_more l [r] hn]
    rcases Nat.lt_or_ge i' i with h1 | h1
    · exact (h.part hn i' h1).more _
    · obtain rfl : i' = i := by omega
      intro r' h'
      rw [hone r' h', txt_bs]
      simp
  · obtain ⟨A, B, e, hA, hB, hs⟩ := h.few
    refine ⟨A, B ++ [r], by rw [e, List.append_assoc], hA, ?_, fun b hb => ?_⟩
    · rw [List.map_append, List.nodup_append]
      refine ⟨hB, by simp, fun x hx y hy hxy => ?_⟩
      obtain ⟨b, hb, rfl⟩ := List.mem_map.1 hx
      have hy : y = bs r := by simpa using hy
      rw [hy] at hxy
      exact hnew (by rw [e, ← bs_inj hxy]; exact List.mem_append_right _ hb)
    · rcases List.mem_append.1 hb with hb | hb
      · exact hs b hb
      · rw [List.mem_singleton.1 hb]; exact sufs_mem hd
/-- At the end of the search nothing is ahead by nothing. -/
theorem st2_end {W : List (List UInt8)} {l : List ByteArray} (h : St2 W l l.length 0) (hw : Okw W) : UD W := by
  refine (ud_iff hw).2 fun hd => ?_
  have key : ∀ s, Dang W s → txt s ∈ l := by
    intro s hs
    have : s ∈ l.map bs := by
      refine dang_in (A := l.map bs) ?_ ?_ hs
      · intro i k s h1 h2 h3 e
        have := h.start i k s h1 h2 h3 e
        exact List.mem_map.2 ⟨_, this, bs_txt s⟩
      · intro a ha i r hi hr
        obtain ⟨b, hb, rfl⟩ := List.mem_map.1 ha
        obtain ⟨j, hj, e⟩ := List.getElem_of_mem hb
        have h1 := (h.done j hj hj).2 i hi
        have e2 : l.getD j ByteArray.empty = b := by rw [List.getD_eq_getElem?_getD, List.getElem?_eq_getElem hj]; exact e
        rw [e2] at h1
        exact List.mem_map.2 ⟨_, h1 r hr, bs_txt r⟩
    obtain ⟨b, hb, e⟩ := List.mem_map.1 this
    rw [← e, txt_bs]
    exact hb
  have hm := key [] hd
  obtain ⟨j, hj, e⟩ := List.getElem_of_mem hm
  have h1 := (h.done j hj hj).1
  have e2 : l.getD j ByteArray.empty = txt [] := by rw [List.getD_eq_getElem?_getD, List.getElem?_eq_getElem hj]; exact e
  rw [e2] at h1
  simp [txt_size] at h1
/-- An end that is empty tells it. -/
theorem st2_void {W : List (List UInt8)} {l : List ByteArray} {n i : Nat} (h : St2 W l n i) (hn : n < l.length) (h0 : (l.getD n ByteArray.empty).size = 0) : ¬ UD W := by
  have := h.sound (l.getD n ByteArray.empty) (by rw [List.getD_eq_getElem?_getD, List.getElem?_eq_getElem hn]; exact List.getElem_mem hn)
  rw [bs_zero h0] at this
  exact dang_two this
end Go.Proofs.Ytlfncplldppncaa

/-
  Plain mathematics, without a program: what follows words in words, what comes of a text, and the search of Sardinas and Patterson with a list of what is seen and a place up to which it is done. No condition.
-/
namespace Go.Proofs.Ytlfncplldppncaa

/-- What follows word i in word k, for the pairs ahead of (i, k). -/
structure Fol (W : List (List UInt8)) (l : List ByteArray) (i k : Nat) : Prop where
  sound : ∀ a ∈ l, ∃ i' k', i' < W.length ∧ k' < W.length ∧ i' ≠ k' ∧ W.getD k' [] = W.getD i' [] ++ bs a
  start : ∀ i' k' s, i' < W.length → k' < W.length → i' ≠ k' → (i' < i ∨ (i' = i ∧ k' < k)) → W.getD k' [] = W.getD i' [] ++ s → txt s ∈ l
  few : l.length ≤ 6 * i + k
theorem fol_nil (W : List (List UInt8)) : Fol W [] 0 0 := ⟨fun _ h => (by cases h), fun _ _ _ _ _ _ h => (by omega), Nat.zero_le _⟩
theorem fol_row {W : List (List UInt8)} {l : List ByteArray} {i : Nat} (h : Fol W l i W.length) (h6 : W.length ≤ 6) : Fol W l (i + 1) 0 :=
  ⟨h.sound, fun i' k' s h1 h2 h3 h4 e => h.start i' k' s h1 h2 h3 (by omega) e, by have := h.few; omega⟩
theorem fol_yes {W : List (List UInt8)} {l : List ByteArray} {i k : Nat} (h : Fol W l i k) (hi : i < W.length) (hk : k < W.length) (hne : i ≠ k) {a : ByteArray} (ha : W.getD k [] = W.getD i [] ++ bs a) : Fol W (l ++ [a]) i (k + 1) := by
  refine ⟨fun b hb => ?_, fun i' k' s h1 h2 h3 h4 e => ?_, by rw [List.length_append, List.length_singleton]; have := h.few; omega⟩
  · rcases List.mem_append.1 hb with hb | hb
    · exact h.sound b hb
    · rw [List.mem_singleton.1 hb]
      exact ⟨i, k, hi, hk, hne, ha⟩
  · by_cases e1 : i' = i ∧ k' = k
    · obtain ⟨rfl, rfl⟩ := e1
      rw [ha] at e
      have := List.append_cancel_left e
      rw [← this, txt_bs]
      simp
    · exact List.mem_append_left _ (h.start i' k' s h1 h2 h3 (by omega) e)
theorem fol_no {W : List (List UInt8)} {l : List ByteArray} {i k : Nat} (h : Fol W l i k) (hno : i = k ∨ ¬ W.getD i [] <+: W.getD k []) : Fol W l i (k + 1) := by
  refine ⟨h.sound, fun i' k' s h1 h2 h3 h4 e => ?_, by have := h.few; omega⟩
  by_cases e1 : i' = i ∧ k' = k
  · obtain ⟨rfl, rfl⟩ := e1
    rcases hno with hno | hno
    · exact absurd hno h3
    · exact absurd ⟨s, e.symm⟩ hno
  · exact h.start i' k' s h1 h2 h3 (by omega) e
theorem fol_free {W : List (List UInt8)} {l : List ByteArray} (h : Fol W l W.length 0) : l.length = 0 ↔ Pfree W := by
  constructor
  · intro h0 i k hi hk hne hp
    obtain ⟨s, e⟩ := hp
    have := h.start k i s hk hi (Ne.symm hne) (.inl hk) e.symm
    rw [List.eq_nil_of_length_eq_zero h0] at this
    cases this
  · intro hp
    cases l with
    | nil => rfl
    | cons a l =>
      obtain ⟨i, k, hi, hk, hne, e⟩ := h.sound a (by simp)
      exact absurd ⟨bs a, e.symm⟩ (hp k i hk hi (Ne.symm hne))
/-- What comes of a by the first i words. -/
structure Cnt (W : List (List UInt8)) (a : ByteArray) (f : List ByteArray) (i : Nat) : Prop where
  sound : ∀ r ∈ f, ∃ j, j < W.length ∧ (W.getD j [] = bs a ++ bs r ∨ bs a = W.getD j [] ++ bs r)
  all : ∀ j, j < i → Shut W f a j
  few : f.length ≤ i
theorem cnt_nil (W : List (List UInt8)) (a : ByteArray) : Cnt W a [] 0 := ⟨fun _ h => (by cases h), fun _ h => (by omega), Nat.zero_le _⟩
theorem cnt_yes {W : List (List UInt8)} {a : ByteArray} {f : List ByteArray} {i : Nat} (h : Cnt W a f i) (hi : i < W.length) {r : ByteArray} (hr : W.getD i [] = bs a ++ bs r ∨ bs a = W.getD i [] ++ bs r) : Cnt W a (f ++ [r]) (i + 1) := by
  refine ⟨fun b hb => ?_, fun j hj => ?_, by rw [List.length_append, List.length_singleton]; have := h.few; omega⟩
  · rcases List.mem_append.1 hb with hb | hb
    · exact h.sound b hb
    · rw [List.mem_singleton.1 hb]; exact ⟨i, hi, hr⟩
  · rcases Nat.lt_or_ge j i with h1 | h1
    · exact (h.all j h1).more _
    · obtain rfl : j = i := by omega
      exact shut_in hr (by simp)
theorem cnt_no {W : List (List UInt8)} {a : ByteArray} {f : List ByteArray} {i : Nat} (h : Cnt W a f i) (h1 : ¬ bs a <+: W.getD i []) (h2 : ¬ W.getD i [] <+: bs a) : Cnt W a f (i + 1) :=
  ⟨h.sound, fun j hj => by
    rcases Nat.lt_or_ge j i with h3 | h3
    · exact h.all j h3
    · obtain rfl : j = i := by omega
      exact shut_no h1 h2, by have := h.few; omega⟩
/-- New ones are put behind, each once. -/
def tIn (r : ByteArray) (l : List ByteArray) : Bool := (l.map bs).contains (bs r)
theorem tIn_iff {r : ByteArray} {l : List ByteArray} : tIn r l = true ↔ r ∈ l := by
  unfold tIn
  rw [List.contains_iff_mem, List.mem_map]
  exact ⟨fun ⟨a, h, e⟩ => bs_inj e ▸ h, fun h => ⟨r, h, rfl⟩⟩
def add1 (l : List ByteArray) (r : ByteArray) : List ByteArray := if tIn r l = true then l else l ++ [r]
def addL (l f : List ByteArray) : List ByteArray := f.foldl add1 l
theorem addL_snoc (l f : List ByteArray) (r : ByteArray) : addL l (f ++ [r]) = add1 (addL l f) r := by simp [addL]
theorem addL_take (l : List ByteArray) {f : List ByteArray} {i : Nat} (h : i < f.length) : addL l (f.take (i + 1)) = add1 (addL l (f.take i)) (f.getD i ByteArray.empty) := by
  rw [List.take_succ_eq_append_getElem h, addL_snoc]
  simp [h]
theorem add1_mem {l : List ByteArray} {r a : ByteArray} : a ∈ add1 l r ↔ a ∈ l ∨ a = r := by
  unfold add1
  split
  · rename_i h
    constructor
    · exact .inl
    · rintro (h' | rfl)
      · exact h'
      · exact tIn_iff.1 h
  · simp
theorem addL_mem {f : List ByteArray} : ∀ {l : List ByteArray} {a : ByteArray}, a ∈ addL l f ↔ a ∈ l ∨ a ∈ f := by
  induction f with
  | nil => intro l a; simp [addL]
  | cons r f ih =>
    intro l a
    show a ∈ addL (add1 l r) f ↔ _
    rw [ih, add1_mem, List.mem_cons, or_assoc]
theorem add1_pre (l : List ByteArray) (r : ByteArray) : l <+: add1 l r := by
  unfold add1
  split
  · exact List.prefix_refl _
  · exact List.prefix_append _ _
theorem addL_pre (f : List ByteArray) : ∀ l : List ByteArray, l <+: addL l f := by
  induction f with
  | nil => intro l; exact List.prefix_refl _
  | cons r f ih => intro l; exact (add1_pre l r).trans (ih (add1 l r))
theorem add1_nodup {l : List ByteArray} (h : l.Nodup) (r : ByteArray) : (add1 l r).Nodup := by
  unfold add1
  split
  · exact h
  · rename_i hn
    rw [List.nodup_append]
    exact ⟨h, by simp, fun x hx y hy e => hn (tIn_iff.2 (by rw [List.mem_singleton.1 hy] at e; rw [← e]; exact hx))⟩
theorem addL_nodup (f : List ByteArray) : ∀ {l : List ByteArray}, l.Nodup → (addL l f).Nodup := by
  induction f with
  | nil => intro l h; exact h
  | cons r f ih => intro l h; exact ih (add1_nodup h r)
theorem pre_getD {l m : List ByteArray} (h : l <+: m) {j : Nat} (hj : j < l.length) : m.getD j ByteArray.empty = l.getD j ByteArray.empty := by
  obtain ⟨r, rfl⟩ := h
  exact getD_more l r hj
theorem pre_drop {l : List ByteArray} {p : Nat} (hp : p ≤ l.length) (r : ByteArray) : (add1 l r).drop p = if tIn r l = true then l.drop p else l.drop p ++ [r] := by
  unfold add1
  split
  · rfl
  · rw [List.drop_append_of_le_length hp]
theorem add1_len (l : List ByteArray) (r : ByteArray) : (add1 l r).length ≤ l.length + 1 := by
  unfold add1
  split
  · omega
  · simp
theorem addL_len (f : List ByteArray) : ∀ l : List ByteArray, (addL l f).length ≤ l.length + f.length := by
  induction f with
  | nil => intro l; exact Nat.le_refl _
  | cons r f ih =>
    intro l
    have h1 := ih (add1 l r)
    have h2 := add1_len l r
    rw [List.length_cons]
    exact Nat.le_trans h1 (by omega)
theorem tIn_snoc (s x : ByteArray) (l : List ByteArray) : tIn s (l ++ [x]) = (tIn s l || decide (s = x)) := by
  rw [Bool.eq_iff_iff, tIn_iff, Bool.or_eq_true, tIn_iff, decide_eq_true_eq]
  simp
theorem fol_size {W : List (List UInt8)} {l : List ByteArray} {i k : Nat} (h : Fol W l i k) (h8 : ∀ x ∈ W, x.length ≤ 8) : ∀ a ∈ l, a.size ≤ 8 := fun a ha => by
  obtain ⟨i', k', _, hk, _, e⟩ := h.sound a ha
  have := h8 (W.getD k' []) (by rw [List.getD_eq_getElem?_getD, List.getElem?_eq_getElem hk]; exact List.getElem_mem hk)
  rw [e, List.length_append, bs_len] at this
  omega
theorem cnt_size {W : List (List UInt8)} {a : ByteArray} {f : List ByteArray} {i : Nat} (h : Cnt W a f i) (h8 : ∀ x ∈ W, x.length ≤ 8) (ha : a.size ≤ 8) : ∀ r ∈ f, r.size ≤ 8 := fun r hr => by
  obtain ⟨j, hj, e | e⟩ := h.sound r hr
  · have := h8 (W.getD j []) (by rw [List.getD_eq_getElem?_getD, List.getElem?_eq_getElem hj]; exact List.getElem_mem hj)
    rw [e, List.length_append, bs_len, bs_len] at this
    omega
  · have := congrArg List.length e
    rw [List.length_append, bs_len, bs_len] at this
    omega
/-- The search: l are those seen, the first p of them are done. -/
structure Ap (W : List (List UInt8)) (l : List ByteArray) (p : Nat) : Prop where
  sound : ∀ a ∈ l, Dang W (bs a)
  start : ∀ i' k' s, i' < W.length → k' < W.length → i' ≠ k' → W.getD i' [] = W.getD k' [] ++ s → txt s ∈ l
  done : ∀ j, j < p → j < l.length → ∀ i', i' < W.length → Shut W l (l.getD j ByteArray.empty) i'
  once : l.Nodup
theorem ap_start {W : List (List UInt8)} {R : List ByteArray} (h : Fol W R W.length 0) : Ap W (addL [] R) 0 where
  sound := fun a ha => by
    rcases addL_mem.1 ha with h' | h'
    · cases h'
    · obtain ⟨i, k, hi, hk, hne, e⟩ := h.sound a h'
      exact .start hk hi (Ne.symm hne) e
  start := fun i' k' s h1 h2 h3 e => addL_mem.2 (.inr (h.start k' i' s h2 h1 (Ne.symm h3) (.inl h2) e))
  done := fun _ h => (by omega)
  once := addL_nodup R List.nodup_nil
theorem ap_step {W : List (List UInt8)} {l F : List ByteArray} {p : Nat} (h : Ap W l p) (hp : p < l.length) (hF : Cnt W (l.getD p ByteArray.empty) F W.length) : Ap W (addL l F) (p + 1) where
  sound := fun a ha => by
    rcases addL_mem.1 ha with h' | h'
    · exact h.sound a h'
    · have hd := h.sound (l.getD p ByteArray.empty) (by rw [List.getD_eq_getElem?_getD, List.getElem?_eq_getElem hp]; exact List.getElem_mem hp)
      obtain ⟨j, hj, e | e⟩ := hF.sound a h'
      · exact .fwd hd hj e
      · exact .back hd hj e
  start := fun i' k' s h1 h2 h3 e => addL_mem.2 (.inl (h.start i' k' s h1 h2 h3 e))
  done := fun j hj _ i' hi' => by
    rw [pre_getD (addL_pre F l) (by omega)]
    rcases Nat.lt_or_ge j p with h1 | h1
    · exact fun r hr => addL_mem.2 (.inl (h.done j h1 (by omega) i' hi' r hr))
    · obtain rfl : j = p := by omega
      exact fun r hr => addL_mem.2 (.inr (hF.all i' hi' r hr))
  once := addL_nodup F h.once
theorem ap_few {W : List (List UInt8)} {l : List ByteArray} {p : Nat} (h : Ap W l p) (h6 : W.length ≤ 6) (h8 : ∀ x ∈ W, x.length ≤ 8) : l.length ≤ 54 := by
  have h1 := nodup_sub (l.map bs) (sufs W) ((List.pairwise_map.2 (h.once.imp fun {a b} hne e => hne (bs_inj e)))) (fun x hx => by
    obtain ⟨b, hb, rfl⟩ := List.mem_map.1 hx
    exact sufs_mem (h.sound b hb))
  rw [List.length_map] at h1
  have h2 := sufs_len h8
  omega
theorem ap_size {W : List (List UInt8)} {l : List ByteArray} {p : Nat} (h : Ap W l p) (h8 : ∀ x ∈ W, x.length ≤ 8) : ∀ a ∈ l, a.size ≤ 8 := fun a ha => by
  obtain ⟨i, hi, q, e⟩ := dang_end_of (h.sound a ha)
  have := h8 (W.getD i []) (by rw [List.getD_eq_getElem?_getD, List.getElem?_eq_getElem hi]; exact List.getElem_mem hi)
  rw [e, List.length_append, bs_len] at this
  omega
theorem ap_void {W : List (List UInt8)} {l : List ByteArray} {p : Nat} (h : Ap W l p) {a : ByteArray} (ha : a ∈ l) (h0 : a.size = 0) : ¬ UD W := by
  have := h.sound a ha
  rw [bs_zero h0] at this
  exact dang_two this
theorem ap_end {W : List (List UInt8)} {l : List ByteArray} (h : Ap W l l.length) (hw : Okw W) (h0 : txt [] ∉ l) : UD W := by
  refine (ud_iff hw).2 fun hd => h0 ?_
  have : [] ∈ l.map bs := by
    refine dang_in (A := l.map bs) ?_ ?_ hd
    · intro i k s h1 h2 h3 e
      exact List.mem_map.2 ⟨_, h.start i k s h1 h2 h3 e, bs_txt s⟩
    · intro a ha i r hi hr
      obtain ⟨b, hb, rfl⟩ := List.mem_map.1 ha
      obtain ⟨j, hj, e⟩ := List.getElem_of_mem hb
      have h1 := h.done j hj hj i hi
      rw [List.getD_eq_getElem?_getD, List.getElem?_eq_getElem hj, Option.getD_some, e] at h1
      exact List.mem_map.2 ⟨_, h1 r hr, bs_txt r⟩
  obtain ⟨b, hb, e⟩ := List.mem_map.1 this
  rw [← e, txt_bs]
  exact hb
end Go.Proofs.Ytlfncplldppncaa

/-
  Contracts of kraft.rests, continued and Free: what follows words in words, what comes of a text, whether no word begins another one, or the error that comes first. Conditions: of the first two words as they should be (and a text of at most 8 signs).
-/
namespace Go.Proofs.Ytlfncplldppncaa
open Go.RowKit

theorem strK : (Try.prog.info? 9).map (fun i => (i.zero, i.size, i.bytes)) = some (some (.string ByteArray.empty), 1, 16) := by kernel_rfl
theorem preB_iff {s t : ByteArray} : preB s t = true ↔ bs t <+: bs s := by
  unfold preB
  rw [decide_eq_true_eq, List.prefix_iff_eq_take, bs_len]
  constructor
  · rintro ⟨_, e⟩
    conv => lhs; rw [← e]
    rw [wb_ext]; simp
  · intro e
    refine ⟨?_, bs_inj (by rw [wb_ext, e]; simp)⟩
    have := congrArg List.length e
    rw [List.length_take, bs_len, bs_len] at this
    omega
theorem preB_no {s t : ByteArray} (h : ¬ bs t <+: bs s) : preB s t = false := by rw [← Bool.not_eq_true]; exact fun e => h (preB_iff.1 e)

set_option maxRecDepth 100000 in
set_option maxHeartbeats 2000000 in
theorem rests_any (A : Option Addr) (n c : Nat) (ws : List ByteArray) (w : World) (hf : Fine ws) (h : IsStrs w w.heap.size A n ws) :
    Calls Try.prog 20 #[.slice A n c] w fun e w' => ∃ v l, e = .returned v ∧ Fol (wl ws) l (wl ws).length 0 ∧ l.length ≤ 36 ∧ OwnS w' w.heap.size 9 v l ∧ Below w.heap.size w w' := by
  obtain ⟨i0, hi, hz0, hz1, hz2⟩ := info_parts strK
  have hwl := h.1
  have h6 : n ≤ 6 := by rw [← hwl]; exact hf.1
  have HWl : Hid ((wl ws).length = n) := hid (by rw [wl_len]; exact hwl)
  have HSz : Hid (∀ i, i < n → (wat ws i).size ≤ 8) := hid (fun i hi => (hf.2 i (by omega)).1)
  have HW : Hid (∀ i, i < n → (wl ws).getD i [] = bs (wat ws i)) := hid (fun i hi => wl_getD (by omega))
  have HX : Hid (0 < n → ∃ g off, A = some ⟨g, off, none⟩ ∧ g < w.heap.size ∧ ∀ i, i < n → w.cell? ⟨g, off + i, none⟩ = some (.string (wat ws i))) := hid (fun h0 => h.2 h0)
  clear h hwl hf
  go_enter Try.func20, Try.ntmps20
  go_wp2_with fail
  go_loopw [3, 10] (fun v x wr => ∃ i : Nat, i ≤ n ∧ x = .int .i64 i ∧ Hid (∃ l, Fol (wl ws) l i 0 ∧ OwnS wr w.heap.size 9 v l) ∧ Below w.heap.size w wr) (fun _ x _ => n - (intOf x).toNat)
  case atStart => exact ⟨0, by omega, rfl, hid ⟨[], fol_nil _, OwnS.nil _ _ _⟩, Below.refl _ _⟩
  case round =>
    obtain ⟨i, hin, rfl, HL, hb⟩ := hrel
    by_cases hlt : i < n
    · obtain ⟨g, off, rfl, hg, hc⟩ := HX.out (by omega)
      have c0 := (hb.cell (p := ⟨g, off + i, none⟩) hg).trans (hc i hlt)
      have s0 := HSz.out i hlt
      have e0 := HW.out i hlt
      obtain ⟨S, hS⟩ : ∃ S, S = wat ws i := ⟨_, rfl⟩
      rw [← hS] at c0 s0 e0
      have HE0 := hid e0
      clear hS e0 hc
      go_wp2_with fail
      obtain ⟨wy, hwy⟩ : ∃ q, q = wr := ⟨_, rfl⟩
      rw [← hwy]
      have hb' : Below w.heap.size w wy := by rw [hwy]; exact hb
      have HL' : Hid (∃ l, Fol (wl ws) l i 0 ∧ OwnS wy w.heap.size 9 u3 l) := hid (by rw [hwy]; exact HL.out)
      clear hwy hb HL
      go_loopw [3, 17] (fun v x wr => ∃ k : Nat, k ≤ n ∧ x = .int .i64 k ∧ Hid (∃ l, Fol (wl ws) l i k ∧ OwnS wr w.heap.size 9 v l) ∧ Below w.heap.size w wr) (fun _ x _ => n - (intOf x).toNat)
      case atStart => exact ⟨0, by omega, rfl, HL', hb'⟩
      case round =>
        clear HL' hb'
        obtain ⟨k, hkn, rfl, HL, hb⟩ := hrel
        have hsz := hb.size
        by_cases hlk : k < n
        · obtain ⟨g', off', hA, hg', hc⟩ := HX.out (by omega)
          obtain ⟨rfl, rfl⟩ : g = g' ∧ off = off' := by injection hA with hA; injection hA with h1 h2 _; exact ⟨h1, h2⟩
          have c1 := (hb.cell (p := ⟨g, off + k, none⟩) hg).trans (hc k hlk)
          have s1 := HSz.out k hlk
          have e1 := HW.out k hlk
          have HP := fun W => hid (prefix_any (wat ws k) S W (by omega) (by omega))
          clear hc hA hg'
          by_cases hik : i = k
          · have hne : ((i : Int) != (k : Int)) = false := by simp [hik]
            have HL2 : Hid (∃ l, Fol (wl ws) l i (k + 1) ∧ OwnS wr w.heap.size 9 u3 l) := hid (by
              obtain ⟨l, h1, h2⟩ := HL.out
              exact ⟨l, fol_no h1 (.inl hik), h2⟩)
            generalize wat ws k = T at c1 s1 e1 HP
            clear HL hik e1
            go_wp2_with fail
            go_roundw
            case rel => exact ⟨k + 1, by omega, by go_num, HL2, hb⟩
            case measure => simp [intOf]; omega
          · have hne : ((i : Int) != (k : Int)) = true := by simp; omega
            by_cases hp : bs S <+: bs (wat ws k)
            · obtain ⟨l, hF, hO⟩ := HL.out
              have HF2 := hid (fol_yes hF (by rw [HWl.out]; exact hlt) (by rw [HWl.out]; exact hlk) hik (a := rst (wat ws k) S) (by rw [e1, HE0.out]; exact rst_bs hp))
              have hll : l.length ≤ 1099511627776 := by have := hF.few; omega
              have HO := hid hO
              rw [preB_iff.2 hp] at HP
              have hle := hp.length_le
              rw [bs_len, bs_len] at hle
              have hcut : ∀ W : World, Sem.run Try.prog (Instr.slice 9 (.string (wat ws k)) (some (.int .i64 (S.size : Int))) none none) W = .ok (.string (rst (wat ws k) S)) W := fun W =>
                run_slice_string_l W 9 (wat ws k) Try.underlying9 .i64 (S.size : Int) (by omega) (by omega)
              generalize rst (wat ws k) S = X at HF2 hcut
              generalize wat ws k = T at c1 s1 e1 HP hcut hle
              clear hp hF hO HL e1 hle
              go_wp2_with fail
              refine (HP _).out.mono ?_
              rintro e w5 ⟨rfl, hw5⟩
              subst w5
              go_wp2_with (at_builtin; refine wpList_append_str _ rfl (.tmp 30) (.tmp 35) 22 rfl w.heap.size 9 i0 Try.underlying22 hi hz0 hz1 hz2 _ l rfl HO.out X rfl hll hsz ?_)
              intro v' w7 hown7 hb7
              have HO7 := hid hown7
              clear hown7
              go_wp2_with fail
              go_roundw
              case rel => exact ⟨k + 1, by omega, by go_num, hid ⟨_, HF2.out, HO7.out⟩, hb.trans hb7⟩
              case measure => simp [intOf]; omega
            · have HL2 : Hid (∃ l, Fol (wl ws) l i (k + 1) ∧ OwnS wr w.heap.size 9 u3 l) := hid (by
                obtain ⟨l, h1, h2⟩ := HL.out
                exact ⟨l, fol_no h1 (.inr (by rw [e1, HE0.out]; exact hp)), h2⟩)
              rw [preB_no hp] at HP
              generalize wat ws k = T at c1 s1 e1 HP
              clear HL hp e1
              go_wp2_with fail
              refine (HP _).out.mono ?_
              rintro e w5 ⟨rfl, hw5⟩
              subst w5
              go_wp2_with fail
              go_roundw
              case rel => exact ⟨k + 1, by omega, by go_num, HL2, hb⟩
              case measure => simp [intOf]; omega
        · obtain rfl : k = n := by omega
          have HL2 : Hid (∃ l, Fol (wl ws) l (i + 1) 0 ∧ OwnS wr w.heap.size 9 u3 l) := hid (by
            obtain ⟨l, h1, h2⟩ := HL.out
            exact ⟨l, fol_row (by rw [HWl.out]; exact h1) (by rw [HWl.out]; exact h6), h2⟩)
          clear HL
          go_wp2_with fail
          go_roundw
          case rel => exact ⟨i + 1, by omega, by go_num, HL2, hb⟩
          case measure => simp [intOf]; omega
    · obtain rfl : i = n := by omega
      go_wp2_with fail
      go_ret
      obtain ⟨l, h1, h2⟩ := HL.out
      exact ⟨_, l, rfl, by rw [HWl.out]; exact h1, by have := h1.few; omega, h2, hb⟩

set_option maxRecDepth 100000 in
set_option maxHeartbeats 2000000 in
theorem continued_any (a : ByteArray) (A : Option Addr) (n c : Nat) (ws : List ByteArray) (w : World) (ha : a.size ≤ 8) (hf : Fine ws) (h : IsStrs w w.heap.size A n ws) :
    Calls Try.prog 21 #[.string a, .slice A n c] w fun e w' => ∃ v f, e = .returned v ∧ Cnt (wl ws) a f (wl ws).length ∧ f.length ≤ 6 ∧ OwnS w' w.heap.size 9 v f ∧ Below w.heap.size w w' := by
  obtain ⟨i0, hi, hz0, hz1, hz2⟩ := info_parts strK
  have hwl := h.1
  have h6 : n ≤ 6 := by rw [← hwl]; exact hf.1
  have HWl : Hid ((wl ws).length = n) := hid (by rw [wl_len]; exact hwl)
  have HSz : Hid (∀ i, i < n → (wat ws i).size ≤ 8) := hid (fun i hi => (hf.2 i (by omega)).1)
  have HW : Hid (∀ i, i < n → (wl ws).getD i [] = bs (wat ws i)) := hid (fun i hi => wl_getD (by omega))
  have HX : Hid (0 < n → ∃ g off, A = some ⟨g, off, none⟩ ∧ g < w.heap.size ∧ ∀ i, i < n → w.cell? ⟨g, off + i, none⟩ = some (.string (wat ws i))) := hid (fun h0 => h.2 h0)
  clear h hwl hf
  go_enter Try.func21, Try.ntmps21
  go_wp2_with fail
  go_loopw [5, 10] (fun v x wr => ∃ i : Nat, i ≤ n ∧ x = .int .i64 i ∧ Hid (∃ f, Cnt (wl ws) a f i ∧ OwnS wr w.heap.size 9 v f) ∧ Below w.heap.size w wr) (fun _ x _ => n - (intOf x).toNat)
  case atStart => exact ⟨0, by omega, rfl, hid ⟨[], cnt_nil _ _, OwnS.nil _ _ _⟩, Below.refl _ _⟩
  case round =>
    obtain ⟨i, hin, rfl, HL, hb⟩ := hrel
    have hsz := hb.size
    by_cases hlt : i < n
    · obtain ⟨g, off, rfl, hg, hc⟩ := HX.out (by omega)
      have c1 := (hb.cell (p := ⟨g, off + i, none⟩) hg).trans (hc i hlt)
      have s1 := HSz.out i hlt
      have e1 := HW.out i hlt
      obtain ⟨f, hF, hO⟩ := HL.out
      have hll : f.length ≤ 1099511627776 := by have := hF.few; omega
      have HO := hid hO
      have HP1 := fun W => hid (prefix_any a (wat ws i) W (by omega) (by omega))
      have HP2 := fun W => hid (prefix_any (wat ws i) a W (by omega) (by omega))
      have hil : i < (wl ws).length := by rw [HWl.out]; exact hlt
      clear hc HL hO
      by_cases hp1 : bs (wat ws i) <+: bs a
      · have HF2 := hid (cnt_yes hF hil (r := rst a (wat ws i)) (.inr (by rw [e1]; exact rst_bs hp1)))
        rw [preB_iff.2 hp1] at HP1
        have hle := hp1.length_le
        rw [bs_len, bs_len] at hle
        have hcut : ∀ W : World, Sem.run Try.prog (Instr.slice 9 (.string a) (some (.int .i64 ((wat ws i).size : Int))) none none) W = .ok (.string (rst a (wat ws i))) W := fun W =>
          run_slice_string_l W 9 a Try.underlying9 .i64 ((wat ws i).size : Int) (by omega) (by omega)
        generalize rst a (wat ws i) = X at HF2 hcut
        generalize wat ws i = T at c1 s1 e1 HP1 HP2 hcut hle
        clear hp1 hF e1 hle hil HP2
        go_wp2_with fail
        refine (HP1 _).out.mono ?_
        rintro e w5 ⟨rfl, hw5⟩
        subst w5
        go_wp2_with (at_builtin; refine wpList_append_str _ rfl (.tmp 17) (.tmp 22) 22 rfl w.heap.size 9 i0 Try.underlying22 hi hz0 hz1 hz2 _ f rfl HO.out X rfl hll hsz ?_)
        intro v' w7 hown7 hb7
        have HO7 := hid hown7
        clear hown7
        go_wp2_with fail
        go_roundw
        case rel => exact ⟨i + 1, by omega, by go_num, hid ⟨_, HF2.out, HO7.out⟩, hb.trans hb7⟩
        case measure => simp [intOf]; omega
      · by_cases hp2 : bs a <+: bs (wat ws i)
        · have HF2 := hid (cnt_yes hF hil (r := rst (wat ws i) a) (.inl (by rw [e1]; exact rst_bs hp2)))
          rw [preB_no hp1] at HP1
          rw [preB_iff.2 hp2] at HP2
          have hle := hp2.length_le
          rw [bs_len, bs_len] at hle
          have hcut : ∀ W : World, Sem.run Try.prog (Instr.slice 9 (.string (wat ws i)) (some (.int .i64 (a.size : Int))) none none) W = .ok (.string (rst (wat ws i) a)) W := fun W =>
            run_slice_string_l W 9 (wat ws i) Try.underlying9 .i64 (a.size : Int) (by omega) (by omega)
          generalize rst (wat ws i) a = X at HF2 hcut
          generalize wat ws i = T at c1 s1 e1 HP1 HP2 hcut hle
          clear hp1 hp2 hF e1 hle hil
          go_wp2_with fail
          refine (HP1 _).out.mono ?_
          rintro e w5 ⟨rfl, hw5⟩
          subst w5
          go_wp2_with fail
          refine (HP2 _).out.mono ?_
          rintro e w5 ⟨rfl, hw5⟩
          subst w5
          go_wp2_with (at_builtin; refine wpList_append_str _ rfl (.tmp 27) (.tmp 32) 22 rfl w.heap.size 9 i0 Try.underlying22 hi hz0 hz1 hz2 _ f rfl HO.out X rfl hll hsz ?_)
          intro v' w7 hown7 hb7
          have HO7 := hid hown7
          clear hown7
          go_wp2_with fail
          go_roundw
          case rel => exact ⟨i + 1, by omega, by go_num, hid ⟨_, HF2.out, HO7.out⟩, hb.trans hb7⟩
          case measure => simp [intOf]; omega
        · have HF2 := hid (cnt_no hF (i := i) (by rw [e1]; exact hp2) (by rw [e1]; exact hp1))
          rw [preB_no hp1] at HP1
          rw [preB_no hp2] at HP2
          generalize wat ws i = T at c1 s1 e1 HP1 HP2
          clear hp1 hp2 hF e1 hil
          go_wp2_with fail
          refine (HP1 _).out.mono ?_
          rintro e w5 ⟨rfl, hw5⟩
          subst w5
          go_wp2_with fail
          refine (HP2 _).out.mono ?_
          rintro e w5 ⟨rfl, hw5⟩
          subst w5
          go_wp2_with fail
          go_roundw
          case rel => exact ⟨i + 1, by omega, by go_num, hid ⟨_, HF2.out, HO.out⟩, hb⟩
          case measure => simp [intOf]; omega
    · obtain rfl : i = n := by omega
      go_wp2_with fail
      go_ret
      obtain ⟨f, h1, h2⟩ := HL.out
      exact ⟨_, f, rfl, by rw [HWl.out]; exact h1, by have := h1.few; omega, h2, hb⟩

theorem kfree_ok (A : Option Addr) (n c : Nat) (ws : List ByteArray) (w : World) (hf : Fine ws) (h : IsStrs w w.heap.size A n ws) :
    Calls Try.prog 8 #[.slice A n c] w fun e w' => ∃ b : Bool, (b = true ↔ Pfree (wl ws)) ∧ e = .returned (.tuple #[.bool b, .nilIface]) ∧ Below w.heap.size w w' := by
  have HC := hid (tcheck_ok A n c ws w hf h)
  have HR := fun (W : World) (hW : Below w.heap.size w W) => hid (rests_any A n c ws W hf ((h.below hW).mono hW.size))
  clear h hf
  go_enter Try.func8, Try.ntmps8
  go_wp2_with fail
  refine HC.out.mono ?_
  rintro e w1 ⟨rfl, hb1⟩
  have HR1 := HR w1 hb1
  clear HC HR
  go_wp2_with fail
  refine HR1.out.mono ?_
  rintro e w2 ⟨v, l, rfl, hF, hl, hO, hb2⟩
  have hb := hb1.trans (hb2.mono hb1.size)
  obtain ⟨B, cB, rfl, _⟩ := hO.strs
  have HF := hid (fol_free hF)
  generalize l.length = m at hl HF
  clear hF hO hb1 hb2 HR1
  by_cases h0 : m = 0
  · have HY := hid (HF.out.1 h0)
    subst h0
    go_wp2_with fail
    go_ret2
    exact ⟨true, ⟨fun _ => HY.out, fun _ => rfl⟩, rfl, hb⟩
  · have HN : Hid (¬ Pfree (wl ws)) := hid (fun hp => h0 (HF.out.2 hp))
    have m1 : ((m : Int) == 0) = false := by simp; omega
    go_wp2_with fail
    go_ret2
    exact ⟨false, ⟨fun h => (by cases h), fun h => absurd h HN.out⟩, rfl, hb⟩
theorem kfree_bad (A : Option Addr) (n c : Nat) (ws : List ByteArray) (k : Int) (w : World) (hn : n ≤ maxLen) (hs : ∀ i, i < n → (wat ws i).size ≤ maxLen) (hk : Bad ws k) (h : IsStrs w w.heap.size A n ws) :
    Calls Try.prog 8 #[.slice A n c] w fun e w' => e = .returned (.tuple #[.bool false, .iface 58 (.int .i64 k)]) ∧ Below w.heap.size w w' := by
  have HC := hid (tcheck_bad A n c ws k w hn hs hk h)
  clear h hk hs hn
  go_enter Try.func8, Try.ntmps8
  go_wp2_with fail
  refine HC.out.mono ?_
  rintro e w1 ⟨rfl, hb1⟩
  go_wp2_with fail
  go_ret2
  exact ⟨rfl, hb1⟩
end Go.Proofs.Ytlfncplldppncaa

/-
  Plain facts on memory: a queue of texts of the call's own ('q = q[1:]', 'q = append(q, t)'), and what is kept beside it, a map and a variable. No condition.
-/
namespace Go.Proofs.Ytlfncplldppncaa
open Go.RowKit

/-- A slice value of the call's own that holds the texts os, beginning anywhere in its block (from block 'base' on), or nil. -/
def QV (w : World) (base : Nat) (e : TypeId) (v : Value) (os : List ByteArray) : Prop :=
  (v = .slice none 0 0 ∧ os = []) ∨ ∃ g off cap vs, v = .slice (some ⟨g, off, none⟩) os.length cap ∧ base ≤ g ∧ BlkAt w g e vs ∧ os.length ≤ cap ∧ off + cap ≤ vs.length ∧ cap ≤ maxLen ∧ ∀ j, j < os.length → vs[off + j]? = some (.string (os.getD j ByteArray.empty))
theorem QV.nil (w : World) (base : Nat) (e : TypeId) : QV w base e (.slice none 0 0) [] := .inl ⟨rfl, rfl⟩
theorem QV.lt {w : World} {base : Nat} {e : TypeId} {v : Value} {os : List ByteArray} (h : QV w base e v os) {b : Nat} (hb : v.ownBlock = some b) : base ≤ b ∧ b < w.heap.size := by
  rcases h with ⟨rfl, _⟩ | ⟨g, off, cap, vs, rfl, hg, hB, _⟩
  · cases hb
  · have : g = b := by simpa [Value.ownBlock] using hb
    subst this
    exact ⟨hg, hB.lt⟩
theorem QV.keep {w w' : World} {base : Nat} {e : TypeId} {v : Value} {os : List ByteArray} (h : QV w base e v os) (hk : ∀ b, v.ownBlock = some b → w'.heap[b]? = w.heap[b]?) : QV w' base e v os := by
  rcases h with h | ⟨g, off, cap, vs, rfl, hg, hB, r⟩
  · exact .inl h
  · exact .inr ⟨g, off, cap, vs, rfl, hg, (hk g rfl).trans hB, r⟩
theorem QV.shape {w : World} {base : Nat} {e : TypeId} {v : Value} {os : List ByteArray} (h : QV w base e v os) : ∃ A c, v = .slice A os.length c := by
  rcases h with ⟨rfl, rfl⟩ | ⟨g, off, cap, vs, rfl, _⟩
  · exact ⟨_, _, rfl⟩
  · exact ⟨_, _, rfl⟩
/-- The first one, and the rest. -/
theorem QV.head {w : World} {base : Nat} {e : TypeId} {v : Value} {x : ByteArray} {os : List ByteArray} (h : QV w base e v (x :: os)) :
    ∃ g off c, v = .slice (some ⟨g, off, none⟩) (os.length + 1) c ∧ 1 ≤ c ∧ w.cell? ⟨g, off, none⟩ = some (.string x) ∧ QV w base e (.slice (some ⟨g, if c = 1 then off else off + 1, none⟩) os.length (c - 1)) os := by
  rcases h with ⟨_, h⟩ | ⟨g, off, cap, vs, rfl, hg, hB, h1, h2, h3, h4⟩
  · cases h
  · rw [List.length_cons] at h1
    have hx := h4 0 (by simp)
    rw [Nat.add_zero] at hx
    refine ⟨g, off, cap, by rw [List.length_cons], by omega, hB.cell hx, ?_⟩
    by_cases e1 : cap = 1
    · have : os = [] := List.eq_nil_of_length_eq_zero (by omega)
      subst this
      rw [if_pos e1]
      exact .inr ⟨g, off, cap - 1, vs, rfl, hg, hB, by simp, by omega, by omega, fun j hj => by simp at hj⟩
    · rw [if_neg e1]
      refine .inr ⟨g, off + 1, cap - 1, vs, rfl, hg, hB, by omega, by omega, by omega, fun j hj => ?_⟩
      have := h4 (j + 1) (by rw [List.length_cons]; omega)
      rw [show off + 1 + j = off + (j + 1) by omega, this]
      rfl
theorem QV.of_own {w : World} {base : Nat} {e : TypeId} {v : Value} {os : List ByteArray} (h : OwnS w base e v os) : QV w base e v os := by
  unfold OwnS at h
  generalize hn : os.length = n at h
  rcases h.2 with ⟨rfl, rfl⟩ | ⟨g, cap, cur, rfl, hg, hh, hnc, hcm, hcs, htk⟩
  · exact .inl ⟨rfl, List.eq_nil_of_length_eq_zero hn⟩
  · refine .inr ⟨g, 0, cap, cur.toList, by rw [hn], hg, by simpa [BlkAt] using hh, by omega, by rw [Array.length_toList]; omega, hcm, fun j hj => ?_⟩
    rw [Nat.zero_add]
    have h1 : (cur.toList.take (n * 1))[j]? = (os.map Value.string)[j]? := by rw [htk]
    rw [List.getElem?_take, if_pos (by omega), List.getElem?_map, List.getElem?_eq_getElem hj] at h1
    rw [h1, List.getD_eq_getElem?_getD, List.getElem?_eq_getElem hj]
    rfl

theorem OwnS.base {w : World} {b b' : Nat} {e : TypeId} {v : Value} {xs : List ByteArray} (h : OwnS w b e v xs) (hb : b' ≤ b) : OwnS w b' e v xs := by
  refine ⟨h.1, ?_⟩
  rcases h.2 with h' | ⟨g, cap, cur, h1, h2, h3⟩
  · exact .inl h'
  · exact .inr ⟨g, cap, cur, h1, by omega, h3⟩

/-- 'q = append(q, t)'. -/
theorem wpList_append_q {P : Program} (wr : World) {ops : Array Oper} {rest : List Oper} {o : Oper} {a : Act} {Q : Exit → Act → World → Prop} (hgd : o.guard = none) (s x : Operand) (t : TypeId)
    (ho : o.op = .call { callee := .builtin .append, args := #[s, x], argTypes := #[t, t] }) (base : Nat) (e : TypeId) (i : TypeInfo)
    (ht : P.underlying t = some (.slice e)) (hi : P.info? e = some i) (hz : i.zero = some (.string ByteArray.empty)) (hsize : i.size = 1) (hby : i.bytes = 16)
    (v : Value) (os : List ByteArray) (hs : a.eval s = v) (hq : QV wr base e v os) (k : ByteArray) (hx : a.eval x = .slice (some ⟨wr.heap.size, 0, none⟩) 1 1)
    (hlen : os.length ≤ 1000) (hbase : base ≤ wr.heap.size)
    (h : ∀ v' w', QV w' base e v' (os ++ [k]) → (w'.os = wr.os ∧ w'.tape = wr.tape ∧ w'.output = wr.output ∧ wr.heap.size ≤ w'.heap.size) → (∀ j, j < wr.heap.size → some j ≠ v.ownBlock → w'.heap[j]? = wr.heap[j]?) →
      (v'.ownBlock = v.ownBlock ∨ ∃ g, v'.ownBlock = some g ∧ wr.heap.size ≤ g) → wpList P ops Q rest (a.put o.dst v') w') :
    wpList P ops Q (o :: rest) a (wr.alloc (.cells #[.string k] e)) := by
  have hold : ∀ j, j < wr.heap.size → (wr.alloc (.cells #[.string k] e)).heap[j]? = wr.heap[j]? := fun j hj => Below.heap_alloc _ _ j hj
  rcases hq with ⟨rfl, rfl⟩ | ⟨g, off, cap, vs, rfl, hg, hB, h1, h2, h3, h4⟩
  · refine wpList_append_own_at _ hgd s x t ho base e i (.string ByteArray.empty) 1 16 ht hi hz hsize hby rfl (by decide) _ _ _ hs (World.ownsRow_nil _ _ _ _) ⟨wr.heap.size, 0, none⟩ 1 1 [.string k] hx rfl (cell_one_new _ _ _) (by simp [Value.oneCell']) (by decide) (by decide) (by simp; omega) ?_
    intro v' w' hown hgrow _ hat
    refine h v' w' (QV.of_own hown) ⟨hgrow.os, hgrow.tape, hgrow.output, Nat.le_trans (by simp) hgrow.size⟩ (fun j hj hne => (hgrow.block j (by simp; omega) hne).trans (hold j hj)) ?_
    rcases hat with hat | hat
    · exact .inl hat
    · exact .inr ⟨_, hat, by simp⟩
  · have hB2 : BlkAt (wr.alloc (.cells #[.string k] e)) g e vs := (hold g hB.lt).trans hB
    refine wpList_append_arg _ hgd s x t ho e i (.string ByteArray.empty) 1 16 ht hi hz hsize hby rfl (by decide) g off os.length cap (os.map Value.string) hs (by simp) ?_ ⟨wr.heap.size, 0, none⟩ 1 1 [.string k] hx rfl (cell_one_new _ _ _) (by simp [Value.oneCell']) ?_ (by unfold maxLen; omega) (by omega) ?_ ?_
    · intro j u hj
      have hjl : j < os.length := by
        have := (List.getElem?_eq_some_iff.1 hj).1
        simpa using this
      rw [hB2.cell (h4 j hjl)]
      simp [hjl] at hj
      simp [hjl, hj]
    · intro hr j hj
      have hj0 : j = 0 := by simpa using hj
      subst hj0
      refine ⟨?_, hB2.frozen _⟩
      rw [hB2.cell (k := off + os.length * 1 + 0) (v := vs[off + os.length * 1 + 0]'(by omega)) (List.getElem?_eq_getElem _)]
      rfl
    · intro hr
      have hst := hB2.stored (off + os.length) (.string k)
      have e1 : (wr.alloc (.cells #[.string k] e)).setCells g (off + os.length * 1) [.string k] = (wr.alloc (.cells #[.string k] e)).setCell ⟨g, off + os.length, none⟩ (.string k) := by
        rw [Nat.mul_one]; rfl
      rw [e1]
      refine h _ _ (.inr ⟨g, off, cap, vs.set (off + os.length) (.string k), by simp, hg, hst.1, by simp; omega, by simp; omega, h3, fun j hj => ?_⟩) ⟨hst.2.os, hst.2.tape, hst.2.output, by rw [hst.2.size]; simp⟩ (fun j hj hne => ?_) (.inl rfl)
      · rw [List.length_append, List.length_singleton] at hj
        by_cases e2 : j = os.length
        · subst e2
          rw [List.getElem?_set_self (by omega)]
          simp
        · rw [List.getElem?_set_ne (by omega), h4 j (by omega)]
          simp [List.getElem?_append_left (show j < os.length by omega)]
      · have : j ≠ g := fun e2 => hne (by rw [e2]; rfl)
        exact (hst.2.block j this).trans (hold j hj)
    · intro hfull v' w' hown hgrow
      refine h v' w' (QV.of_own ((OwnS.mk_ (by simpa using hown)).base (b := (wr.alloc (.cells #[.string k] e)).heap.size) (by simp; omega))) ⟨hgrow.os, hgrow.tape, hgrow.output, Nat.le_trans (by simp) hgrow.size⟩ (fun j hj _ => (hgrow.block j (by simp; omega) (by simp)).trans (hold j hj)) ?_
      rcases hown.2 with ⟨_, h0⟩ | ⟨g', cap', cur, rfl, hg', _⟩
      · omega
      · exact .inr ⟨g', rfl, by simp at hg'; omega⟩

/-- What turned but the blocks M and Vb and the value's own row is new. -/
structure KeepQ (w w' : World) (M Vb : Nat) (v v' : Value) : Prop where
  os : w'.os = w.os
  tape : w'.tape = w.tape
  output : w'.output = w.output
  size : w.heap.size ≤ w'.heap.size
  same : ∀ j, j < w.heap.size → j ≠ M → j ≠ Vb → some j ≠ v.ownBlock → w'.heap[j]? = w.heap[j]? ∧ some j ≠ v'.ownBlock
theorem KeepQ.refl (w : World) (M Vb : Nat) (v : Value) : KeepQ w w M Vb v v := ⟨rfl, rfl, rfl, Nat.le_refl _, fun _ _ _ _ h => ⟨rfl, h⟩⟩
theorem KeepQ.trans {a b c : World} {M Vb : Nat} {u v x : Value} (h : KeepQ a b M Vb u v) (k : KeepQ b c M Vb v x) : KeepQ a c M Vb u x :=
  ⟨k.os.trans h.os, k.tape.trans h.tape, k.output.trans h.output, Nat.le_trans h.size k.size, fun j hj h1 h2 h3 => by
    obtain ⟨e1, n1⟩ := h.same j hj h1 h2 h3
    obtain ⟨e2, n2⟩ := k.same j (Nat.lt_of_lt_of_le hj h.size) h1 h2 n1
    exact ⟨e2.trans e1, n2⟩⟩
theorem KeepQ.of_below {w w' : World} (M Vb : Nat) (v : Value) (hb : Below w.heap.size w w') : KeepQ w w' M Vb v v := ⟨hb.os, hb.tape, hb.output, hb.size, fun j hj _ _ h => ⟨hb.block j hj, h⟩⟩
theorem KeepQ.cell {w w' : World} {M Vb : Nat} {v v' : Value} (h : KeepQ w w' M Vb v v') {g : Nat} (hg : g < w.heap.size) (h1 : g ≠ M) (h2 : g ≠ Vb) (h3 : some g ≠ v.ownBlock) (j : Nat) : w'.cell? ⟨g, j, none⟩ = w.cell? ⟨g, j, none⟩ := by
  simp [World.cell?, (h.same g hg h1 h2 h3).1]
theorem KeepQ.below {w w' : World} {M Vb B : Nat} {v v' : Value} (h : KeepQ w w' M Vb v v') (hB : B ≤ w.heap.size) (h1 : B ≤ M) (h2 : B ≤ Vb) (h3 : ∀ b, v.ownBlock = some b → B ≤ b) : Below B w w' :=
  ⟨h.os, h.tape, h.output, h.size, fun k hk => (h.same k (by omega) (by omega) (by omega) (fun e => by have := h3 k e.symm; omega)).1⟩
end Go.Proofs.Ytlfncplldppncaa
