/-
  Several of this claim's texts in one (Klen, ByteI, Kbin, CodeT, Kcod, Maps, Tcheck, Pref, OwnS, Ostr): what each proves stands at its own head. Conditions: as each says.
-/
import Derived.Deep.OwnRows
import Derived.Laws.IdiomStrings
import Derived.Lib.RabinKarpLaws
import Derived.Deep.RegionWith
import Derived.Maps.OwnSet
import Derived.Maps.RangeWalk
import Derived.OneCell
import Derived.StringKeys
import Derived.Test.YtlfncplldppncaaDoorQe

/-
  Contract of kraft.byLength: the places of lengths, the shorter ones first, of equal ones the earlier one first, in new memory. Conditions: at most ten lengths, from 1 to 12.
-/
namespace Go.Proofs.YtlfncplldppncaaDoor
open Go.RowKit Go.Shelf Go.Sort

theorem blen_fn (E : List Nat) (n c g off B a b : Nat) (w : World) (hB : w.cell? ⟨B, 0, none⟩ = some (.slice (some ⟨g, off, none⟩) n c)) (hc : ∀ j, j < n → w.cell? ⟨g, off + j, none⟩ = some (.int .i64 ((E.getD j 0 : Nat) : Int)))
    (hE : ∀ j, j < n → E.getD j 0 ≤ 12) (ha : a < n) (hb : b < n) :
    Calls Tryd.prog 34 #[.int .i64 a, .int .i64 b, .pointer (some ⟨B, 0, none⟩)] w fun e w' => e = .returned (.int .i64 (((E.getD a 0 : Nat) : Int) - (E.getD b 0 : Nat))) ∧ ∃ q, w' = w.drewN q := by
  have ca := hc a ha
  have cb := hc b hb
  have ea := hE a ha
  have eb := hE b hb
  clear hc hE
  generalize E.getD a 0 = X at ca ea ⊢
  generalize E.getD b 0 = Y at cb eb ⊢
  have a1 : (a : Int) < (n : Int) := by omega
  have b1 : (b : Int) < (n : Int) := by omega
  have s1 : IntKind.i64.wrap ((X : Int) - (Y : Int)) = (X : Int) - (Y : Int) := IntWalk.i64_in _ (by omega)
  go_enter Tryd.func34, Tryd.ntmps34
  go_wp2_with fail
  go_quiet (fail)
  go_wp2_with fail
  go_ret
  exact ⟨rfl, _, rfl⟩

/-! ### The places of lengths, and their order -/
abbrev Pln (n : Nat) := { i : Nat // i < n }
def encN (n : Nat) (x : Pln n) : Value := .int .i64 (x.1 : Int)
def cmpN (E : List Nat) (n : Nat) (x y : Pln n) : Int := ((E.getD x.1 0 : Nat) : Int) - (E.getD y.1 0 : Nat)
/-- By the length, then by the place. -/
def LnT (E : List Nat) (n : Nat) (x y : Pln n) : Prop := E.getD x.1 0 < E.getD y.1 0 ∨ (E.getD x.1 0 = E.getD y.1 0 ∧ x.1 < y.1)
theorem lnT_tot (E : List Nat) (n : Nat) : Tot (LnT E n) where
  trans := by
    rintro x y z (h | ⟨h, h'⟩) (k | ⟨k, k'⟩)
    · exact .inl (by omega)
    · exact .inl (by omega)
    · exact .inl (by omega)
    · exact .inr ⟨by omega, by omega⟩
  irr := by
    rintro x (h | ⟨_, h⟩) <;> omega
theorem cmpN_lt (E : List Nat) (n : Nat) (x y : Pln n) : ltOf (cmpN E n) x y = true ↔ E.getD x.1 0 < E.getD y.1 0 := by
  unfold ltOf cmpN
  rw [decide_eq_true_eq]
  omega
theorem lnT_test (E : List Nat) (n : Nat) {x y : Pln n} (h : x.1 < y.1) : (ltOf (cmpN E n) y x = true → LnT E n y x) ∧ (ltOf (cmpN E n) y x = false → LnT E n x y) := by
  refine ⟨fun k => .inl ((cmpN_lt E n y x).1 k), fun k => ?_⟩
  have hn : ¬ E.getD y.1 0 < E.getD x.1 0 := fun c => by rw [(cmpN_lt E n y x).2 c] at k; cases k
  by_cases e : E.getD x.1 0 < E.getD y.1 0
  · exact .inl e
  · exact .inr ⟨by omega, h⟩
/-- All places, rising. -/
def allN (n : Nat) : Array (Pln n) := Array.ofFn fun i : Fin n => ⟨i.1, i.2⟩
theorem allN_size (n : Nat) : (allN n).size = n := by simp [allN]
theorem allN_at (n : Nat) [Inhabited (Pln n)] (j : Nat) (h : j < n) : ((allN n)[j]!).1 = j := by
  rw [getElem!_pos (allN n) j (by rw [allN_size]; exact h)]
  simp [allN]
/-- What the stable sort of the places gives. -/
theorem ord_sorted {E : List Nat} {n : Nat} (hE : E.length = n) [Inhabited (Pln n)] (d : Array (Pln n)) (hz : d.size = n) (hs : Srt (LnT E n) d 0 d.size) : LOrd E (d.toList.map (·.1)) := by
  have hpw : (d.toList.map (·.1)).Pairwise fun a b => E.getD a 0 < E.getD b 0 ∨ (E.getD a 0 = E.getD b 0 ∧ a < b) := by
    rw [List.pairwise_iff_getElem]
    intro i j hi hj hij
    simp only [List.length_map, Array.length_toList] at hi hj
    have h2 := hs i j (Nat.zero_le _) hij hj
    rw [getElem!_pos d i hi, getElem!_pos d j hj] at h2
    simp only [List.getElem_map, Array.getElem_toList]
    exact h2
  have hnd : (d.toList.map (·.1)).Nodup := hpw.imp fun {a b} h e => by
    subst e
    omega
  have hmem : ∀ i ∈ d.toList.map (·.1), i < n := fun i hi => by
    obtain ⟨x, _, rfl⟩ := List.mem_map.1 hi
    exact x.2
  refine ⟨?_, hpw⟩
  rw [hE]
  refine (List.perm_ext_iff_of_nodup hnd List.nodup_range).2 fun i => ⟨fun h => List.mem_range.2 (hmem i h), fun h => ?_⟩
  exact nodup_full (by simp [hz]) hmem hnd i (List.mem_range.1 h)

/-- A world that the sort passes through leaves what lies elsewhere alone. -/
theorem below_srt {α : Type} [Inhabited α] {enc : α → Value} {blk off n : Nat} {w : World} {d : Array α} {os : Array Obj} (hblk : blk < w.heap.size) : RowKit.Below blk w (sortWorld enc w blk off n d os) := by
  unfold sortWorld
  refine ⟨rfl, rfl, rfl, ?_, fun k hk => ?_⟩
  · rw [size_grow]; unfold putRow mapBlock; simp
  · rw [heap_grow_old _ _ (by unfold putRow mapBlock; simp; omega)]
    unfold putRow mapBlock
    rw [Array.getElem?_modify]
    simp [show blk ≠ k by omega]
/-- slices.SortStableFunc over all places, by the lengths there. -/
theorem sort_lens (E : List Nat) (n c g off : Nat) (h0 : 0 < n) (hE : E.length = n) (B blk : Nat) (w : World) (hn : n ≤ 10) (hB : w.cell? ⟨B, 0, none⟩ = some (.slice (some ⟨g, off, none⟩) n c)) (hBb : B < blk) (hgb : g < blk)
    (hc : ∀ j, j < n → w.cell? ⟨g, off + j, none⟩ = some (.int .i64 ((E.getD j 0 : Nat) : Int))) (h12 : ∀ j, j < n → E.getD j 0 ≤ 12)
    (hown : w.ownsRow blk 3 1 (.slice (some ⟨blk, 0, none⟩) n n) n (rowF n fun j => (j : Int))) (hlt : blk < w.heap.size) :
    Calls Tryd.prog 33 #[.slice (some ⟨blk, 0, none⟩) n n, .func (.func 34) #[] #[.pointer (some ⟨B, 0, none⟩)]] w fun e w' =>
      e = .returned (.tuple #[]) ∧ ∃ o, LOrd E o ∧ (blk < w'.heap.size ∧ ∀ j, j < n → w'.cell? ⟨blk, j, none⟩ = some (.int .i64 (o.getD j 0 : Nat))) ∧ RowKit.Below blk w w' := by
  haveI : Inhabited (Pln n) := ⟨⟨0, h0⟩⟩
  have eg : ∀ args w, (callFunc 34 args).run Tryd.prog w = .ok (.enter 34 args) w := enters_of Tryd.func34 (by kernel_rfl) rfl
  have hH : Holds (encN n) w blk 0 (allN n) := fun j hj => by
    rw [allN_size] at hj
    rw [Nat.zero_add, hown.cellAt j (by omega), rowF_get _ _ _ hj, hown.frozenAt j, encN, allN_at n j hj]
    exact ⟨rfl, rfl⟩
  have hcmp : CmpReads Tryd.prog 34 #[.pointer (some ⟨B, 0, none⟩)] (encN n) (cmpN E n) blk 0 (allN n).size w := fun m os dk _ x y =>
    blen_fn E n c g off B x.1 y.1 _ (((below_srt hlt).cell (p := ⟨B, 0, none⟩) hBb).trans hB) (fun j hj => ((below_srt hlt).cell (p := ⟨g, off + j, none⟩) hgb).trans (hc j hj)) h12 x.2 y.2
  have h := sortstable_few (encN n) (cmpN E n) (LnT E n) (lnT_tot E n) 34 #[.pointer (some ⟨B, 0, none⟩)] blk 0 n (allN n) w eg hcmp.lays ⟨fun _ => rfl, hH, hlt⟩ (by rw [allN_size]; omega)
    (fun x y hxy hy => by rw [allN_size] at hy; exact lnT_test E n (by rw [allN_at n x (by omega), allN_at n y hy]; exact hxy))
  rw [allN_size] at h
  refine h.mono ?_
  rintro e w' ⟨he, d', ⟨hF, hS⟩, hW⟩
  have hz : d'.size = n := by rw [hF.1, allN_size]
  rw [← hF.1] at hS
  have hHold := hW.holds hlt hH (by rw [hz, allN_size])
  obtain ⟨m, os, hw⟩ := hW
  refine ⟨he, _, ord_sorted hE d' hz hS, ⟨by rw [hw]; exact (SW.lt ⟨m, os, rfl⟩ hlt), fun j hj => ?_⟩, by rw [hw]; exact below_srt hlt⟩
  have hj' : j < d'.size := by omega
  have := (hHold j hj').1
  rw [Nat.zero_add] at this
  rw [this, getElem!_pos d' j hj']
  simp [encN, List.getD_eq_getElem?_getD, hj']
theorem fill_num (k j : Nat) : (if j < k + 1 then (j : Int) else 0) = if j = k then (k : Int) else if j < k then (j : Int) else 0 := by
  by_cases e : j = k
  · subst e; simp
  · by_cases h : j < k
    · rw [if_pos (by omega), if_neg e, if_pos h]
    · rw [if_neg (by omega), if_neg e, if_neg h]
theorem ord_nil {E : List Nat} (h : E.length = 0) : LOrd E [] := by
  rw [List.eq_nil_of_length_eq_zero h]
  exact ⟨List.Perm.refl _, List.Pairwise.nil⟩

set_option maxRecDepth 100000 in
set_option maxHeartbeats 800000 in
theorem blen_any (A : Option Addr) (n c : Nat) (E : List Nat) (w : World) (hl : IsInts w w.heap.size A n (nums E)) (hn : n ≤ 10) (hE : LenOk E) :
    Calls Tryd.prog 24 #[.slice A n c] w fun e w' => ∃ o, e = .returned (.slice (some ⟨w.heap.size + 1, 0, none⟩) n n) ∧ LOrd E o ∧ (w.heap.size + 1 < w'.heap.size ∧ ∀ j, j < n → w'.cell? ⟨w.heap.size + 1, j, none⟩ = some (.int .i64 (o.getD j 0 : Nat))) ∧ RowKit.Below w.heap.size w w' := by
  obtain ⟨i0, hi, hz0, hz1, hz2⟩ := info_parts int_info
  have hmf : ∀ (fn : Fn) (first cap : Array Value) (w : World), (Instr.makeFunc fn first cap).run Tryd.prog w = .ok (.func fn first cap) w := fun _ _ _ _ => rfl
  have HE := hid hE
  have HLn : Hid (E.length = n) := hid (by rw [← nums_len]; exact hl.1)
  have HI := hid hl
  clear hl hE
  go_enter Tryd.func24, Tryd.ntmps24
  go_wp2_with (at_make; refine wpList_make_full _ rfl _ _ 22 rfl (w.heap.size + 1) 3 i0 (.int .i64 0) 1 Tryd.underlying22 hi hz0 hz1 _ _ _ _ n rfl rfl rfl rfl (by rw [hz2]; omega) (by unfold maxLen; omega) (by simp) ?_)
  intro w1 hown hgrow
  rw [rowF_made] at hown
  have hb0 : RowKit.Below w.heap.size w (w.alloc (.cells #[.slice A n c] 22)) := (Below.refl _ _).alloc (Nat.le_refl _) _
  have hb1 : RowKit.Below (w.heap.size + 1) (w.alloc (.cells #[.slice A n c] 22)) w1 := (Below.refl _ _).grown hgrow (by simp) (by simp)
  have hc1 : w1.cell? ⟨w.heap.size, 0, none⟩ = some (.slice A n c) := (hb1.cell (p := ⟨w.heap.size, 0, none⟩) (by simp)).trans (by simp)
  have hbw : RowKit.Below w.heap.size w w1 := hb0.trans (hb1.mono (by omega))
  clear hgrow hi hz0 hz1 hz2 hb0 hb1
  go_wp2
  go_loopw [10] (fun i wr => ∃ k : Nat, k ≤ n ∧ i = .int .i64 k ∧ wr.ownsRow (w.heap.size + 1) 3 1 (.slice (some ⟨w.heap.size + 1, 0, none⟩) n n) n (rowF n fun j => if j < k then (j : Int) else 0) ∧ RowKit.Below (w.heap.size + 1) w1 wr) (fun i _ => n - (intOf i).toNat)
  case atStart => exact ⟨0, by omega, rfl, by rw [rowF_congr (g := fun _ => 0) (fun j _ => by simp)]; exact hown, Below.refl _ _⟩
  case round =>
    obtain ⟨k, hk, rfl, ho, hb⟩ := hrel
    by_cases hlt : k < n
    · have hcell : wr.cell? ⟨w.heap.size + 1, k, none⟩ = some (.int .i64 (if k < k then (k : Int) else 0)) := by rw [ho.cellAt k (by omega), rowF_get _ _ _ hlt]
      have hfr := ho.frozenAt k
      rw [if_neg (Nat.lt_irrefl _)] at hcell
      have HO := hid ho
      clear ho hown
      go_wp2
      have hst := HO.out.stored k (.int .i64 (k : Int))
      rw [rowF_set] at hst
      go_roundw
      case rel => exact ⟨k + 1, by omega, by go_num, by rw [rowF_congr (g := fun j => if j = k then (k : Int) else if j < k then (j : Int) else 0) (fun j _ => fill_num k j)]; exact hst.1, hb.setCell (by simp) _⟩
      case measure => simp [intOf]; omega
    · obtain rfl : k = n := by omega
      rw [rowF_congr (g := fun j => (j : Int)) (fun j hj => by simp [hj])] at ho
      have hsz := ho.lt _ rfl
      have hc2 : wr.cell? ⟨w.heap.size, 0, none⟩ = some (.slice A k c) := (hb.cell (p := ⟨w.heap.size, 0, none⟩) (by simp)).trans hc1
      have hbr : RowKit.Below w.heap.size w wr := hbw.trans (hb.mono (by omega))
      by_cases h0 : 0 < k
      · obtain ⟨g, off, rfl, hg, hcl⟩ := HI.out.2 h0
        have hcr : ∀ j, j < k → wr.cell? ⟨g, off + j, none⟩ = some (.int .i64 ((E.getD j 0 : Nat) : Int)) := fun j hj => by
          rw [← nums_at]
          exact (hbr.cell (p := ⟨g, off + j, none⟩) hg).trans (hcl j hj)
        have HS := hid (sort_lens E k c g off h0 HLn.out w.heap.size (w.heap.size + 1) wr hn hc2 (by omega) (by omega) hcr (fun j hj => (HE.out j (by rw [HLn.out]; exact hj)).2) ho hsz.2)
        clear ho hsz hown hb hbw hc1 hcr hcl
        go_wp2_with fail
        refine HS.out.mono ?_
        rintro e w2 ⟨rfl, o, hO, hI, hb2⟩
        have HO := hid hO
        have HI2 := hid hI
        clear hO hI
        go_wp2_with fail
        go_ret
        exact ⟨o, rfl, HO.out, HI2.out, hbr.trans (hb2.mono (by omega))⟩
      · have hz : k = 0 := by omega
        have HS := hid (sortstable_none (some ⟨w.heap.size + 1, 0, none⟩) 0 (.func (.func 34) #[] #[.pointer (some ⟨w.heap.size, 0, none⟩)]) wr)
        have HZ := hid hz
        subst hz
        rw [show (((0 : Nat) : Int)) = 0 from rfl]
        clear ho hown hb hbw hc1 h0 hlt hk
        go_wp2_with fail
        refine HS.out.mono ?_
        rintro e w2 ⟨rfl, hw2⟩
        subst w2
        go_wp2_with fail
        go_ret
        exact ⟨[], rfl, ord_nil HLn.out, ⟨hsz.2, fun j hj => by omega⟩, hbr⟩
end Go.Proofs.YtlfncplldppncaaDoor

/-
  The row of the type uint8: its zero, its cells, its bytes. No condition.
-/
namespace Go.Proofs.YtlfncplldppncaaDoor
theorem byteI : (Tryd.prog.info? 5).map (fun i => (i.zero, i.size, i.bytes)) = some (some (.int .u8 0), 1, 1) := by kernel_rfl
end Go.Proofs.YtlfncplldppncaaDoor

/-
  Contract of kraft.binary: so many bits of a number, as a text. Conditions: at most twelve bits, a number up to 4096.
-/
namespace Go.Proofs.YtlfncplldppncaaDoor
open Go.RowKit

/-- 'string(b)' of a row that fills its block. -/
theorem conv_all {w : World} {g n c : Nat} {r : List UInt8} (h : RowAt w g 5 r) (hn : r.length = n) : (convert 60 9 (.slice (some ⟨g, 0, none⟩) n c)).run Tryd.prog w = .ok (.string (txt r)) w := by
  subst hn
  exact run_convert_bytes_back (P := Tryd.prog) w 60 9 5 ⟨g, 0, none⟩ c r Tryd.underlying60 Tryd.underlying5 Tryd.underlying9 (fun j hj => by
    rw [show Addr.add ⟨g, 0, none⟩ j = ⟨g, j, none⟩ by by_cases h : j = 0 <;> simp [Addr.add, h], h.cell (by omega)]
    simp [hj])

theorem bit_of (k p : Nat) (h : k ≤ 4096) : bits BinOp.and IntKind.i64 ((k : Int) / 2 ^ p) 1 = ((k / 2 ^ p % 2 : Nat) : Int) := by
  have e : (k : Int) / 2 ^ p = ((k / 2 ^ p : Nat) : Int) := by rw [Int.natCast_ediv]; simp
  have h2 : k / 2 ^ p ≤ k := Nat.div_le_self _ _
  rw [e]
  exact and_one _ (by omega)

set_option maxHeartbeats 1000000 in
theorem binary_any (k d : Nat) (w : World) (hk : k ≤ 4096) (hd : d ≤ 12) :
    Calls Tryd.prog 25 #[.int .i64 (k : Int), .int .i64 (d : Int)] w fun e w' => e = .returned (.string (txt (bitsL d k))) ∧ Below w.heap.size w w' := by
  obtain ⟨i0, hi, hz0, hz1, hz2⟩ := info_parts byteI
  go_enter Tryd.func25, Tryd.ntmps25
  go_wp2_with (at_make; refine wpList_make_full _ rfl _ _ 60 rfl w.heap.size 5 i0 (.int .u8 0) 1 Tryd.underlying60 hi hz0 hz1 _ _ _ _ d rfl rfl rfl rfl (by rw [hz2]; omega) (by unfold maxLen; omega) (by simp) ?_)
  intro w2 hown hgrow
  have HM := hid (RowAt.made hown)
  have hb2 : Below w.heap.size w w2 := (Below.refl _ _).grown hgrow (by simp) (by simp)
  have hCl := BlkAt.lt HM.out
  clear hown hgrow hi hz0 hz1 hz2
  obtain ⟨C, hC⟩ : ∃ C, C = w.heap.size := ⟨_, rfl⟩
  have HC := hid (show w.heap.size ≤ C by omega)
  rw [← hC] at HM hCl
  rw [show (.slice (some ⟨w.heap.size, 0, none⟩) d d : Value) = .slice (some ⟨C, 0, none⟩) d d by rw [hC]]
  clear hC
  go_wp2_with fail
  go_loopw [12] (fun x wr => ∃ i : Nat, i ≤ d ∧ x = .int .i64 i ∧ Hid (RowAt wr C 5 (partL 0 (bitsL d k) d i)) ∧ Below w.heap.size w wr) (fun x _ => d - (intOf x).toNat)
  case atStart => exact ⟨0, by omega, rfl, hid (by rw [partL_zero]; exact HM.out), hb2⟩
  case round =>
    clear HM hb2 hCl
    obtain ⟨i, hin, rfl, HM, hb⟩ := hrel
    by_cases hlt : i < d
    · have cK := HM.out.cell (k := i) (by rw [partL_len]; exact hlt)
      have fK := BlkAt.frozen HM.out i
      generalize (partL 0 (bitsL d k) d i).getD i 0 = C0 at cK
      obtain ⟨p, hp⟩ : ∃ p, p = d - 1 - i := ⟨_, rfl⟩
      have hat := bits_at d k i hlt
      have hbit := bit_of k p hk
      rw [← hp] at hat
      have hset := partL_set 0 (bitsL d k) d i
      have i1 : (i : Int) < (d : Int) := by omega
      have p1 : IntKind.i64.wrap ((d : Int) - 1) = (d : Int) - 1 := IntWalk.i64_in _ (by omega)
      have p2 : IntKind.i64.wrap ((d : Int) - 1 - (i : Int)) = (p : Int) := by rw [IntWalk.i64_in _ (by omega)]; omega
      have p3 : (p : Int) ≤ 64 := by omega
      have hrow : ∀ c : UInt8, (bitsL d k).getD i 0 = c → RowAt (wr.setCell ⟨C, i, none⟩ (.int .u8 (c.toNat : Int))) C 5 (partL 0 (bitsL d k) d (i + 1)) ∧ Only C wr (wr.setCell ⟨C, i, none⟩ (.int .u8 (c.toNat : Int))) := fun c hc => by
        have h1 := RowAt.stored HM.out i c
        rw [← hc, hset] at h1
        rw [← hc]
        exact h1
      have HR := hid hrow
      have HP := hid hp
      clear hp hset hrow
      by_cases hb1 : k / 2 ^ p % 2 = 1
      · rw [if_pos hb1] at hat
        rw [hb1] at hbit
        have HS := hid (HR.out _ hat)
        clear hat HR hb1 HM
        go_wp2_with fail
        go_roundw
        case rel => exact ⟨i + 1, by omega, by go_num, hid HS.out.1, hb.trans (HS.out.2.below HC.out)⟩
        case measure => simp [intOf]; omega
      · rw [if_neg hb1] at hat
        have hb0 : k / 2 ^ p % 2 = 0 := by omega
        rw [hb0] at hbit
        have HS := hid (HR.out _ hat)
        clear hat HR hb1 hb0 HM
        go_wp2_with fail
        go_roundw
        case rel => exact ⟨i + 1, by omega, by go_num, hid HS.out.1, hb.trans (HS.out.2.below HC.out)⟩
        case measure => simp [intOf]; omega
    · obtain rfl : i = d := by omega
      have hm := HM.out
      rw [partL_all 0 (bitsL i k) i (bits_len i k)] at hm
      have hcv := fun c => conv_all (n := i) (c := c) hm (bits_len i k)
      clear HM hm
      go_wp2_with fail
      go_ret
      exact ⟨rfl, hb⟩
end Go.Proofs.YtlfncplldppncaaDoor

/-
  Plain facts: the codes of lengths as texts. No condition.
-/
namespace Go.Proofs.YtlfncplldppncaaDoor

/-- The codes as texts. -/
def codeT (l : List Nat) : List ByteArray := (codesL l).map txt
theorem codeT_len (E : List Nat) : (codeT E).length = E.length := by simp [codeT, codesL]
theorem codeT_at {E : List Nat} {i : Nat} (hi : i < E.length) : wat (codeT E) i = txt (codeL E i) := by
  have h1 : i < (codesL E).length := by rw [codesL_len]; exact hi
  have h2 := codesL_at hi
  rw [List.getD_eq_getElem?_getD, List.getElem?_eq_getElem h1, Option.getD_some] at h2
  unfold wat codeT
  rw [List.getD_eq_getElem?_getD, List.getElem?_map, List.getElem?_eq_getElem h1, Option.map_some, Option.getD_some, h2]
/-- The codes of the places in a list, the others empty still. -/
def crow (E l : List Nat) : List ByteArray := (List.range E.length).map fun j => if l.contains j then txt (codeL E j) else ByteArray.empty
theorem crow_len (E l : List Nat) : (crow E l).length = E.length := by simp [crow]
theorem crow_nil (E : List Nat) : crow E [] = List.replicate E.length ByteArray.empty := by
  apply List.ext_getElem?
  intro j
  by_cases hj : j < E.length <;> simp [crow, hj]
theorem crow_set (E l : List Nat) (i : Nat) : (crow E l).set i (txt (codeL E i)) = crow E (l ++ [i]) := by
  apply List.ext_getElem?
  intro j
  by_cases hj : j < E.length
  · by_cases e : i = j
    · subst e; simp [crow, hj]
    · have e2 : ¬ j = i := fun h => e h.symm
      simp [crow, hj, e, e2]
  · rw [List.getElem?_eq_none (by rw [List.length_set, crow_len]; omega), List.getElem?_eq_none (by rw [crow_len]; omega)]
theorem crow_all {E o : List Nat} (h : ∀ j, j < E.length → j ∈ o) : crow E o = codeT E := by
  unfold crow codeT codesL
  rw [List.map_map]
  refine List.map_congr_left fun j hj => ?_
  simp [h j (List.mem_range.1 hj)]
end Go.Proofs.YtlfncplldppncaaDoor

/-
  Contracts of kraft.Codes: the codes of lengths, or the error that comes first. Conditions: none.
-/
namespace Go.Proofs.YtlfncplldppncaaDoor
open Go.RowKit

theorem strI : (Tryd.prog.info? 9).map (fun i => (i.zero, i.size, i.bytes)) = some (some (.string ByteArray.empty), 1, 16) := by kernel_rfl
/-- The row of codes in block C, those of l there; the order of the places in block O. -/
structure CodS (w : World) (C O n : Nat) (E o l : List Nat) (W : World) : Prop where
  row : BlkAt W C 9 ((crow E l).map Value.string)
  ord : ∀ j, j < n → W.cell? ⟨O, j, none⟩ = some (.int .i64 ((o.getD j 0 : Nat) : Int))
  lt : O < W.heap.size
  bel : Below w.heap.size w W
theorem CodS.drewN {w W : World} {C O n : Nat} {E o l : List Nat} (h : CodS w C O n E o l W) (q : Nat) : CodS w C O n E o l (W.drewN q) := ⟨h.row, h.ord, h.lt, below_drewN h.bel q⟩
theorem CodS.below {w W W' : World} {C O n : Nat} {E o l : List Nat} (h : CodS w C O n E o l W) (hb : Below W.heap.size W W') : CodS w C O n E o l W' :=
  ⟨h.row.below hb (Nat.le_refl _), fun j hj => (hb.cell (p := ⟨O, j, none⟩) h.lt).trans (h.ord j hj), Nat.lt_of_lt_of_le h.lt hb.size, h.bel.trans (hb.mono h.bel.size)⟩
theorem CodS.set {w W : World} {C O n : Nat} {E o l : List Nat} (h : CodS w C O n E o l W) (hne : O ≠ C) (hC : w.heap.size ≤ C) (i : Nat) : CodS w C O n E o (l ++ [i]) (W.setCell ⟨C, i, none⟩ (.string (txt (codeL E i)))) := by
  have h1 := h.row.stored i (.string (txt (codeL E i)))
  rw [← List.map_set, crow_set] at h1
  exact ⟨h1.1, fun j hj => (h1.2.cell hne).trans (h.ord j hj), by rw [h1.2.size]; exact h.lt, h.bel.trans (h1.2.below hC)⟩

set_option maxRecDepth 100000 in
set_option maxHeartbeats 4000000 in
theorem kcodes_ok (A : Option Addr) (n c : Nat) (E : List Nat) (w : World) (hl : IsInts w w.heap.size A n (nums E)) (h10 : n ≤ 10) (hE : LenOk E) (hr : rm 12 E ≤ 4096) :
    Calls Tryd.prog 11 #[.slice A n c] w fun e w' => ∃ B cB, e = .returned (.tuple #[.slice B n cB, .nilIface]) ∧ IsStrs w' w'.heap.size B n (codeT E) ∧ Below w.heap.size w w' := by
  obtain ⟨i0, hi, hz0, hz1, hz2⟩ := info_parts strI
  have HR := hid (kroom_ok A n c E w hl h10 hE)
  have HLn : Hid (E.length = n) := hid (by rw [← nums_len]; exact hl.1)
  have HB := fun (W : World) (h : Below w.heap.size w W) => hid (blen_any A n c E W ((hl.below h).keep (w' := W) h.size fun _ _ _ => rfl) h10 hE)
  have HI := hid hl
  have HE := hid hE
  have HRm := hid hr
  clear hl hE
  have r1 : ¬ (4096 < ((rm 12 E : Nat) : Int)) := by omega
  generalize rm 12 E = R at HR r1
  clear hr
  go_enter Tryd.func11, Tryd.ntmps11
  go_wp2_with fail
  refine HR.out.mono ?_
  rintro e w1 ⟨rfl, hb1⟩
  clear HR
  go_wp2_with (at_make; refine wpList_make_full _ rfl _ _ 23 rfl w1.heap.size 9 i0 (.string ByteArray.empty) 1 Tryd.underlying23 hi hz0 hz1 _ _ _ _ n rfl rfl rfl rfl (by rw [hz2]; omega) (by unfold maxLen; omega) (Nat.le_refl _) ?_)
  intro w2 hown hgr
  have hb2 : Below w1.heap.size w1 w2 := (Below.refl _ _).grown hgr (Nat.le_refl _) (by intro k hk; cases hk)
  have hB : BlkAt w2 w1.heap.size 9 ((crow E []).map Value.string) := by
    rw [crow_nil, HLn.out, List.map_replicate]
    have h2 : w2.ownsRow w1.heap.size 9 1 (.slice (some ⟨w1.heap.size, 0, none⟩) n n) n (madeCells #[Value.string ByteArray.empty] n).toList := by simpa using hown
    rw [toList_madeCells_one] at h2
    exact BlkAt.of_own h2
  have HB2 := hid hB
  have hCw := hb1.size
  have hC2 := hB.lt
  have hbw := hb1.trans (hb2.mono hb1.size)
  have HL := HB w2 hbw
  clear hown hgr hB HB hi hz0 hz1 hz2 hb1 hb2
  generalize w1.heap.size = C at HB2 hCw hC2 ⊢
  go_wp2_with fail
  refine HL.out.mono ?_
  rintro e w3 ⟨o, rfl, hO, hI, hb3⟩
  have HO := hid hO
  have HOl := hid (ord_len hO)
  have hCS : CodS w C (w2.heap.size + 1) n E o (o.take 0) w3 := by
    rw [List.take_zero]
    exact ⟨HB2.out.below hb3 (Nat.le_refl _), hI.2, hI.1, hbw.trans (hb3.mono hbw.size)⟩
  have HCS := hid hCS
  have hOC : w2.heap.size + 1 ≠ C := by omega
  clear hO hI hb3 HB2 hbw HL hCS hC2
  generalize w2.heap.size + 1 = O at HCS hOC ⊢
  go_wp2_with fail
  go_loopw [7, 28] (fun v x wr => ∃ t : Nat, t ≤ n ∧ x = .int .i64 t ∧ v = .int .i64 (tkn E (o.take t) : Nat) ∧ Hid (CodS w C O n E o (o.take t) wr)) (fun _ x _ => n - (intOf x).toNat)
  case atStart => exact ⟨0, by omega, rfl, rfl, HCS⟩
  case round =>
    clear HCS
    obtain ⟨t, htn, rfl, rfl, HS⟩ := hrel
    by_cases hlt : t < n
    · have hto : t < o.length := by rw [HOl.out, HLn.out]; exact hlt
      have c1 := HS.out.ord t hlt
      have hi := ord_lt HO.out hto
      have hah := ord_ahd HO.out hto
      have hnx := ord_next (E := E) hto
      have htk : o.take (t + 1) = o.take t ++ [o.getD t 0] := by
        rw [List.take_succ_eq_append_getElem hto]
        simp [hto]
      rw [htk] at hnx
      have HNx := hid hnx
      have HTk := hid htk
      clear hnx htk
      obtain ⟨g, off, rfl, hg, hc⟩ := HI.out.2 (by omega)
      have hcl : ∀ W, CodS w C O n E o (o.take t) W → ∀ j, j < n → W.cell? ⟨g, off + j, none⟩ = some (.int .i64 ((E.getD j 0 : Nat) : Int)) := fun W hW j hj => by
        rw [← nums_at]
        exact (hW.bel.cell (p := ⟨g, off + j, none⟩) hg).trans (hc j hj)
      have hbT : tkn E (o.take t) ≤ 4096 := by
        rw [hah]
        exact Nat.le_trans (usd_all _ _ _) HRm.out
      have hcv : tkn E (o.take t) / 2 ^ (12 - E.getD (o.getD t 0) 0) = cvN E (o.getD t 0) := by rw [hah]; rfl
      have hlc := cvN_lt HE.out HRm.out hi
      have h12 := (HE.out _ hi).2
      have hin : o.getD t 0 < n := by rw [← HLn.out]; exact hi
      generalize o.getD t 0 = i at c1 hi hah hcv hlc h12 hin HNx HTk
      have c2 := hcl wr HS.out i hin
      have HSh := fun W => hid (share_any (E.getD i 0) W h12)
      have hY0 : 0 < 2 ^ (12 - E.getD i 0) := Nat.pow_pos (by decide)
      have hY1 : 2 ^ (12 - E.getD i 0) ≤ 4096 := pow_le (n := 12) (by omega)
      have hV : cvN E i ≤ 4096 := Nat.le_trans (Nat.le_of_lt hlc) (pow_le (n := 12) h12)
      have HX : Hid (wrap64 (((tkn E (o.take t) : Nat) : Int) / ((2 ^ (12 - E.getD i 0) : Nat) : Int)) = ((cvN E i : Nat) : Int)) := hid (by
        rw [← Int.natCast_ediv, hcv]
        rw [← IntWalk.i64_left, IntWalk.i64_in _ (by omega)])
      have HBn := fun W (hW : CodS w C O n E o (o.take t) W) => hid (show Calls Tryd.prog 25 #[.int .i64 (wrap64 (((tkn E (o.take t) : Nat) : Int) / ((2 ^ (12 - E.getD i 0) : Nat) : Int))), .int .i64 ((E.getD i 0 : Nat) : Int)] W (fun e w' => e = .returned (.string (txt (codeL E i))) ∧ CodS w C O n E o (o.take t) w') by
        rw [HX.out]
        exact (binary_any (cvN E i) (E.getD i 0) W hV h12).mono fun e w' ⟨h1, h2⟩ => ⟨h1, hW.below h2⟩)
      have HSt : Hid (∀ W, CodS w C O n E o (o.take t) W → (∃ x, W.cell? ⟨C, i, none⟩ = some x) ∧ W.frozen? ⟨C, i, none⟩ = false ∧ CodS w C O n E o (o.take (t + 1)) (W.setCell ⟨C, i, none⟩ (.string (txt (codeL E i))))) := hid (fun W hW => by
        rw [HTk.out]
        exact ⟨⟨_, hW.row.cell (k := i) (v := .string ((crow E (o.take t)).getD i ByteArray.empty)) (by rw [List.getElem?_map, List.getD_eq_getElem?_getD, List.getElem?_eq_getElem (by rw [crow_len]; exact hi)]; rfl)⟩, hW.row.frozen i, hW.set hOC hCw i⟩)
      obtain ⟨x, cL⟩ := (HSt.out wr HS.out).1
      have fL := (HSt.out wr HS.out).2.1
      have HNs : Hid (tkn E (o.take (t + 1)) = tkn E (o.take t) + 2 ^ (12 - E.getD i 0)) := hid (by rw [HTk.out]; exact HNx.out)
      generalize 2 ^ (12 - E.getD i 0) = Y at HSh hY0 hY1 HBn HNs HX
      generalize E.getD i 0 = D at c2 HSh HBn h12
      generalize tkn E (o.take t) = T at hbT HBn HNs HX ⊢
      generalize txt (codeL E i) = X at HBn HSt
      have y1 : ¬ ((Y : Int) = 0) := by omega
      have i1 : (i : Int) < (n : Int) := by omega
      clear hah hcv hlc hV hi hto hc hcl HNx HTk HX
      go_wp2_with fail
      refine (HSh _).out.mono ?_
      rintro e w5 ⟨rfl, hw5⟩
      subst w5
      clear HSh
      go_wp2_with fail
      go_region_with (go_at_call 25; refine (HBn _ (by first | exact HS.out | exact HS.out.drewN 1)).out.mono ?_; rintro e w6 ⟨rfl, hS6⟩; have HS6 := hid hS6; clear hS6; obtain ⟨⟨x6, cL6⟩, fL6, _⟩ := HSt.out w6 HS6.out)
      all_goals (
        go_wp2_with fail
        go_roundw
        case rel => exact ⟨t + 1, by omega, by go_num, by rw [HNs.out]; push_cast; rfl, hid (by first | exact (HSt.out _ HS6.out).2.2 | exact (HSt.out _ (HS6.out.drewN 1)).2.2)⟩
        case measure => simp [intOf]; omega)
    · obtain rfl : t = n := by omega
      have hS := HS.out
      rw [List.take_of_length_le (by rw [HOl.out, HLn.out]; exact Nat.le_refl _)] at hS ⊢
      have hIs : IsStrs wr wr.heap.size (some ⟨C, 0, none⟩) t (codeT E) := by
        have h1 := hS.row
        rw [crow_all (fun j hj => HO.out.1.mem_iff.2 (List.mem_range.2 hj))] at h1
        refine ⟨by rw [codeT_len, HLn.out], fun _ => ⟨C, 0, rfl, h1.lt, fun j hj => ?_⟩⟩
        rw [Nat.zero_add]
        refine h1.cell ?_
        rw [List.getElem?_map, wat_get (by rw [codeT_len, HLn.out]; exact hj)]
        rfl
      have HIs := hid hIs
      have hbe := hS.bel
      generalize tkn E o = T
      clear hS HS hIs
      go_wp2_with fail
      go_ret2
      exact ⟨_, _, rfl, HIs.out, hbe⟩

theorem kcodes_clash (A : Option Addr) (n c : Nat) (E : List Nat) (w : World) (hl : IsInts w w.heap.size A n (nums E)) (h10 : n ≤ 10) (hE : LenOk E) (hr : 4096 < rm 12 E) :
    Calls Tryd.prog 11 #[.slice A n c] w fun e w' => e = .returned (.tuple #[.slice none 0 0, .iface 44 (.int .i64 6)]) ∧ Below w.heap.size w w' := by
  have HR := hid (kroom_ok A n c E w hl h10 hE)
  have r1 : 4096 < ((rm 12 E : Nat) : Int) := by omega
  generalize rm 12 E = R at HR r1
  clear hl hE hr
  go_enter Tryd.func11, Tryd.ntmps11
  go_wp2_with fail
  refine HR.out.mono ?_
  rintro e w1 ⟨rfl, hb1⟩
  clear HR
  go_wp2_with fail
  go_ret2
  exact ⟨rfl, hb1⟩
theorem kcodes_bad (A : Option Addr) (n c : Nat) (ys : List Int) (k : Int) (w : World) (hl : IsInts w w.heap.size A n ys) (hk : LenC ys k) (hk0 : k ≠ 0) :
    Calls Tryd.prog 11 #[.slice A n c] w fun e w' => e = .returned (.tuple #[.slice none 0 0, .iface 44 (.int .i64 k)]) ∧ Below w.heap.size w w' := by
  have HR := hid (kroom_bad A n c ys k w hl hk hk0)
  clear hl hk hk0
  go_enter Tryd.func11, Tryd.ntmps11
  go_wp2_with fail
  refine HR.out.mono ?_
  rintro e w1 ⟨rfl, hb1⟩
  clear HR
  go_wp2_with fail
  go_ret2
  exact ⟨rfl, hb1⟩
end Go.Proofs.YtlfncplldppncaaDoor

/-
  Look-ups in maps of the call's own whose elements are bools or pointers, with the answer known ahead. No condition.
-/
namespace Go.Proofs.YtlfncplldppncaaDoor
open Go.RowKit Go.Maps

/-- The key of a sign. -/
def keyL (c : UInt8) : Lit := .int .u8 (c.toNat : Int)
theorem keyL_wf (c : UInt8) : (keyL c).wf = true := WalkArith.wf_u8 (by have := c.toNat_lt; omega)
theorem keyL_ne {c d : UInt8} (h : c ≠ d) : keyL c ≠ keyL d := by
  intro e
  apply h
  simp [keyL] at e
  exact UInt8.toNat_inj.1 (by omega)
theorem keyL_key (c : UInt8) : WideAt.IsKeyLit (keyL c) := trivial

/-- How a pointer to a whole block reads here: by the block's number. -/
def ptrE : Value → Option (DataW Unit × List MemPlace)
  | .pointer none => some (.lit (.int .i64 (-1)), [])
  | .pointer (some ⟨b, 0, none⟩) => some (.lit (.int .i64 (b : Int)), [])
  | _ => none
theorem ptrE_mk (b : Nat) : ptrE (.pointer (some ⟨b, 0, none⟩)) = some (.lit (.int .i64 (b : Int)), []) := rfl
theorem ptrE_nil : ptrE (.pointer none) = some (.lit (.int .i64 (-1)), []) := rfl
theorem ptrE_inv {v : Value} {b : Nat} {ps : List MemPlace} (h : ptrE v = some (.lit (.int .i64 (b : Int)), ps)) : v = .pointer (some ⟨b, 0, none⟩) := by
  unfold ptrE at h
  split at h
  · simp at h
  · simp at h; obtain ⟨h, _⟩ := h; obtain rfl := Int.ofNat_inj.1 h; rfl
  · cases h
theorem ptrE_inv_nil {v : Value} {ps : List MemPlace} (h : ptrE v = some (.lit (.int .i64 (-1)), ps)) : v = .pointer none := by
  unfold ptrE at h
  split at h
  · rfl
  · simp at h
  · cases h
theorem ptrE_shape {v : Value} {y : DataW Unit × List MemPlace} (h : ptrE v = some y) : ∃ p, v = .pointer p := by
  unfold ptrE at h
  split at h
  · exact ⟨_, rfl⟩
  · exact ⟨_, rfl⟩
  · cases h

theorem plainElem_bool_inv {H : Type} {P : Program} {e : TypeId} (he : P.underlying e = some .bool) {v : Value} {z : DataW H × List MemPlace} (h : plainElem P e v = some z) : ∃ x, v = .bool x ∧ z = (.lit (.bool x), []) := by
  unfold plainElem at h
  rw [he] at h
  cases v <;> simp at h
  exact ⟨_, rfl, h.symm⟩

section
variable {P : Program} {ops : Array Oper} {rest : List Oper} {o : Oper} {a : Act} {Q : Exit → Act → World → Prop}
/-- 'm[k]' in a map of bools. -/
theorem wpList_lookup_bool {H : Type} (w : World) (hg : o.guard = none) (m x : Operand) (t : TypeId) (hop : o.op = Op.lookup t m x false)
    (k e : TypeId) (K : Keyed P k) (ht : P.underlying t = some (.map k e)) (he : P.underlying e = some .bool) (hz : (zeroValue e).run P w = .ok (.bool false) w) (b n : Nat) (D : DataW H)
    (hm : a.eval m = .map (some b)) (hown : w.ownsMap P k (plainElem P e) b n D) (key : Value) (kl : Lit) (hx : a.eval x = key) (hkey : keyOf P k key = some kl)
    (c : Bool) (hat : D.atKey kl (.lit (.bool false)) = .lit (.bool c)) (hK : wpList P ops Q rest (a.put o.dst (.bool c)) w) :
    wpList P ops Q (o :: rest) a w := by
  refine wpList_plain hg fun K' hK' => ?_
  obtain ⟨v, ps, hrun, hv⟩ := hown.lookup K ht hz (plainElem_bool he false) hkey
  rw [hat] at hv
  obtain ⟨x', rfl, e'⟩ := plainElem_bool_inv he hv
  obtain rfl : c = x' := by simpa using congrArg Prod.fst e'
  unfold Oper.wp
  simp [execOp, hop, hm, hx, hrun, Result.andThen]
  exact hK' _ _ hK
/-- 'm[k]' in a map of pointers, where there is one. -/
theorem wpList_lookup_ptr (w : World) (hg : o.guard = none) (m x : Operand) (t : TypeId) (hop : o.op = Op.lookup t m x false)
    (k e : TypeId) (K : Keyed P k) (ht : P.underlying t = some (.map k e)) (hz : (zeroValue e).run P w = .ok (.pointer none) w) (b n : Nat) (D : DataW Unit)
    (hm : a.eval m = .map (some b)) (hown : w.ownsMap P k ptrE b n D) (key : Value) (kl : Lit) (hx : a.eval x = key) (hkey : keyOf P k key = some kl)
    (c : Nat) (hat : ∀ z, D.atKey kl z = .lit (.int .i64 (c : Int))) (hK : wpList P ops Q rest (a.put o.dst (.pointer (some ⟨c, 0, none⟩))) w) :
    wpList P ops Q (o :: rest) a w := by
  refine wpList_plain hg fun K' hK' => ?_
  obtain ⟨v, ps, hrun, hv⟩ := hown.lookup K ht hz ptrE_nil hkey
  rw [hat] at hv
  obtain rfl := ptrE_inv hv
  unfold Oper.wp
  simp [execOp, hop, hm, hx, hrun, Result.andThen]
  exact hK' _ _ hK
end
/-- 'v, ok := m[k]' as an equation: there is one. -/
theorem look_ptr_yes {P : Program} {w : World} {t k e : TypeId} {b n : Nat} {D : DataW Unit} (hown : w.ownsMap P k ptrE b n D) (K : Keyed P k) (ht : P.underlying t = some (.map k e)) (hz : (zeroValue e).run P w = .ok (.pointer none) w)
    {key : Value} {kl : Lit} (hkey : keyOf P k key = some kl) {c : Nat} (hat : ∀ z, D.atKey kl z = .lit (.int .i64 (c : Int))) (hh : Maps.has D kl = true) :
    (Instr.lookup t (.map (some b)) key true).run P w = .ok (.tuple #[.pointer (some ⟨c, 0, none⟩), .bool true]) w := by
  obtain ⟨v, ps, hrun, hv⟩ := hown.look_ok K ht hz ptrE_nil hkey
  rw [hat] at hv
  obtain rfl := ptrE_inv hv
  rw [hrun, hh]
/-- .. there is none. -/theorem look_ptr_none {P : Program} {w : World} {t k e : TypeId} {b n : Nat} {D : DataW Unit} (hown : w.ownsMap P k ptrE b n D) (K : Keyed P k) (ht : P.underlying t = some (.map k e)) (hz : (zeroValue e).run P w = .ok (.pointer none) w)
    {key : Value} {kl : Lit} (hkey : keyOf P k key = some kl) (hh : Maps.has D kl = false) :
    (Instr.lookup t (.map (some b)) key true).run P w = .ok (.tuple #[.pointer none, .bool false]) w := by
  obtain ⟨v, ps, hrun, hv⟩ := hown.look_ok K ht hz ptrE_nil hkey
  rw [atKey_of_not_has hh] at hv
  obtain rfl := ptrE_inv_nil hv
  rw [hrun, hh]
end Go.Proofs.YtlfncplldppncaaDoor

/-
  Contract of trie.Check: nil where the words are as they should be, else the error of the first fault. Conditions: the sizes that a row itself sets.
-/
namespace Go.Proofs.YtlfncplldppncaaDoor
open Go.RowKit Go.Maps

/-- The key of a text. -/
def keyS (s : ByteArray) : Lit := .string (bs s)
theorem keyS_key (s : ByteArray) : WideAt.IsKeyLit (keyS s) := trivial
theorem keyS_ne {s t : ByteArray} (h : s ≠ t) : keyS s ≠ keyS t := fun e => h (bs_inj (by simpa [keyS] using e))
/-- The map D tells of every text whether it is among the first k words. -/
def SeenD (D : DataW Unit) (ws : List ByteArray) (k : Nat) : Prop :=
  IsMap D ∧ ∀ s : ByteArray, ((∃ m, m < k ∧ wat ws m = s) → D.atKey (keyS s) (.lit (.bool false)) = .lit (.bool true)) ∧ ((∀ m, m < k → wat ws m ≠ s) → D.atKey (keyS s) (.lit (.bool false)) = .lit (.bool false))
theorem seenD_start (ws : List ByteArray) : SeenD (.map []) ws 0 := ⟨isMap_empty, fun _ => ⟨fun ⟨_, h, _⟩ => by omega, fun _ => rfl⟩⟩
theorem seenD_step {D : DataW Unit} {ws : List ByteArray} {k : Nat} (h : SeenD D ws k) : SeenD (D.put (keyS (wat ws k)) (.lit (.bool true))) ws (k + 1) := by
  refine ⟨h.1.put _ _, fun s => ?_⟩
  by_cases e : wat ws k = s
  · subst e
    refine ⟨fun _ => atKey_put_same h.1 (keyS_key _) _ _, fun hn => absurd rfl (hn k (by omega))⟩
  · rw [atKey_put_other (keyS_ne (Ne.symm e))]
    refine ⟨fun ⟨m, hm, he⟩ => (h.2 s).1 ⟨m, ?_, he⟩, fun hn => (h.2 s).2 fun m hm => hn m (by omega)⟩
    rcases Nat.lt_or_ge m k with h' | h'
    · exact h'
    · obtain rfl : m = k := by omega
      exact absurd he e

theorem str_keyed : Keyed Tryd.prog 9 := string_keyed Tryd.underlying9
theorem zero_bool (w : World) : (zeroValue 4).run Tryd.prog w = .ok (.bool false) w := by kernel_rfl
theorem key_str {s : ByteArray} (h : s.size ≤ maxLen) : keyOf Tryd.prog 9 (.string s) = some (keyS s) := Go.WideMaps.keyOf_string_mk Tryd.underlying9 h
theorem empty_yes {s : ByteArray} (h : s.size = 0) : s.toList.isEmpty = true := by
  have : s.toList.length = s.size := by rw [ByteArray.toList_eq, Array.length_toList]; rfl
  rw [h] at this
  simp [List.length_eq_zero_iff.1 this]
theorem empty_not {s : ByteArray} (h : 0 < s.size) : s.toList.isEmpty = false := by
  have : s.toList.length = s.size := by rw [ByteArray.toList_eq, Array.length_toList]; rfl
  cases e : s.toList with
  | nil => rw [e] at this; simp at this; omega
  | cons => rfl

set_option maxRecDepth 100000 in
set_option maxHeartbeats 1000000 in
theorem tcheck_any (A : Option Addr) (n c : Nat) (ws : List ByteArray) (w : World) (hn : n ≤ maxLen) (hs : ∀ i, i < n → (wat ws i).size ≤ maxLen) (h : IsStrs w w.heap.size A n ws) :
    Calls Tryd.prog 26 #[.slice A n c] w fun e w' =>
      ((e = .returned .nilIface ∧ Fine ws) ∨ ∃ k, e = .returned (.iface 44 (.int .i64 k)) ∧ Bad ws k) ∧ Below w.heap.size w w' := by
  unfold maxLen at hn
  have hl : ws.length = n := h.1
  by_cases h6 : 6 < n
  · go_enter Tryd.func26, Tryd.ntmps26
    go_wp2
    go_ret
    exact ⟨.inr ⟨4, rfl, .inl ⟨rfl, by omega⟩⟩, Below.refl _ _⟩
  · have hmm := @run_makeMap Tryd.prog
    have H := hid h
    have HS := hid hs
    have HL := hid hl
    clear h hs hl
    go_enter Tryd.func26, Tryd.ntmps26
    go_wp2
    go_loopw [13] (fun x wr => ∃ (k : Nat) (D : DataW Unit), k ≤ n ∧ x = .int .i64 k ∧ Hid (FineTo ws k) ∧ wr.ownsMap Tryd.prog 9 (plainElem Tryd.prog 4) w.heap.size k D ∧ Hid (SeenD D ws k) ∧ Below w.heap.size w wr) (fun x _ => n - (intOf x).toNat)
    case atStart => exact ⟨0, _, by omega, rfl, hid (fun j hj => by omega), World.ownsMap_made _ _ _ _, hid (seenD_start ws), (Below.refl _ _).alloc (Nat.le_refl _) _⟩
    case round =>
      obtain ⟨k, D, hk, rfl, HF, hm, HD, hb⟩ := hrel
      by_cases hlt : k < n
      · obtain ⟨g, off, rfl, hg, hc⟩ := H.out.2 (by omega)
        have hx : wr.cell? ⟨g, off + k, none⟩ = some (.string (wat ws k)) := (hb.cell hg).trans (hc k hlt)
        have hsz := HS.out k hlt
        have hbad : ∀ q, BadAt ws k q → Bad ws q := fun q hq => .inr ⟨by have := HL.out; omega, k, by have := HL.out; omega, HF.out, hq⟩
        have HB := hid hbad
        clear hc hbad
        by_cases h8 : 8 < (wat ws k).size
        · have HR := hid (HB.out 4 (.inl ⟨rfl, h8⟩))
          clear HB
          generalize wat ws k = s at hx hsz h8
          unfold maxLen at hsz
          go_wp2
          go_ret
          exact ⟨.inr ⟨4, rfl, HR.out⟩, hb⟩
        · by_cases h0 : (wat ws k).size = 0
          · have HR := hid (HB.out 5 (.inr (.inl ⟨rfl, h0⟩)))
            clear HB
            generalize wat ws k = s at hx hsz h0 h8
            have he := empty_yes h0
            have h1 : s.size ≤ 8 := by omega
            clear h0
            go_wp2
            go_ret
            exact ⟨.inr ⟨5, rfl, HR.out⟩, hb⟩
          · have he := empty_not (s := wat ws k) (by omega)
            have h1 : (wat ws k).size ≤ 8 := by omega
            have hkey := key_str hsz
            by_cases h3 : ∃ m, m < k ∧ wat ws m = wat ws k
            · have HR := hid (HB.out 6 (.inr (.inr ⟨rfl, h1, by omega, h3⟩)))
              have hat := (HD.out.2 (wat ws k)).1 h3
              clear HB h3 HD h0 h8
              generalize wat ws k = s at hx hsz h1 he hkey hat
              go_wp2_with (at_lookup; refine wpList_lookup_bool _ rfl _ _ 51 rfl 9 4 str_keyed Tryd.underlying51 Tryd.underlying4 (zero_bool _) w.heap.size k D rfl hm _ _ rfl hkey true hat ?_)
              go_wp2
              go_ret
              exact ⟨.inr ⟨6, rfl, HR.out⟩, hb⟩
            · have h3' : ∀ m, m < k → wat ws m ≠ wat ws k := fun m hm e => h3 ⟨m, hm, e⟩
              have HR := hid (fineTo_succ HF.out h1 (by omega) h3')
              have hat := (HD.out.2 (wat ws k)).2 h3'
              have HN := hid (seenD_step HD.out)
              clear HB h3 h3' HD h0 h8 HF
              generalize wat ws k = s at hx hsz h1 he hkey hat HN
              go_wp2_with (first
                | (at_lookup; refine wpList_lookup_bool _ rfl _ _ 51 rfl 9 4 str_keyed Tryd.underlying51 Tryd.underlying4 (zero_bool _) w.heap.size k D rfl hm _ _ rfl hkey false hat ?_)
                | (at_mapUpdate; refine wpList_mapUpdate_own _ rfl _ _ _ 51 rfl 9 4 str_keyed Tryd.underlying51 _ w.heap.size k _ rfl hm (by unfold maxLen; omega) _ _ _ rfl rfl hkey _ [] (plainElem_bool Tryd.underlying4 true) ?_; intro w1 hown1 hgrow1)
                | go_in)
              go_roundw
              case rel => exact ⟨k + 1, _, by omega, by go_num, HR, hown1, HN, hb.grown hgrow1 hb.size (fun j hj => by cases hj; exact Nat.le_refl _)⟩
              case measure => simp [intOf]; omega
      · have HR := hid (show Fine ws from ⟨by have := HL.out; omega, by rw [show ws.length = k by have := HL.out; omega]; exact HF.out⟩)
        clear HF HD
        go_wp2
        go_ret
        exact ⟨.inl ⟨rfl, HR.out⟩, hb⟩
theorem tcheck_ok (A : Option Addr) (n c : Nat) (ws : List ByteArray) (w : World) (hf : Fine ws) (h : IsStrs w w.heap.size A n ws) :
    Calls Tryd.prog 26 #[.slice A n c] w fun e w' => e = .returned .nilIface ∧ Below w.heap.size w w' :=
  (tcheck_any A n c ws w (by have := h.1; have := hf.1; unfold maxLen; omega) (fun i hi => by have := hf.2 i (by have := h.1; omega); unfold maxLen; omega) h).mono fun e w' ⟨he, hb⟩ =>
    ⟨he.elim (fun h => h.1) fun ⟨_, _, h⟩ => (bad_fine h hf).elim, hb⟩
theorem tcheck_bad (A : Option Addr) (n c : Nat) (ws : List ByteArray) (k : Int) (w : World) (hn : n ≤ maxLen) (hs : ∀ i, i < n → (wat ws i).size ≤ maxLen) (hk : Bad ws k) (h : IsStrs w w.heap.size A n ws) :
    Calls Tryd.prog 26 #[.slice A n c] w fun e w' => e = .returned (.iface 44 (.int .i64 k)) ∧ Below w.heap.size w w' :=
  (tcheck_any A n c ws w hn hs h).mono fun e w' ⟨he, hb⟩ =>
    ⟨he.elim (fun h => (bad_fine hk h.2).elim) fun ⟨q, he, h⟩ => by rw [he, bad_one h hk], hb⟩
end Go.Proofs.YtlfncplldppncaaDoor

/-
  Contract of strings.HasPrefix: whether a text begins with another one. Conditions: texts of at most 2^40 bytes.
-/
namespace Go.Proofs.YtlfncplldppncaaDoor
open Go.RowKit

/-- Does s begin with t? -/
def preB (s t : ByteArray) : Bool := decide (t.size ≤ s.size ∧ s.extract 0 t.size = t)
set_option maxHeartbeats 400000 in
theorem plite_any (s t : ByteArray) (w : World) (_hs : s.size ≤ 1099511627776) (ht : t.size ≤ 1099511627776) :
    Calls Tryd.prog 41 #[.string s, .string t] w fun e w' => e = .returned (.bool (preB s t)) ∧ w' = w := by
  by_cases h : t.size ≤ s.size
  · have hcut : ∀ W : World, Sem.run Tryd.prog (Instr.slice 9 (.string s) none (some (.int .i64 (t.size : Int))) none) W = .ok (.string (s.extract 0 t.size)) W := fun W =>
      run_slice_string_h W 9 s Tryd.underlying9 .i64 (t.size : Int) (by omega) (by omega)
    have hd : decide (t.size ≤ s.size) = true := by simpa using h
    by_cases e : s.extract 0 t.size = t
    · have HR : Hid (preB s t = true) := hid (decide_eq_true ⟨h, e⟩)
      have hq := same_yes e
      clear e
      generalize s.extract 0 t.size = s1 at hcut hq
      go_enter Tryd.func41, Tryd.ntmps41
      go_wp2
      go_ret
      exact ⟨ret_bool HR.out.symm, rfl⟩
    · have HR : Hid (preB s t = false) := hid (decide_eq_false fun h' => e h'.2)
      have hq := same_no e
      clear e
      generalize s.extract 0 t.size = s1 at hcut hq
      go_enter Tryd.func41, Tryd.ntmps41
      go_wp2
      go_ret
      exact ⟨ret_bool HR.out.symm, rfl⟩
  · have HR : Hid (preB s t = false) := hid (decide_eq_false fun h' => h h'.1)
    have hd : decide (t.size ≤ s.size) = false := by simpa using h
    go_enter Tryd.func41, Tryd.ntmps41
    go_wp2
    go_ret
    exact ⟨ret_bool HR.out.symm, rfl⟩
theorem prefix_any (s t : ByteArray) (w : World) (hs : s.size ≤ 1099511627776) (ht : t.size ≤ 1099511627776) :
    Calls Tryd.prog 35 #[.string s, .string t] w fun e w' => e = .returned (.bool (preB s t)) ∧ w' = w := by
  have HC := hid (plite_any s t w hs ht)
  go_enter Tryd.func35, Tryd.ntmps35
  go_wp2_with fail
  refine HC.out.mono ?_
  rintro e w1 ⟨rfl, hw⟩
  subst w1
  go_wp2_with fail
  go_ret
  exact ⟨rfl, rfl⟩
end Go.Proofs.YtlfncplldppncaaDoor

/-
  Plain facts on a slice of texts that is the call's own: how it reads, and 'out = append(out, t)'. No condition.
-/
namespace Go.Proofs.YtlfncplldppncaaDoor
open Go.RowKit

/-- A slice value that is the call's own (nil, or a row from block 'base' on) and holds the texts ws. Shut for the walk. -/
def OwnS (w : World) (base : Nat) (e : TypeId) (v : Value) (ws : List ByteArray) : Prop := w.ownsRow base e 1 v ws.length (ws.map Value.string)
theorem OwnS.mk_ {w : World} {base : Nat} {e : TypeId} {v : Value} {ws : List ByteArray} (h : w.ownsRow base e 1 v ws.length (ws.map Value.string)) : OwnS w base e v ws := h
theorem OwnS.nil (w : World) (base : Nat) (e : TypeId) : OwnS w base e (.slice none 0 0) [] := World.ownsRow_nil _ _ _ _
theorem OwnS.drewN {w : World} {base : Nat} {e : TypeId} {v : Value} {ws : List ByteArray} (h : OwnS w base e v ws) (q : Nat) : OwnS (w.drewN q) base e v ws := h
theorem OwnS.read {w : World} {base : Nat} {e : TypeId} {v : Value} {ws : List ByteArray} (h : OwnS w base e v ws) :
    ∃ A c, v = .slice A ws.length c ∧ ∀ j, j < ws.length → ∃ g, A = some ⟨g, 0, none⟩ ∧ w.cell? ⟨g, j, none⟩ = some (.string (ws.getD j ByteArray.empty)) := by
  unfold OwnS at h
  generalize hn : ws.length = n at h ⊢
  have hl : ws.length = n := by have := h.1; simpa using this
  rcases h.2 with ⟨rfl, rfl⟩ | ⟨g, cap, cur, rfl, hg, hh, hnc, hcm, hcs, htk⟩
  · exact ⟨none, 0, rfl, fun j hj => absurd hj (by omega)⟩
  · refine ⟨_, _, rfl, fun j hj => ⟨g, rfl, ?_⟩⟩
    rw [h.cellAt j (by omega)]
    simp [show j < ws.length by omega]

/-- 'out = append(out, t)', out nil or the call's own: one text more, and nothing below 'base' has turned. -/
theorem wpList_append_str {P : Program} (wr : World) {ops : Array Oper} {rest : List Oper} {o : Oper} {a : Act} {Q : Exit → Act → World → Prop} (hgd : o.guard = none) (s x : Operand) (t : TypeId)
    (ho : o.op = .call { callee := .builtin .append, args := #[s, x], argTypes := #[t, t] }) (base : Nat) (e : TypeId) (i : TypeInfo)
    (ht : P.underlying t = some (.slice e)) (hi : P.info? e = some i) (hz : i.zero = some (.string ByteArray.empty)) (hsize : i.size = 1) (hby : i.bytes = 16)
    (v : Value) (cs : List ByteArray) (hs : a.eval s = v) (hown : OwnS wr base e v cs) (k : ByteArray) (hx : a.eval x = .slice (some ⟨wr.heap.size, 0, none⟩) 1 1)
    (hlen : cs.length ≤ 1099511627776) (hbase : base ≤ wr.heap.size)
    (h : ∀ v' w', OwnS w' base e v' (cs ++ [k]) → Below base wr w' → wpList P ops Q rest (a.put o.dst v') w') :
    wpList P ops Q (o :: rest) a (wr.alloc (.cells #[.string k] e)) := by
  refine wpList_append_own _ hgd s x t ho base e i (.string ByteArray.empty) 1 16 ht hi hz hsize hby rfl (by decide) v _ _ hs (World.ownsRow.alloc hown _) ⟨wr.heap.size, 0, none⟩ 1 1 [.string k] hx rfl ?_ ?_ ?_ ?_ ?_ ?_
  · intro j u hj
    match j, hj with
    | 0, hj => simp at hj; subst hj; simp [Addr.add]
  · intro u hu; simp at hu; subst hu; rfl
  · unfold maxLen; omega
  · omega
  · simp; omega
  · intro v' w' ho hg _
    refine h v' w' (OwnS.mk_ (by simpa using ho)) (((Below.refl base wr).alloc hbase _).grown hg (by simp; omega) fun b hb => ?_)
    exact (World.ownsRow.lt hown b hb).1
end Go.Proofs.YtlfncplldppncaaDoor

/-
  A slice of texts that is the call's own reads as its list. No condition.
-/
namespace Go.Proofs.YtlfncplldppncaaDoor
open Go.RowKit

theorem OwnS.strs {w : World} {base : Nat} {e : TypeId} {v : Value} {ws : List ByteArray} (h : OwnS w base e v ws) : ∃ A c, v = .slice A ws.length c ∧ IsStrs w w.heap.size A ws.length ws := by
  have hlt := fun b => World.ownsRow.lt h b
  obtain ⟨A, c, rfl, hr⟩ := h.read
  refine ⟨A, c, rfl, rfl, fun h0 => ?_⟩
  obtain ⟨g, rfl, _⟩ := hr 0 h0
  refine ⟨g, 0, rfl, (hlt g rfl).2, fun j hj => ?_⟩
  obtain ⟨g', e, hc⟩ := hr j hj
  injection e with e
  injection e with e1
  subst e1
  rw [Nat.zero_add]
  exact hc
end Go.Proofs.YtlfncplldppncaaDoor
