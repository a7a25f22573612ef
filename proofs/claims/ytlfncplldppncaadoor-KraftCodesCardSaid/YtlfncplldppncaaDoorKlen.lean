/-
  Contract of kraft.byLength: the places of lengths, the shorter ones first, of equal ones the earlier one first, in new memory. Conditions: at most ten lengths, from 1 to 12.
-/
import Derived.Test.YtlfncplldppncaaDoorStL
import Derived.Test.YtlfncplldppncaaDoorKord
import Derived.Test.YtlfncplldppncaaDoorBase
import Derived.Test.YtlfncplldppncaaDoorHmem
import Derived.Test.YtlfncplldppncaaDoorStrs
import Derived.Deep.OwnRows
namespace Go.Proofs.YtlfncplldppncaaDoor
open Go.RowKit Go.Shelf Go.Sort

theorem blen_fn (E : List Nat) (n c g off B a b : Nat) (w : World) (hB : w.cell? ⟨B, 0, none⟩ = some (.slice (some ⟨g, off, none⟩) n c)) (hc : ∀ j, j < n → w.cell? ⟨g, off + j, none⟩ = some (.int .i64 ((E.getD j 0 : Nat) : Int)))
    (hE : ∀ j, j < n → E.getD j 0 ≤ 12) (ha : a < n) (hb : b < n) :
    Calls Tryd.prog 34 #[.int .i64 a, .int .i64 b, .pointer (some ⟨B, 0, none⟩)] w fun e w' => e = .returned (.int .i64 (((E.getD a 0 : Nat) : Int) - (E.getD b 0 : Nat))) ∧ ∃ q, w' = w.drewN q := by
  have ca := hc a ha
  have cb := hc b hb
  have ea := hE a ha
  have eb := hE b hb
  clear hc hE
  generalize E.getD a 0 = X at ca ea ⊢
  generalize E.getD b 0 = Y at cb eb ⊢
  have a1 : (a : Int) < (n : Int) := by omega
  have b1 : (b : Int) < (n : Int) := by omega
  have s1 : IntKind.i64.wrap ((X : Int) - (Y : Int)) = (X : Int) - (Y : Int) := IntWalk.i64_in _ (by omega)
  go_enter Tryd.func34, Tryd.ntmps34
  go_wp2_with fail
  go_quiet (fail)
  go_wp2_with fail
  go_ret
  exact ⟨rfl, _, rfl⟩

/-! ### The places of lengths, and their order -/
abbrev Pln (n : Nat) := { i : Nat // i < n }
def encN (n : Nat) (x : Pln n) : Value := .int .i64 (x.1 : Int)
def cmpN (E : List Nat) (n : Nat) (x y : Pln n) : Int := ((E.getD x.1 0 : Nat) : Int) - (E.getD y.1 0 : Nat)
/-- By the length, then by the place. -/
def LnT (E : List Nat) (n : Nat) (x y : Pln n) : Prop := E.getD x.1 0 < E.getD y.1 0 ∨ (E.getD x.1 0 = E.getD y.1 0 ∧ x.1 < y.1)
theorem lnT_tot (E : List Nat) (n : Nat) : Tot (LnT E n) where
  trans := by
    rintro x y z (h | ⟨h, h'⟩) (k | ⟨k, k'⟩)
    · exact .inl (by omega)
    · exact .inl (by omega)
    · exact .inl (by omega)
    · exact .inr ⟨by omega, by omega⟩
  irr := by
    rintro x (h | ⟨_, h⟩) <;> omega
theorem cmpN_lt (E : List Nat) (n : Nat) (x y : Pln n) : ltOf (cmpN E n) x y = true ↔ E.getD x.1 0 < E.getD y.1 0 := by
  unfold ltOf cmpN
  rw [decide_eq_true_eq]
  omega
theorem lnT_test (E : List Nat) (n : Nat) {x y : Pln n} (h : x.1 < y.1) : (ltOf (cmpN E n) y x = true → LnT E n y x) ∧ (ltOf (cmpN E n) y x = false → LnT E n x y) := by
  refine ⟨fun k => .inl ((cmpN_lt E n y x).1 k), fun k => ?_⟩
  have hn : ¬ E.getD y.1 0 < E.getD x.1 0 := fun c => by rw [(cmpN_lt E n y x).2 c] at k; cases k
  by_cases e : E.getD x.1 0 < E.getD y.1 0
  · exact .inl e
  · exact .inr ⟨by omega, h⟩
/-- All places, rising. -/
def allN (n : Nat) : Array (Pln n) := Array.ofFn fun i : Fin n => ⟨i.1, i.2⟩
theorem allN_size (n : Nat) : (allN n).size = n := by simp [allN]
theorem allN_at (n : Nat) [Inhabited (Pln n)] (j : Nat) (h : j < n) : ((allN n)[j]!).1 = j := by
  rw [getElem!_pos (allN n) j (by rw [allN_size]; exact h)]
  simp [allN]
/-- What the stable sort of the places gives. -/
theorem ord_sorted {E : List Nat} {n : Nat} (hE : E.length = n) [Inhabited (Pln n)] (d : Array (Pln n)) (hz : d.size = n) (hs : Srt (LnT E n) d 0 d.size) : LOrd E (d.toList.map (·.1)) := by
  have hpw : (d.toList.map (·.1)).Pairwise fun a b => E.getD a 0 < E.getD b 0 ∨ (E.getD a 0 = E.getD b 0 ∧ a < b) := by
    rw [List.pairwise_iff_getElem]
    intro i j hi hj hij
    simp only [List.length_map, Array.length_toList] at hi hj
    have h2 := hs i j (Nat.zero_le _) hij hj
    rw [getElem!_pos d i hi, getElem!_pos d j hj] at h2
    simp only [List.getElem_map, Array.getElem_toList]
    exact h2
  have hnd : (d.toList.map (·.1)).Nodup := hpw.imp fun {a b} h e => by
    subst e
    omega
  have hmem : ∀ i ∈ d.toList.map (·.1), i < n := fun i hi => by
    obtain ⟨x, _, rfl⟩ := List.mem_map.1 hi
    exact x.2
  refine ⟨?_, hpw⟩
  rw [hE]
  refine (List.perm_ext_iff_of_nodup hnd List.nodup_range).2 fun i => ⟨fun h => List.mem_range.2 (hmem i h), fun h => ?_⟩
  exact nodup_full (by simp [hz]) hmem hnd i (List.mem_range.1 h)

/-- A world that the sort passes through leaves what lies elsewhere alone. -/
theorem below_srt {α : Type} [Inhabited α] {enc : α → Value} {blk off n : Nat} {w : World} {d : Array α} {os : Array Obj} (hblk : blk < w.heap.size) : RowKit.Below blk w (sortWorld enc w blk off n d os) := by
  unfold sortWorld
  refine ⟨rfl, rfl, rfl, ?_, fun k hk => ?_⟩
  · rw [size_grow]; unfold putRow mapBlock; simp
  · rw [heap_grow_old _ _ (by unfold putRow mapBlock; simp; omega)]
    unfold putRow mapBlock
    rw [Array.getElem?_modify]
    simp [show blk ≠ k by omega]
/-- slices.SortStableFunc over all places, by the lengths there. -/
theorem sort_lens (E : List Nat) (n c g off : Nat) (h0 : 0 < n) (hE : E.length = n) (B blk : Nat) (w : World) (hn : n ≤ 10) (hB : w.cell? ⟨B, 0, none⟩ = some (.slice (some ⟨g, off, none⟩) n c)) (hBb : B < blk) (hgb : g < blk)
    (hc : ∀ j, j < n → w.cell? ⟨g, off + j, none⟩ = some (.int .i64 ((E.getD j 0 : Nat) : Int))) (h12 : ∀ j, j < n → E.getD j 0 ≤ 12)
    (hown : w.ownsRow blk 3 1 (.slice (some ⟨blk, 0, none⟩) n n) n (rowF n fun j => (j : Int))) (hlt : blk < w.heap.size) :
    Calls Tryd.prog 33 #[.slice (some ⟨blk, 0, none⟩) n n, .func (.func 34) #[] #[.pointer (some ⟨B, 0, none⟩)]] w fun e w' =>
      e = .returned (.tuple #[]) ∧ ∃ o, LOrd E o ∧ (blk < w'.heap.size ∧ ∀ j, j < n → w'.cell? ⟨blk, j, none⟩ = some (.int .i64 (o.getD j 0 : Nat))) ∧ RowKit.Below blk w w' := by
  haveI : Inhabited (Pln n) := ⟨⟨0, h0⟩⟩
  have eg : ∀ args w, (callFunc 34 args).run Tryd.prog w = .ok (.enter 34 args) w := enters_of Tryd.func34 (by kernel_rfl) rfl
  have hH : Holds (encN n) w blk 0 (allN n) := fun j hj => by
    rw [allN_size] at hj
    rw [Nat.zero_add, hown.cellAt j (by omega), rowF_get _ _ _ hj, hown.frozenAt j, encN, allN_at n j hj]
    exact ⟨rfl, rfl⟩
  have hcmp : CmpReads Tryd.prog 34 #[.pointer (some ⟨B, 0, none⟩)] (encN n) (cmpN E n) blk 0 (allN n).size w := fun m os dk _ x y =>
    blen_fn E n c g off B x.1 y.1 _ (((below_srt hlt).cell (p := ⟨B, 0, none⟩) hBb).trans hB) (fun j hj => ((below_srt hlt).cell (p := ⟨g, off + j, none⟩) hgb).trans (hc j hj)) h12 x.2 y.2
  have h := sortstable_few (encN n) (cmpN E n) (LnT E n) (lnT_tot E n) 34 #[.pointer (some ⟨B, 0, none⟩)] blk 0 n (allN n) w eg hcmp.lays ⟨fun _ => rfl, hH, hlt⟩ (by rw [allN_size]; omega)
    (fun x y hxy hy => by rw [allN_size] at hy; exact lnT_test E n (by rw [allN_at n x (by omega), allN_at n y hy]; exact hxy))
  rw [allN_size] at h
  refine h.mono ?_
  rintro e w' ⟨he, d', ⟨hF, hS⟩, hW⟩
  have hz : d'.size = n := by rw [hF.1, allN_size]
  rw [← hF.1] at hS
  have hHold := hW.holds hlt hH (by rw [hz, allN_size])
  obtain ⟨m, os, hw⟩ := hW
  refine ⟨he, _, ord_sorted hE d' hz hS, ⟨by rw [hw]; exact (SW.lt ⟨m, os, rfl⟩ hlt), fun j hj => ?_⟩, by rw [hw]; exact below_srt hlt⟩
  have hj' : j < d'.size := by omega
  have := (hHold j hj').1
  rw [Nat.zero_add] at this
  rw [this, getElem!_pos d' j hj']
  simp [encN, List.getD_eq_getElem?_getD, hj']
theorem fill_num (k j : Nat) : (if j < k + 1 then (j : Int) else 0) = if j = k then (k : Int) else if j < k then (j : Int) else 0 := by
  by_cases e : j = k
  · subst e; simp
  · by_cases h : j < k
    · rw [if_pos (by omega), if_neg e, if_pos h]
    · rw [if_neg (by omega), if_neg e, if_neg h]
theorem ord_nil {E : List Nat} (h : E.length = 0) : LOrd E [] := by
  rw [List.eq_nil_of_length_eq_zero h]
  exact ⟨List.Perm.refl _, List.Pairwise.nil⟩

set_option maxRecDepth 100000 in
set_option maxHeartbeats 800000 in
theorem blen_any (A : Option Addr) (n c : Nat) (E : List Nat) (w : World) (hl : IsInts w w.heap.size A n (nums E)) (hn : n ≤ 10) (hE : LenOk E) :
    Calls Tryd.prog 24 #[.slice A n c] w fun e w' => ∃ o, e = .returned (.slice (some ⟨w.heap.size + 1, 0, none⟩) n n) ∧ LOrd E o ∧ (w.heap.size + 1 < w'.heap.size ∧ ∀ j, j < n → w'.cell? ⟨w.heap.size + 1, j, none⟩ = some (.int .i64 (o.getD j 0 : Nat))) ∧ RowKit.Below w.heap.size w w' := by
  obtain ⟨i0, hi, hz0, hz1, hz2⟩ := info_parts int_info
  have hmf : ∀ (fn : Fn) (first cap : Array Value) (w : World), (Instr.makeFunc fn first cap).run Tryd.prog w = .ok (.func fn first cap) w := fun _ _ _ _ => rfl
  have HE := hid hE
  have HLn : Hid (E.length = n) := hid (by rw [← nums_len]; exact hl.1)
  have HI := hid hl
  clear hl hE
  go_enter Tryd.func24, Tryd.ntmps24
  go_wp2_with (at_make; refine wpList_make_full _ rfl _ _ 22 rfl (w.heap.size + 1) 3 i0 (.int .i64 0) 1 Tryd.underlying22 hi hz0 hz1 _ _ _ _ n rfl rfl rfl rfl (by rw [hz2]; omega) (by unfold maxLen; omega) (by simp) ?_)
  intro w1 hown hgrow
  rw [rowF_made] at hown
  have hb0 : RowKit.Below w.heap.size w (w.alloc (.cells #[.slice A n c] 22)) := (Below.refl _ _).alloc (Nat.le_refl _) _
  have hb1 : RowKit.Below (w.heap.size + 1) (w.alloc (.cells #[.slice A n c] 22)) w1 := (Below.refl _ _).grown hgrow (by simp) (by simp)
  have hc1 : w1.cell? ⟨w.heap.size, 0, none⟩ = some (.slice A n c) := (hb1.cell (p := ⟨w.heap.size, 0, none⟩) (by simp)).trans (by simp)
  have hbw : RowKit.Below w.heap.size w w1 := hb0.trans (hb1.mono (by omega))
  clear hgrow hi hz0 hz1 hz2 hb0 hb1
  go_wp2
  go_loopw [10] (fun i wr => ∃ k : Nat, k ≤ n ∧ i = .int .i64 k ∧ wr.ownsRow (w.heap.size + 1) 3 1 (.slice (some ⟨w.heap.size + 1, 0, none⟩) n n) n (rowF n fun j => if j < k then (j : Int) else 0) ∧ RowKit.Below (w.heap.size + 1) w1 wr) (fun i _ => n - (intOf i).toNat)
  case atStart => exact ⟨0, by omega, rfl, by rw [rowF_congr (g := fun _ => 0) (fun j _ => by simp)]; exact hown, Below.refl _ _⟩
  case round =>
    obtain ⟨k, hk, rfl, ho, hb⟩ := hrel
    by_cases hlt : k < n
    · have hcell : wr.cell? ⟨w.heap.size + 1, k, none⟩ = some (.int .i64 (if k < k then (k : Int) else 0)) := by rw [ho.cellAt k (by omega), rowF_get _ _ _ hlt]
      have hfr := ho.frozenAt k
      rw [if_neg (Nat.lt_irrefl _)] at hcell
      have HO := hid ho
      clear ho hown
      go_wp2
      have hst := HO.out.stored k (.int .i64 (k : Int))
      rw [rowF_set] at hst
      go_roundw
      case rel => exact ⟨k + 1, by omega, by go_num, by rw [rowF_congr (g := fun j => if j = k then (k : Int) else if j < k then (j : Int) else 0) (fun j _ => fill_num k j)]; exact hst.1, hb.setCell (by simp) _⟩
      case measure => simp [intOf]; omega
    · obtain rfl : k = n := by omega
      rw [rowF_congr (g := fun j => (j : Int)) (fun j hj => by simp [hj])] at ho
      have hsz := ho.lt _ rfl
      have hc2 : wr.cell? ⟨w.heap.size, 0, none⟩ = some (.slice A k c) := (hb.cell (p := ⟨w.heap.size, 0, none⟩) (by simp)).trans hc1
      have hbr : RowKit.Below w.heap.size w wr := hbw.trans (hb.mono (by omega))
      by_cases h0 : 0 < k
      · obtain ⟨g, off, rfl, hg, hcl⟩ := HI.out.2 h0
        have hcr : ∀ j, j < k → wr.cell? ⟨g, off + j, none⟩ = some (.int .i64 ((E.getD j 0 : Nat) : Int)) := fun j hj => by
          rw [← nums_at]
          exact (hbr.cell (p := ⟨g, off + j, none⟩) hg).trans (hcl j hj)
        have HS := hid (sort_lens E k c g off h0 HLn.out w.heap.size (w.heap.size + 1) wr hn hc2 (by omega) (by omega) hcr (fun j hj => (HE.out j (by rw [HLn.out]; exact hj)).2) ho hsz.2)
        clear ho hsz hown hb hbw hc1 hcr hcl
        go_wp2_with fail
        refine HS.out.mono ?_
        rintro e w2 ⟨rfl, o, hO, hI, hb2⟩
        have HO := hid hO
        have HI2 := hid hI
        clear hO hI
        go_wp2_with fail
        go_ret
        exact ⟨o, rfl, HO.out, HI2.out, hbr.trans (hb2.mono (by omega))⟩
      · have hz : k = 0 := by omega
        have HS := hid (sortstable_none (some ⟨w.heap.size + 1, 0, none⟩) 0 (.func (.func 34) #[] #[.pointer (some ⟨w.heap.size, 0, none⟩)]) wr)
        have HZ := hid hz
        subst hz
        rw [show (((0 : Nat) : Int)) = 0 from rfl]
        clear ho hown hb hbw hc1 h0 hlt hk
        go_wp2_with fail
        refine HS.out.mono ?_
        rintro e w2 ⟨rfl, hw2⟩
        subst w2
        go_wp2_with fail
        go_ret
        exact ⟨[], rfl, ord_nil HLn.out, ⟨hsz.2, fun j hj => by omega⟩, hbr⟩
end Go.Proofs.YtlfncplldppncaaDoor
