/-
  Contract of wheel.laters: the places of a text in the order of their signs, of equal signs the first one first, in new memory; the old memory stays as it was. Conditions: at most 24 signs.
-/
import Derived.Test.YtceipfmdgpnagaaStF
import Derived.Test.YtceipfmdgpnagaaWsp
import Derived.Test.YtceipfmdgpnagaaBase
import Derived.Deep.OwnRows
namespace Go.Proofs.Ytceipfmdgpnagaa
open Go.RowKit Go.Shelf Go.Sort

/-! ### cmp.Compare at signs -/
def cmpU (x y : UInt8) : Int := if x < y then -1 else if y < x then 1 else 0
theorem bnan_any (x : UInt8) (w : World) : Calls Try.prog 42 #[.int .u8 (x.toNat : Int)] w fun e w' => e = .returned (.bool false) ∧ w' = w := by
  go_enter Try.func42, Try.ntmps42
  go_wp2
  go_ret
  exact ⟨by simp, rfl⟩
theorem bcmp_any (x y : UInt8) (w : World) : Calls Try.prog 35 #[.int .u8 (x.toNat : Int), .int .u8 (y.toNat : Int)] w fun e w' => e = .returned (.int .i64 (cmpU x y)) ∧ w' = w := by
  have H := fun z w => hid (bnan_any z w)
  have h3 : ((x.toNat : Int) < (y.toNat : Int) ∧ cmpU x y = -1) ∨ (¬ (x.toNat : Int) < (y.toNat : Int) ∧ (y.toNat : Int) < (x.toNat : Int) ∧ cmpU x y = 1) ∨ (¬ (x.toNat : Int) < (y.toNat : Int) ∧ ¬ (y.toNat : Int) < (x.toNat : Int) ∧ cmpU x y = 0) := by
    unfold cmpU
    have e1 := UInt8.lt_iff_toNat_lt (a := x) (b := y)
    have e2 := UInt8.lt_iff_toNat_lt (a := y) (b := x)
    by_cases h1 : x < y
    · left; rw [if_pos h1]; exact ⟨by have := e1.1 h1; omega, rfl⟩
    · by_cases h2 : y < x
      · right; left; rw [if_neg h1, if_pos h2]; exact ⟨fun c => h1 (e1.2 (by omega)), by have := e2.1 h2; omega, rfl⟩
      · right; right; rw [if_neg h1, if_neg h2]; exact ⟨fun c => h1 (e1.2 (by omega)), fun c => h2 (e2.2 (by omega)), rfl⟩
  rcases h3 with ⟨h1, h2⟩ | ⟨h1, h2, h4⟩ | ⟨h1, h2, h4⟩
  · rw [h2]
    clear h2
    go_enter Try.func35, Try.ntmps35
    go_wp2_with fail
    refine (H _ _).out.mono ?_
    rintro e w' ⟨rfl, hw'⟩
    subst w'
    go_wp2_with fail
    refine (H _ _).out.mono ?_
    rintro e w' ⟨rfl, hw'⟩
    subst w'
    go_wp2_with fail
    go_ret
    exact ⟨rfl, rfl⟩
  · rw [h4]
    clear h4
    go_enter Try.func35, Try.ntmps35
    go_wp2_with fail
    refine (H _ _).out.mono ?_
    rintro e w' ⟨rfl, hw'⟩
    subst w'
    go_wp2_with fail
    refine (H _ _).out.mono ?_
    rintro e w' ⟨rfl, hw'⟩
    subst w'
    go_wp2_with fail
    go_ret
    exact ⟨rfl, rfl⟩
  · rw [h4]
    clear h4
    go_enter Try.func35, Try.ntmps35
    go_wp2_with fail
    refine (H _ _).out.mono ?_
    rintro e w' ⟨rfl, hw'⟩
    subst w'
    go_wp2_with fail
    refine (H _ _).out.mono ?_
    rintro e w' ⟨rfl, hw'⟩
    subst w'
    go_wp2_with fail
    go_ret
    exact ⟨rfl, rfl⟩
theorem later_fn (s : ByteArray) (B a b : Nat) (w : World) (hB : w.cell? ⟨B, 0, none⟩ = some (.string s)) (ha : a < s.size) (hb : b < s.size) :
    Calls Try.prog 34 #[.int .i64 a, .int .i64 b, .pointer (some ⟨B, 0, none⟩)] w fun e w' => e = .returned (.int .i64 (cmpU (sg s a) (sg s b))) ∧ ∃ q, w' = w.drewN q := by
  have H := fun W => hid (bcmp_any (sg s a) (sg s b) W)
  rw [sg_eq s a ha, sg_eq s b hb] at H ⊢
  generalize hk : cmpU s[a] s[b] = k at H ⊢
  clear hk
  go_enter Try.func34, Try.ntmps34
  go_wp2_with fail
  go_quiet ((go_at_call 35; exact Calls.quiet_of_same (H _).out))
  go_wp2_with fail
  go_ret
  exact ⟨rfl, _, rfl⟩

/-! ### The places of a text, and their order -/
abbrev Pl1 (s : ByteArray) := { i : Nat // i < s.size }
def encL (s : ByteArray) (x : Pl1 s) : Value := .int .i64 (x.1 : Int)
def cmpL (s : ByteArray) (x y : Pl1 s) : Int := cmpU (sg s x.1) (sg s y.1)
/-- By the sign, then by the place. -/
def StT (s : ByteArray) (x y : Pl1 s) : Prop := sg s x.1 < sg s y.1 ∨ (sg s x.1 = sg s y.1 ∧ x.1 < y.1)
theorem u8_irr (a : UInt8) : ¬ a < a := by rw [UInt8.lt_iff_toNat_lt]; omega
theorem u8_tr {a b c : UInt8} (h : a < b) (k : b < c) : a < c := by rw [UInt8.lt_iff_toNat_lt] at *; omega
theorem stT_tot (s : ByteArray) : Tot (StT s) where
  trans := by
    rintro x y z (h | ⟨h, h'⟩) (k | ⟨k, k'⟩)
    · exact .inl (u8_tr h k)
    · exact .inl (k ▸ h)
    · exact .inl (h ▸ k)
    · exact .inr ⟨h.trans k, by omega⟩
  irr := by
    rintro x (h | ⟨_, h⟩)
    · exact u8_irr _ h
    · omega
theorem cmpL_lt (s : ByteArray) (x y : Pl1 s) : ltOf (cmpL s) x y = true ↔ sg s x.1 < sg s y.1 := by
  unfold ltOf cmpL cmpU
  rw [decide_eq_true_eq]
  by_cases h : sg s x.1 < sg s y.1
  · simp [h]
  · rw [if_neg h]
    by_cases h' : sg s y.1 < sg s x.1
    · rw [if_pos h']; simp [h]
    · rw [if_neg h']; simp [h]
theorem stT_test (s : ByteArray) {x y : Pl1 s} (h : x.1 < y.1) : (ltOf (cmpL s) y x = true → StT s y x) ∧ (ltOf (cmpL s) y x = false → StT s x y) := by
  refine ⟨fun k => .inl ((cmpL_lt s y x).1 k), fun k => ?_⟩
  have hn : ¬ sg s y.1 < sg s x.1 := fun c => by rw [(cmpL_lt s y x).2 c] at k; cases k
  by_cases e : sg s x.1 < sg s y.1
  · exact .inl e
  · refine .inr ⟨?_, h⟩
    rw [UInt8.lt_iff_toNat_lt] at hn e
    exact UInt8.toNat_inj.1 (by omega)
/-- All places, rising. -/
def allW (s : ByteArray) : Array (Pl1 s) := Array.ofFn fun i : Fin s.size => ⟨i.1, i.2⟩
theorem allW_size (s : ByteArray) : (allW s).size = s.size := by simp [allW]
theorem allW_at (s : ByteArray) [Inhabited (Pl1 s)] (j : Nat) (h : j < s.size) : ((allW s)[j]!).1 = j := by
  rw [getElem!_pos (allW s) j (by rw [allW_size]; exact h)]
  simp [allW]
/-- What the stable sort of the places gives. -/
theorem stb_sorted (s : ByteArray) [Inhabited (Pl1 s)] (d : Array (Pl1 s)) (hz : d.size = s.size) (hs : Srt (StT s) d 0 d.size) : Stb (bs s) (d.toList.map (·.1)) := by
  have hpw : (d.toList.map (·.1)).Pairwise fun a b => (bs s).getD a 0 < (bs s).getD b 0 ∨ ((bs s).getD a 0 = (bs s).getD b 0 ∧ a < b) := by
    rw [List.pairwise_iff_getElem]
    intro i j hi hj hij
    simp only [List.length_map, Array.length_toList] at hi hj
    have h2 := hs i j (Nat.zero_le _) hij hj
    rw [getElem!_pos d i hi, getElem!_pos d j hj] at h2
    simp only [List.getElem_map, Array.getElem_toList]
    rw [bs_sg, bs_sg]
    exact h2
  have hnd : (d.toList.map (·.1)).Nodup := hpw.imp fun {a b} h e => by
    subst e
    rcases h with h | ⟨_, h⟩
    · exact u8_irr _ h
    · omega
  have hmem : ∀ i ∈ d.toList.map (·.1), i < s.size := fun i hi => by
    obtain ⟨x, _, rfl⟩ := List.mem_map.1 hi
    exact x.2
  refine ⟨?_, hpw⟩
  rw [bs_len]
  refine (List.perm_ext_iff_of_nodup hnd List.nodup_range).2 fun i => ⟨fun h => List.mem_range.2 (hmem i h), fun h => ?_⟩
  exact nodup_full (by simp [hz]) hmem hnd i (List.mem_range.1 h)

/-- A world that the sort passes through leaves what lies elsewhere alone. -/
theorem below_sl {s : ByteArray} [Inhabited (Pl1 s)] {blk off n : Nat} {w : World} {d : Array (Pl1 s)} {os : Array Obj} (hblk : blk < w.heap.size) : RowKit.Below blk w (sortWorld (encL s) w blk off n d os) := by
  unfold sortWorld
  refine ⟨rfl, rfl, rfl, ?_, fun k hk => ?_⟩
  · rw [size_grow]; unfold putRow mapBlock; simp
  · rw [heap_grow_old _ _ (by unfold putRow mapBlock; simp; omega)]
    unfold putRow mapBlock
    rw [Array.getElem?_modify]
    simp [show blk ≠ k by omega]
/-- slices.SortStableFunc over all places of a text, by the signs there. -/
theorem sort_signs (s : ByteArray) (h0 : 0 < s.size) (B blk : Nat) (w : World) (hs : s.size ≤ 24) (hB : w.cell? ⟨B, 0, none⟩ = some (.string s)) (hBb : B < blk)
    (hown : w.ownsRow blk 3 1 (.slice (some ⟨blk, 0, none⟩) s.size s.size) s.size (rowF s.size fun j => (j : Int))) (hlt : blk < w.heap.size) :
    Calls Try.prog 33 #[.slice (some ⟨blk, 0, none⟩) s.size s.size, .func (.func 34) #[] #[.pointer (some ⟨B, 0, none⟩)]] w fun e w' =>
      e = .returned (.tuple #[]) ∧ ∃ o, Stb (bs s) o ∧ (blk < w'.heap.size ∧ ∀ j, j < s.size → w'.cell? ⟨blk, j, none⟩ = some (.int .i64 (o.getD j 0 : Nat))) ∧ RowKit.Below blk w w' := by
  haveI : Inhabited (Pl1 s) := ⟨⟨0, h0⟩⟩
  have eg : ∀ args w, (callFunc 34 args).run Try.prog w = .ok (.enter 34 args) w := enters_of Try.func34 (by kernel_rfl) rfl
  have hH : Holds (encL s) w blk 0 (allW s) := fun j hj => by
    rw [allW_size] at hj
    rw [Nat.zero_add, hown.cellAt j (by omega), rowF_get _ _ _ hj, hown.frozenAt j, encL, allW_at s j hj]
    exact ⟨rfl, rfl⟩
  have hcmp : CmpReads Try.prog 34 #[.pointer (some ⟨B, 0, none⟩)] (encL s) (cmpL s) blk 0 (allW s).size w := fun m os dk _ x y =>
    later_fn s B x.1 y.1 _ (((below_sl hlt).cell (p := ⟨B, 0, none⟩) hBb).trans hB) x.2 y.2
  have h := sortstable_any (encL s) (cmpL s) (StT s) (stT_tot s) 34 #[.pointer (some ⟨B, 0, none⟩)] blk 0 s.size (allW s) w eg hcmp.lays ⟨fun _ => rfl, hH, hlt⟩ (by rw [allW_size]; exact hs)
    (fun x y hxy hy => by rw [allW_size] at hy; exact stT_test s (by rw [allW_at s x (by omega), allW_at s y hy]; exact hxy))
  rw [allW_size] at h
  refine h.mono ?_
  rintro e w' ⟨he, d', ⟨hF, hS⟩, hW⟩
  have hz : d'.size = s.size := by rw [hF.1, allW_size]
  rw [← hF.1] at hS
  have hHold := hW.holds hlt hH (by rw [hz, allW_size])
  obtain ⟨n, os, hw⟩ := hW
  refine ⟨he, _, stb_sorted s d' hz hS, ⟨by rw [hw]; exact (SW.lt ⟨n, os, rfl⟩ hlt), fun j hj => ?_⟩, by rw [hw]; exact below_sl hlt⟩
  have hj' : j < d'.size := by omega
  have := (hHold j hj').1
  rw [Nat.zero_add] at this
  rw [this, getElem!_pos d' j hj']
  simp [encL, List.getD_eq_getElem?_getD, hj']
theorem fill_one (k j : Nat) : (if j < k + 1 then (j : Int) else 0) = if j = k then (k : Int) else if j < k then (j : Int) else 0 := by
  by_cases e : j = k
  · subst e; simp
  · by_cases h : j < k
    · rw [if_pos (by omega), if_neg e, if_pos h]
    · rw [if_neg (by omega), if_neg e, if_neg h]
theorem stb_nil {s : ByteArray} (h : s.size = 0) : Stb (bs s) [] := by rw [bs_zero h]; exact ⟨List.Perm.refl _, List.Pairwise.nil⟩

set_option maxRecDepth 100000 in
set_option maxHeartbeats 800000 in
theorem laters_any (s : ByteArray) (w : World) (h : s.size ≤ 24) :
    Calls Try.prog 23 #[.string s] w fun e w' => ∃ o, e = .returned (.slice (some ⟨w.heap.size + 1, 0, none⟩) s.size s.size) ∧ Stb (bs s) o ∧ (w.heap.size + 1 < w'.heap.size ∧ ∀ j, j < s.size → w'.cell? ⟨w.heap.size + 1, j, none⟩ = some (.int .i64 (o.getD j 0 : Nat))) ∧ RowKit.Below w.heap.size w w' := by
  obtain ⟨i0, hi, hz0, hz1, hz2⟩ := info_parts int_info
  have hmf : ∀ (fn : Fn) (first cap : Array Value) (w : World), (Instr.makeFunc fn first cap).run Try.prog w = .ok (.func fn first cap) w := fun _ _ _ _ => rfl
  go_enter Try.func23, Try.ntmps23
  go_wp2_with (at_make; refine wpList_make_full _ rfl _ _ 22 rfl (w.heap.size + 1) 3 i0 (.int .i64 0) 1 Try.underlying22 hi hz0 hz1 _ _ _ _ s.size rfl rfl rfl rfl (by rw [hz2]; omega) (by unfold maxLen; omega) (by simp) ?_)
  intro w1 hown hgrow
  rw [rowF_made] at hown
  have hb0 : RowKit.Below w.heap.size w (w.alloc (.cells #[.string s] 9)) := (Below.refl _ _).alloc (Nat.le_refl _) _
  have hb1 : RowKit.Below (w.heap.size + 1) (w.alloc (.cells #[.string s] 9)) w1 := (Below.refl _ _).grown hgrow (by simp) (by simp)
  have hc1 : w1.cell? ⟨w.heap.size, 0, none⟩ = some (.string s) := (hb1.cell (p := ⟨w.heap.size, 0, none⟩) (by simp)).trans (by simp)
  have hbw : RowKit.Below w.heap.size w w1 := hb0.trans (hb1.mono (by omega))
  clear hgrow hi hz0 hz1 hz2 hb0 hb1
  go_wp2
  go_loopw [10] (fun i wr => ∃ k : Nat, k ≤ s.size ∧ i = .int .i64 k ∧ wr.ownsRow (w.heap.size + 1) 3 1 (.slice (some ⟨w.heap.size + 1, 0, none⟩) s.size s.size) s.size (rowF s.size fun j => if j < k then (j : Int) else 0) ∧ RowKit.Below (w.heap.size + 1) w1 wr) (fun i _ => s.size - (intOf i).toNat)
  case atStart => exact ⟨0, by omega, rfl, by rw [rowF_congr (g := fun _ => 0) (fun j _ => by simp)]; exact hown, Below.refl _ _⟩
  case round =>
    obtain ⟨k, hk, rfl, ho, hb⟩ := hrel
    by_cases hlt : k < s.size
    · have hcell : wr.cell? ⟨w.heap.size + 1, k, none⟩ = some (.int .i64 (if k < k then (k : Int) else 0)) := by rw [ho.cellAt k (by omega), rowF_get _ _ _ hlt]
      have hfr := ho.frozenAt k
      rw [if_neg (Nat.lt_irrefl _)] at hcell
      have HO := hid ho
      clear ho hown
      go_wp2
      have hst := HO.out.stored k (.int .i64 (k : Int))
      rw [rowF_set] at hst
      go_roundw
      case rel => exact ⟨k + 1, by omega, by go_num, by rw [rowF_congr (g := fun j => if j = k then (k : Int) else if j < k then (j : Int) else 0) (fun j _ => fill_one k j)]; exact hst.1, hb.setCell (by simp) _⟩
      case measure => simp [intOf]; omega
    · obtain rfl : k = s.size := by omega
      rw [rowF_congr (g := fun j => (j : Int)) (fun j hj => by simp [hj])] at ho
      have hsz := ho.lt _ rfl
      have hc2 : wr.cell? ⟨w.heap.size, 0, none⟩ = some (.string s) := (hb.cell (p := ⟨w.heap.size, 0, none⟩) (by simp)).trans hc1
      have hbr : RowKit.Below w.heap.size w wr := hbw.trans (hb.mono (by omega))
      by_cases h0 : 0 < s.size
      · have HS := hid (sort_signs s h0 w.heap.size (w.heap.size + 1) wr h hc2 (by omega) ho hsz.2)
        clear ho hsz hown hb hbw hc1
        go_wp2_with fail
        refine HS.out.mono ?_
        rintro e w2 ⟨rfl, o, hO, hI, hb2⟩
        have HO := hid hO
        have HI := hid hI
        clear hO hI
        go_wp2_with fail
        go_ret
        exact ⟨o, rfl, HO.out, HI.out, hbr.trans (hb2.mono (by omega))⟩
      · have hz : s.size = 0 := by omega
        have HS := hid (sortstable_none (some ⟨w.heap.size + 1, 0, none⟩) 0 (.func (.func 34) #[] #[.pointer (some ⟨w.heap.size, 0, none⟩)]) wr)
        rw [hz]
        rw [show (((0 : Nat) : Int)) = 0 from rfl]
        have HZ := hid hz
        clear ho hown hb hbw hc1 hz h0 hlt hk
        go_wp2_with fail
        refine HS.out.mono ?_
        rintro e w2 ⟨rfl, hw2⟩
        subst w2
        go_wp2_with fail
        go_ret
        exact ⟨[], by rw [HZ.out]; rfl, stb_nil HZ.out, ⟨hsz.2, fun j hj => by have := HZ.out; omega⟩, hbr⟩
end Go.Proofs.Ytceipfmdgpnagaa
