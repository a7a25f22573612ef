/-
  Contract of suffix.Order: the places of a text's ends in the ends' order, in new memory; the old memory stays as it was. Conditions: none but the sizes that a row itself sets.
-/
import Derived.Test.YtldhcmoecmfigaaSlay
import Derived.Test.YtldhcmoecmfigaaSufP
import Derived.Test.YtldhcmoecmfigaaOn
import Derived.Deep.OwnRows
namespace Go.Proofs.Ytldhcmoecmfigaa
open Go.RowKit Go.Shelf Go.Sort

/-- A place of a text, or its end. -/
abbrev Plc (s : ByteArray) := { i : Nat // i ≤ s.size }
instance (s : ByteArray) : Inhabited (Plc s) := ⟨⟨0, Nat.zero_le _⟩⟩
def encP (s : ByteArray) (x : Plc s) : Value := .int .i64 (x.1 : Int)
def cmpP (s : ByteArray) (x y : Plc s) : Int := cmpE s x.1 y.1
theorem cmpP_lt (s : ByteArray) (x y : Plc s) : ltOf (cmpP s) x y = true ↔ (bs s).drop x.1 < (bs s).drop y.1 := by
  unfold ltOf cmpP cmpE
  rw [decide_eq_true_eq, cmpB_lt]
theorem cmpP_no (s : ByteArray) (x y : Plc s) : ltOf (cmpP s) x y = false ↔ ¬ (bs s).drop x.1 < (bs s).drop y.1 := by
  rw [← Bool.not_eq_true, cmpP_lt]
theorem cmpP_swo (s : ByteArray) : SWO (ltOf (cmpP s)) where
  irrefl x := by rw [cmpP_no]; exact lt_irr _
  trans x y z h1 h2 := by rw [cmpP_lt] at *; exact List.lt_trans h1 h2
  ntrans x y z h1 h2 := by
    rw [cmpP_no] at *
    exact List.not_lt.2 (List.le_trans (List.not_lt.1 h2) (List.not_lt.1 h1))
/-- All places, rising. -/
def allP (s : ByteArray) : Array (Plc s) := Array.ofFn fun i : Fin s.size => ⟨i.1, Nat.le_of_lt i.2⟩
theorem allP_size (s : ByteArray) : (allP s).size = s.size := by simp [allP]
theorem allP_at (s : ByteArray) (j : Nat) (h : j < s.size) : ((allP s)[j]!).1 = j := by
  rw [getElem!_pos (allP s) j (by rw [allP_size]; exact h)]
  simp [allP]
theorem allP_list (s : ByteArray) : (allP s).toList.map (·.1) = List.range s.size := by
  apply List.ext_getElem
  · simp [allP]
  · intro i h1 h2; simp [allP]
/-- What a sort of the places gives. -/
theorem ord_sorted (s : ByteArray) (d : Array (Plc s)) (hp : PermIn 0 (allP s).size (allP s) d) (hs : SortedIn (ltOf (cmpP s)) 0 (allP s).size d) : d.size = s.size ∧ Ord (bs s) (d.toList.map (·.1)) := by
  have hz : d.size = s.size := by rw [hp.1, allP_size]
  have hperm : d.toList.Perm (allP s).toList := by
    have := hp.2.2
    rw [Array.extract_size] at this
    rw [show d.extract 0 (allP s).size = d by rw [← hp.1, Array.extract_size]] at this
    exact this
  have h1 : (d.toList.map (·.1)).Perm (List.range (bs s).length) := by
    rw [bs_len, ← allP_list]; exact hperm.map _
  refine ⟨hz, h1, ?_⟩
  rw [List.pairwise_iff_getElem]
  intro i j hi hj hij
  simp only [List.length_map, Array.length_toList] at hi hj
  have h2 := hs i j (Nat.zero_le _) hij (by rw [allP_size, ← hz]; exact hj)
  rw [getElem!_pos d i hi, getElem!_pos d j hj, cmpP_no] at h2
  simp only [List.getElem_map, Array.getElem_toList]
  have hm : ∀ k (hk : k < d.size), d[k].1 < (bs s).length := fun k hk => by
    have : d[k].1 ∈ d.toList.map (·.1) := List.mem_map.2 ⟨d[k], by simp, rfl⟩
    exact List.mem_range.1 (h1.mem_iff.1 this)
  have hne : d[i].1 ≠ d[j].1 := fun e => by
    have hn : (d.toList.map (·.1)).Nodup := h1.nodup_iff.2 List.nodup_range
    have := List.pairwise_iff_getElem.1 hn i j (by simpa using hi) (by simpa using hj) hij
    simp only [List.getElem_map, Array.getElem_toList] at this
    exact this e
  rcases drop_or (hm i hi) (hm j hj) hne with h3 | h3
  · exact h3
  · exact absurd h3 h2

/-- A world that the sort passes through leaves what lies elsewhere alone. -/
theorem below_sw {s : ByteArray} {blk off n : Nat} {w : World} {d : Array (Plc s)} {os : Array Obj} (hblk : blk < w.heap.size) : Below blk w (sortWorld (encP s) w blk off n d os) := by
  unfold sortWorld
  refine ⟨rfl, rfl, rfl, ?_, fun k hk => ?_⟩
  · rw [size_grow]; unfold putRow mapBlock; simp
  · rw [heap_grow_old _ _ (by unfold putRow mapBlock; simp; omega)]
    unfold putRow mapBlock
    rw [Array.getElem?_modify]
    simp [show blk ≠ k by omega]

/-- slices.SortFunc over all places of a text, by the ends there. -/
theorem sort_ends (s : ByteArray) (B blk : Nat) (w : World) (hs : s.size ≤ 24) (hB : w.cell? ⟨B, 0, none⟩ = some (.string s)) (hBb : B < blk)
    (hown : w.ownsRow blk 3 1 (.slice (some ⟨blk, 0, none⟩) s.size s.size) s.size (rowF s.size fun j => (j : Int))) (hlt : blk < w.heap.size) :
    Calls Try.prog 28 #[.slice (some ⟨blk, 0, none⟩) s.size s.size, .func (.func 29) #[] #[.pointer (some ⟨B, 0, none⟩)]] w fun e w' =>
      e = .returned (.tuple #[]) ∧ ∃ o, Ord (bs s) o ∧ IsInts w' w'.heap.size (some ⟨blk, 0, none⟩) s.size (o.map fun i : Nat => (i : Int)) ∧ Below blk w w' := by
  have eg : ∀ args w, (callFunc 29 args).run Try.prog w = .ok (.enter 29 args) w := enters_of Try.func29 (by kernel_rfl) rfl
  have hH : Holds (encP s) w blk 0 (allP s) := fun j hj => by
    rw [allP_size] at hj
    rw [Nat.zero_add, hown.cellAt j (by omega), rowF_get _ _ _ hj, hown.frozenAt j, encP, allP_at s j hj]
    exact ⟨rfl, rfl⟩
  have hcmp : CmpReads Try.prog 29 #[.pointer (some ⟨B, 0, none⟩)] (encP s) (cmpP s) blk 0 (allP s).size w := fun m os dk _ x y =>
    order_fn s B x.1 y.1 _ (((below_sw hlt).cell (p := ⟨B, 0, none⟩) hBb).trans hB) x.2 y.2
  have h := Any.slices_SortFunc sortInt (encP s) (fun _ => rfl) (cmpP s) (cmpP_swo s) 29 #[.pointer (some ⟨B, 0, none⟩)] blk 0 s.size (allP s) w eg hcmp.lays hH hlt (by rw [allP_size]; omega)
  refine Calls.mono (show Calls Try.prog 28 #[.slice (some ⟨blk, 0, none⟩) s.size s.size, .func (.func 29) #[] #[.pointer (some ⟨B, 0, none⟩)]] w _ from (allP_size s) ▸ h) ?_
  rintro e w' ⟨he, d', n, os, hp, hsrt, hw⟩
  rw [← allP_size s] at hp hsrt
  obtain ⟨hz, hO⟩ := ord_sorted s d' hp hsrt
  have hW : SW (encP s) w blk 0 d' w' := ⟨n, os, hw⟩
  have hHold := hW.holds hlt hH (by rw [hz, allP_size])
  refine ⟨he, _, hO, ⟨by simp [hz], fun _ => ⟨blk, 0, rfl, hW.lt hlt, fun j hj => ?_⟩⟩, by rw [hw]; exact below_sw hlt⟩
  have hj' : j < d'.size := by omega
  rw [(hHold j hj').1, getElem!_pos d' j hj']
  simp [encP, List.getD_eq_getElem?_getD, hj']

theorem fill_step (k j : Nat) : (if j < k + 1 then (j : Int) else 0) = if j = k then (k : Int) else if j < k then (j : Int) else 0 := by
  by_cases e : j = k
  · subst e; simp
  · by_cases h : j < k
    · rw [if_pos (by omega), if_neg e, if_pos h]
    · rw [if_neg (by omega), if_neg e, if_neg h]
theorem order_long (s : ByteArray) (w : World) (h : 24 < s.size) (hs : s.size ≤ maxLen) :
    Calls Try.prog 16 #[.string s] w fun e w' => e = .returned (.tuple #[.slice none 0 0, .iface 41 (.int .i64 4)]) ∧ Below w.heap.size w w' := by
  unfold maxLen at hs
  go_enter Try.func16, Try.ntmps16
  go_wp2
  go_ret2
  exact ⟨rfl, (Below.refl _ _).alloc (Nat.le_refl _) _⟩
set_option maxRecDepth 100000 in
set_option maxHeartbeats 800000 in
theorem order_any (s : ByteArray) (w : World) (h : s.size ≤ 24) :
    Calls Try.prog 16 #[.string s] w fun e w' => ∃ A c o, e = .returned (.tuple #[.slice A s.size c, .nilIface]) ∧ Ord (bs s) o ∧ IsInts w' w'.heap.size A s.size (o.map fun i : Nat => (i : Int)) ∧ Below w.heap.size w w' := by
  obtain ⟨i0, hi, hz0, hz1, hz2⟩ := info_parts int_info
  have hmf : ∀ (fn : Fn) (first cap : Array Value) (w : World), (Instr.makeFunc fn first cap).run Try.prog w = .ok (.func fn first cap) w := fun _ _ _ _ => rfl
  go_enter Try.func16, Try.ntmps16
  go_wp2_with (at_make; refine wpList_make_full _ rfl _ _ 35 rfl (w.heap.size + 1) 3 i0 (.int .i64 0) 1 Try.underlying35 hi hz0 hz1 _ _ _ _ s.size rfl rfl rfl rfl (by rw [hz2]; omega) (by unfold maxLen; omega) (by simp) ?_)
  intro w1 hown hgrow
  rw [rowF_made] at hown
  have hb0 : Below w.heap.size w (w.alloc (.cells #[.string s] 9)) := (Below.refl _ _).alloc (Nat.le_refl _) _
  have hb1 : Below (w.heap.size + 1) (w.alloc (.cells #[.string s] 9)) w1 := (Below.refl _ _).grown hgrow (by simp) (by simp)
  have hc1 : w1.cell? ⟨w.heap.size, 0, none⟩ = some (.string s) := (hb1.cell (p := ⟨w.heap.size, 0, none⟩) (by simp)).trans (by simp)
  have hbw : Below w.heap.size w w1 := hb0.trans (hb1.mono (by omega))
  clear hgrow hi hz0 hz1 hz2 hb0 hb1
  go_wp2
  go_loopw [15] (fun i wr => ∃ k : Nat, k ≤ s.size ∧ i = .int .i64 k ∧ wr.ownsRow (w.heap.size + 1) 3 1 (.slice (some ⟨w.heap.size + 1, 0, none⟩) s.size s.size) s.size (rowF s.size fun j => if j < k then (j : Int) else 0) ∧ Below (w.heap.size + 1) w1 wr) (fun i _ => s.size - (intOf i).toNat)
  case atStart => exact ⟨0, by omega, rfl, by rw [rowF_congr (g := fun _ => 0) (fun j _ => by simp)]; exact hown, Below.refl _ _⟩
  case round =>
    obtain ⟨k, hk, rfl, ho, hb⟩ := hrel
    by_cases hlt : k < s.size
    · have hcell : wr.cell? ⟨w.heap.size + 1, k, none⟩ = some (.int .i64 (if k < k then (k : Int) else 0)) := by rw [ho.cellAt k (by omega), rowF_get _ _ _ hlt]
      have hfr := ho.frozenAt k
      rw [if_neg (Nat.lt_irrefl _)] at hcell
      have HO := hid ho
      clear ho hown
      go_wp2
      have hst := HO.out.stored k (.int .i64 (k : Int))
      rw [rowF_set] at hst
      go_roundw
      case rel => exact ⟨k + 1, by omega, by go_num, by rw [rowF_congr (g := fun j => if j = k then (k : Int) else if j < k then (j : Int) else 0) (fun j _ => fill_step k j)]; exact hst.1, hb.setCell (by simp) _⟩
      case measure => simp [intOf]; omega
    · obtain rfl : k = s.size := by omega
      rw [rowF_congr (g := fun j => (j : Int)) (fun j hj => by simp [hj])] at ho
      have hsz := ho.lt _ rfl
      have hc2 : wr.cell? ⟨w.heap.size, 0, none⟩ = some (.string s) := (hb.cell (p := ⟨w.heap.size, 0, none⟩) (by simp)).trans hc1
      have HS := hid (sort_ends s w.heap.size (w.heap.size + 1) wr h hc2 (by omega) ho hsz.2)
      have hbr : Below w.heap.size w wr := hbw.trans (hb.mono (by omega))
      clear ho hsz hown hb hbw hc1
      go_wp2_with fail
      refine HS.out.mono ?_
      rintro e w2 ⟨rfl, o, hO, hI, hb2⟩
      have HO := hid hO
      have HI := hid hI
      clear hO hI
      go_wp2_with fail
      go_ret2
      exact ⟨_, _, o, rfl, HO.out, HI.out, hbr.trans (hb2.mono (by omega))⟩
end Go.Proofs.Ytldhcmoecmfigaa
