/-
  Contracts of front.newList and of the two functions that it hands back: a row of all signs in new memory, the place of a sign in it, and the sign at a place, which is put to the front. Conditions: the row has each sign once, the place is one of its places.
-/
import Derived.Test.YtceipfmdgpnagaaDoorBase
import Derived.Test.YtceipfmdgpnagaaDoorByteI
import Derived.Test.YtceipfmdgpnagaaDoorFmem
import Derived.Lib.BytesEntry
import Derived.OneCell
import Derived.StillTailTactics
namespace Go.Proofs.YtceipfmdgpnagaaDoor
open Go.RowKit

/-- The variable in block D holds the row of block L, which has the signs r. -/
structure LstB (w : World) (D L : Nat) (r : List UInt8) : Prop where
  hd : w.heap[D]? = some (.cells #[.slice (some ⟨L, 0, none⟩) 256 256] 36 (0, 0))
  hl : RowAt w L 5 r
  full : Full r
  ne : D ≠ L
theorem LstB.drewN {w : World} {D L : Nat} {r : List UInt8} (h : LstB w D L r) (q : Nat) : LstB (w.drewN q) D L r := ⟨h.hd, h.hl, h.full, h.ne⟩
theorem LstB.below {w w' : World} {D L B : Nat} {r : List UInt8} (h : LstB w D L r) (hb : Below B w w') (hB : w.heap.size ≤ B) : LstB w' D L r := by
  have l1 := lt_of_block h.hd
  have l2 := h.hl.lt
  exact ⟨(hb.block _ (by omega)).trans h.hd, (hb.block _ (by omega)).trans h.hl, h.full, h.ne⟩
/-- A store into another block. -/
theorem LstB.only {w w' : World} {D L g : Nat} {r : List UInt8} (h : LstB w D L r) (ho : Only g w w') (h1 : D ≠ g) (h2 : L ≠ g) : LstB w' D L r :=
  ⟨(ho.block _ h1).trans h.hd, (ho.block _ h2).trans h.hl, h.full, h.ne⟩

set_option maxHeartbeats 1000000 in
theorem index_any (L c : Nat) (r : List UInt8) (x : UInt8) (w : World) (hl : RowAt w L 5 r) (hf : Full r) :
    Calls Tryd.prog 18 #[.slice (some ⟨L, 0, none⟩) 256 c, .int .u8 (x.toNat : Int)] w fun e w' => e = .returned (.int .i64 (r.idxOf x : Nat)) ∧ w' = w := by
  have hrun := Lib.run_indexByteSlice (P := Tryd.prog) w L 0 256 c (r.map fun c => (c.toNat : Int)) (by rw [List.length_map, hf.len]) (fun i hi => by
    rw [Nat.zero_add, hl.cell (by rw [hf.len]; exact hi)]
    have : i < r.length := by rw [hf.len]; exact hi
    simp [this]) (x.toNat : Int)
  rw [bytesOf_nums, show ((x.toNat : Int)).toNat.toUInt8 = x by simp, indexByte_idx r x (hf.mem x)] at hrun
  clear hl hf
  generalize r.idxOf x = k at hrun ⊢
  go_enter Tryd.func18, Tryd.ntmps18
  go_wp2
  rw [run_callFunc_extern Tryd.func21 (by kernel_rfl) (by kernel_rfl) (by kernel_rfl) (e := Extern.BytealgIndexByte.indexByte) (by kernel_rfl), hrun]
  simp only [Result.andThen]
  rw [Oper.upon_value]
  go_wp2
  go_ret
  exact ⟨rfl, rfl⟩
theorem indexOf_fn (D L : Nat) (r : List UInt8) (x : UInt8) (w : World) (h : LstB w D L r) :
    Calls Tryd.prog 17 #[.int .u8 (x.toNat : Int), .pointer (some ⟨D, 0, none⟩)] w fun e w' => e = .returned (.int .i64 (r.idxOf x : Nat)) ∧ w' = w := by
  have cD := cell_of_one h.hd
  have H := fun c => hid (index_any L c r x w h.hl h.full)
  generalize r.idxOf x = k at H ⊢
  clear h
  go_enter Tryd.func17, Tryd.ntmps17
  go_wp2_with fail
  refine (H _).out.mono ?_
  rintro e w1 ⟨rfl, hw1⟩
  subst w1
  go_wp2_with fail
  go_ret
  exact ⟨rfl, rfl⟩

set_option maxRecDepth 100000 in
set_option maxHeartbeats 2000000 in
theorem take_fn (D L k : Nat) (r : List UInt8) (w : World) (h : LstB w D L r) (hk : k < 256) :
    Calls Tryd.prog 19 #[.int .i64 (k : Int), .pointer (some ⟨D, 0, none⟩)] w fun e w' => e = .returned (.int .u8 ((r.getD k 0).toNat : Int)) ∧ LstB w' D L (mtf r k) ∧ Only L w w' := by
  have cD := cell_of_one h.hd
  have hr := h.full.len
  have cK := h.hl.cell (k := k) (by omega)
  have HL := hid h
  obtain ⟨X, hX⟩ : ∃ X, X = r.getD k 0 := ⟨_, rfl⟩
  rw [← hX] at cK ⊢
  have HX := hid hX
  have HR := hid hr
  have k1 : (k : Int) ≤ 256 := by omega
  have k2 : (0 : Int) ≤ (k : Int) := by omega
  have k3 : (k : Int) < 256 := by omega
  clear h hX hr
  go_enter Tryd.func19, Tryd.ntmps19
  go_wp2_with fail
  go_still_tail 5, (by kernel_rfl)
  change wpList _ _ _ _ _ w.drew
  have HL2 : Hid (LstB w.drew D L r) := hid ⟨HL.out.hd, HL.out.hl, HL.out.full, HL.out.ne⟩
  have hO : Only L w w.drew := ⟨rfl, rfl, rfl, rfl, fun _ _ => rfl⟩
  clear HL cD cK
  generalize w.drew = w2 at HL2 hO ⊢
  refine wpList_copy_only rfl (.tmp 10) (.tmp 13) 36 36 rfl 5 Tryd.underlying36 (by kernel_rfl) L 1 255 255 ⟨L, 0, none⟩ k 256 rfl rfl (r.map encB) 5 HL2.out.hl ((r.take k).map encB) ?_ ?_ ?_ ?_ ?_
  · rw [List.length_map, List.length_take, HR.out]
    show min k 256 = min k 255
    omega
  · intro j v hj
    have hjl : j < k := by
      have := (List.getElem?_eq_some_iff.1 hj).1
      rw [List.length_map, List.length_take] at this
      omega
    have hjr : j < r.length := by rw [HR.out]; omega
    rw [show Addr.add ⟨L, 0, none⟩ j = ⟨L, j, none⟩ by by_cases h : j = 0 <;> simp [Addr.add, h], HL2.out.hl.cell hjr, ← hj]
    simp [encB, hjl, hjr]
  · rw [List.length_map, List.length_take, List.length_map, HR.out]
    omega
  · intro v hv
    obtain ⟨_, _, rfl⟩ := List.mem_map.1 hv
    rfl
  · intro nn w3 hB3 hO3
    have cD := (hO3.cell (o := 0) HL2.out.ne).trans (cell_of_one HL2.out.hd)
    have hS := splice_mtf (r := r) (k := k) (by rw [HR.out]; exact hk)
    rw [← HX.out] at hS
    have hne : splice (r.map encB) 1 ((r.take k).map encB) ≠ [] := by
      intro e
      rw [e] at hS
      simp [mtf] at hS
    obtain ⟨c0, hc0⟩ : ∃ c0, (splice (r.map encB) 1 ((r.take k).map encB))[0]? = some c0 := by
      cases e : splice (r.map encB) 1 ((r.take k).map encB) with
      | nil => exact absurd e hne
      | cons a l => exact ⟨a, rfl⟩
    have cL := hB3.cell hc0
    have fL := hB3.frozen 0
    have hst := hB3.stored 0 (.int .u8 (X.toNat : Int))
    rw [show (.int .u8 (X.toNat : Int) : Value) = encB X from rfl, hS] at hst
    have HE : Hid (RowAt _ L 5 (mtf r k) ∧ Only L w3 _) := hid hst
    have hOw := hO.trans hO3
    have HD := hid ((hO3.block _ HL2.out.ne).trans HL2.out.hd)
    have HF := hid (HL2.out.full.mtf hk)
    have HN := hid HL2.out.ne
    clear hst hS hne hc0 hB3 hO3 HL2 hO
    go_wp2_with fail
    go_ret
    exact ⟨rfl, ⟨(HE.out.2.block _ HN.out).trans HD.out, HE.out.1, HF.out, HN.out⟩, hOw.trans HE.out.2⟩

set_option maxRecDepth 100000 in
set_option maxHeartbeats 2000000 in
theorem newList_any (w : World) : Calls Tryd.prog 14 #[] w fun e w' => ∃ D L, e = .returned (.tuple #[.func (.func 17) #[] #[.pointer (some ⟨D, 0, none⟩)], .func (.func 19) #[] #[.pointer (some ⟨D, 0, none⟩)]]) ∧
    LstB w' D L allB ∧ w.heap.size ≤ D ∧ w.heap.size ≤ L ∧ Below w.heap.size w w' := by
  obtain ⟨i0, hi, hz0, hz1, hz2⟩ := info_parts byteI
  have hmf : ∀ (fn : Fn) (first cap : Array Value) (w : World), (Instr.makeFunc fn first cap).run Tryd.prog w = .ok (.func fn first cap) w := fun _ _ _ _ => rfl
  go_enter Tryd.func14, Tryd.ntmps14
  go_wp2_with (at_make; refine wpList_make_full _ rfl _ _ 36 rfl w.heap.size 5 i0 (.int .u8 0) 1 Tryd.underlying36 hi hz0 hz1 _ _ _ _ 256 rfl rfl rfl rfl (by rw [hz2]; omega) (by unfold maxLen; omega) (by simp) ?_)
  intro w1 hown hgrow
  have hR := hid (RowAt.made hown)
  have hb1 : Below w.heap.size w w1 := (Below.refl _ _).grown hgrow (by simp) (by simp)
  clear hown hgrow hi hz0 hz1 hz2
  go_wp2_with fail
  have hR2 := hid (hR.out.lt)
  have hS := hid (show w.heap.size ≤ w1.heap.size from hb1.size)
  go_loopw [7] (fun x wr => ∃ k : Nat, k ≤ 256 ∧ x = .int .i64 k ∧ Hid (wr.heap[w1.heap.size]? = some (.cells #[.slice (some ⟨w.heap.size, 0, none⟩) 256 256] 36 (0, 0))) ∧ Hid (RowAt wr w.heap.size 5 (partL 0 allB 256 k)) ∧ Below w.heap.size w wr) (fun x _ => 256 - (intOf x).toNat)
  case atStart =>
    refine ⟨0, by omega, rfl, hid (heap_alloc_new _ _), hid ?_, hb1.alloc hb1.size _⟩
    rw [partL_zero]
    exact (((Below.refl _ _).alloc (Nat.le_refl _) _).block _ hR2.out).trans hR.out
  case round =>
    clear hb1 hR
    obtain ⟨k, hk, rfl, HD, HR, hb⟩ := hrel
    have cD := cell_of_one HD.out
    by_cases hlt : k < 256
    · have cK := HR.out.cell (k := k) (by rw [partL_len]; exact hlt)
      have fK := BlkAt.frozen HR.out k
      generalize (partL 0 allB 256 k).getD k 0 = C at cK
      have hst := HR.out.stored k (allB.getD k 0)
      rw [partL_set, allB_at k hlt] at hst
      have hw8 : ((UInt8.ofNat k).toNat : Int) = (k : Int) := by rw [UInt8.toNat_ofNat']; omega
      rw [hw8] at hst
      have HST := hid hst
      clear hst hw8
      go_wp2_with fail
      go_roundw
      case rel => exact ⟨k + 1, by omega, by go_num, hid ((HST.out.2.block _ (by have := hR2.out; omega)).trans HD.out), hid HST.out.1, hb.trans (HST.out.2.below (Nat.le_refl _))⟩
      case measure => simp [intOf]; omega
    · obtain rfl : k = 256 := by omega
      go_wp2_with fail
      go_ret2
      have hr := HR.out
      rw [partL_all 0 allB 256 allB_len] at hr
      exact ⟨_, _, rfl, ⟨HD.out, hr, full_all, by have := hR2.out; omega⟩, hS.out, Nat.le_refl _, hb⟩
end Go.Proofs.YtceipfmdgpnagaaDoor
