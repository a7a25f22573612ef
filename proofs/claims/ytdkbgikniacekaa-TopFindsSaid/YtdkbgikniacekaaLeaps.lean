/-
  Contracts of skip.leaps and of the function that it hands back: a map of the distances, in new memory, and the leap of a byte. Conditions: a word of 1 to 24 bytes.
-/
import Derived.Test.YtdkbgikniacekaaBase
import Derived.Test.YtdkbgikniacekaaHop
import Derived.Test.YtdkbgikniacekaaMaps
import Derived.Maps.OwnSet
import Derived.OneCell
import Derived.StillTailTactics
namespace Go.Proofs.Ytdkbgikniacekaa
open Go.RowKit Go.Maps

/-- The map D holds, for the first k signs of the word, how far each lies before the place 'last'. -/
def TabD (D : DataW Unit) (g : Nat → UInt8) (last k : Nat) : Prop :=
  IsMap D ∧ ∀ c : UInt8, Maps.has D (keyL c) = (look g c k).isSome ∧ ∀ i, look g c k = some i → ∀ z, D.atKey (keyL c) z = .lit (.int .i64 ((last : Int) - i))
theorem tabD_start (g : Nat → UInt8) (last : Nat) : TabD (.map []) g last 0 := ⟨isMap_empty, fun _ => ⟨rfl, fun _ h => by simp [look] at h⟩⟩
theorem tabD_step {D : DataW Unit} {g : Nat → UInt8} {last k : Nat} (h : TabD D g last k) : TabD (D.put (keyL (g k)) (.lit (.int .i64 ((last : Int) - k)))) g last (k + 1) := by
  refine ⟨h.1.put _ _, fun c => ?_⟩
  by_cases e : g k = c
  · subst e
    rw [look_hit rfl]
    refine ⟨has_put_same h.1 (keyL_key _) _, fun i hi z => ?_⟩
    obtain rfl : k = i := by simpa using hi
    exact atKey_put_same h.1 (keyL_key _) _ z
  · rw [look_miss e, has_put_other (keyL_ne (Ne.symm e))]
    refine ⟨(h.2 c).1, fun i hi z => ?_⟩
    rw [atKey_put_other (keyL_ne (Ne.symm e))]
    exact (h.2 c).2 i hi z

theorem byte_keyed : Keyed Try.prog 5 := int_keyed Try.underlying5
theorem zero_int (w : World) : (zeroValue 3).run Try.prog w = .ok (.int .i64 0) w := by kernel_rfl
theorem key_byte (c : UInt8) : keyOf Try.prog 5 (.int .u8 (c.toNat : Int)) = some (keyL c) := keyOf_int_mk Try.underlying5 (keyL_wf c)

/-- What the leaping function has captured: the map in block Bm by way of block Bd, the word in block Bw. -/
structure Capt (w : World) (s : ByteArray) (Bd Bw Bm n : Nat) (D : DataW Unit) (k : Nat) : Prop where
  hd : w.heap[Bd]? = some (.cells #[.map (some Bm)] 101 (0, 0))
  hw : w.heap[Bw]? = some (.cells #[.string s] 9 (0, 0))
  hm : w.ownsMap Try.prog 5 (plainElem Try.prog 3) Bm n D
  ht : TabD D (sg s) (s.size - 1) k

set_option maxRecDepth 100000 in
theorem leap_fn (s : ByteArray) (c : UInt8) (Bd Bw Bm n : Nat) (D : DataW Unit) (w : World) (h : Capt w s Bd Bw Bm n D (s.size - 1)) (hs : s.size ≤ 24) :
    Calls Try.prog 69 #[.int .u8 (c.toNat : Int), .pointer (some ⟨Bd, 0, none⟩), .pointer (some ⟨Bw, 0, none⟩)] w fun e w' =>
      e = .returned (.int .i64 (lp (sg s) s.size c : Nat)) ∧ w' = w := by
  have cD := cell_of_one h.hd
  have cW := cell_of_one h.hw
  have hm := h.hm
  have hkey := key_byte c
  cases e : look (sg s) c (s.size - 1) with
  | none =>
    have hl := hid (lp_none e)
    have hh : Maps.has D (keyL c) = false := by rw [(h.ht.2 c).1, e]; rfl
    clear e h
    go_enter Try.func69, Try.ntmps69
    go_wp2_with (at_lookup; refine wpList_lookup_own_ok_int _ rfl _ _ 101 rfl 5 3 .i64 byte_keyed Try.underlying101 Try.underlying3 (zero_int _) Bm n D rfl hm _ _ rfl hkey ?_; intro x hat hwx; rw [hh])
    go_wp2
    go_ret
    exact ⟨ret_int (by rw [hl.out]), rfl⟩
  | some i =>
    have hl := hid (lp_some e)
    have hi := (look_some e).1
    have hh : Maps.has D (keyL c) = true := by rw [(h.ht.2 c).1, e]; rfl
    have hx := fun z => hid ((h.ht.2 c).2 i e z)
    clear e h
    go_enter Try.func69, Try.ntmps69
    go_wp2_with (at_lookup; refine wpList_lookup_own_ok_int _ rfl _ _ 101 rfl 5 3 .i64 byte_keyed Try.underlying101 Try.underlying3 (zero_int _) Bm n D rfl hm _ _ rfl hkey ?_; intro x hat hwx; rw [hh])
    go_wp2
    go_ret
    have hat : D.atKey (keyL c) (.lit (.int .i64 0)) = .lit (.int .i64 x) := by assumption
    rw [(hx _).out] at hat
    have hx2 : ((s.size - 1 : Nat) : Int) - i = x := by simpa using hat
    exact ⟨ret_int (by rw [hl.out]; omega), rfl⟩

/-- The value v is a function that tells the word's leaps. -/
def LeapV (w : World) (v : Value) (s : ByteArray) : Prop :=
  ∃ Bd Bw Bm n D, v = .func (.func 69) #[] #[.pointer (some ⟨Bd, 0, none⟩), .pointer (some ⟨Bw, 0, none⟩)] ∧ Capt w s Bd Bw Bm n D (s.size - 1)
theorem Capt.below {w w' : World} {s : ByteArray} {Bd Bw Bm n k B : Nat} {D : DataW Unit} (h : Capt w s Bd Bw Bm n D k) (hb : Below B w w') (hB : w.heap.size ≤ B) : Capt w' s Bd Bw Bm n D k := by
  have l1 := lt_of_block h.hd
  have l2 := lt_of_block h.hw
  have l3 := h.hm.lt
  obtain ⟨es, clock, hblk, r⟩ := h.hm
  exact ⟨(hb.block _ (by omega)).trans h.hd, (hb.block _ (by omega)).trans h.hw, ⟨es, clock, (hb.block _ (by omega)).trans hblk, r⟩, h.ht⟩
theorem LeapV.below {w w' : World} {s : ByteArray} {v : Value} {B : Nat} (h : LeapV w v s) (hb : Below B w w') (hB : w.heap.size ≤ B) : LeapV w' v s := by
  obtain ⟨Bd, Bw, Bm, n, D, e, h⟩ := h
  exact ⟨Bd, Bw, Bm, n, D, e, h.below hb hB⟩

theorem capt_start (w : World) (s : ByteArray) : Capt (((w.alloc (.cells #[.string s] 9)).alloc (.map #[] 0)).alloc (.cells #[.map (some (w.heap.size + 1))] 101)) s (w.heap.size + 2) w.heap.size (w.heap.size + 1) 0 (.map []) 0 := by
  have e1 : (w.alloc (.cells #[.string s] 9)).heap.size = w.heap.size + 1 := by simp
  have e2 : ((w.alloc (.cells #[.string s] 9)).alloc (.map #[] 0)).heap.size = w.heap.size + 2 := by simp
  have b1 : Below (w.heap.size + 1) (w.alloc (.cells #[.string s] 9)) (((w.alloc (.cells #[.string s] 9)).alloc (.map #[] 0)).alloc (.cells #[.map (some (w.heap.size + 1))] 101)) :=
    ((Below.refl _ _).alloc (by omega) _).alloc (by omega) _
  refine ⟨?_, ?_, ?_, tabD_start _ _⟩
  · rw [← e2]; exact heap_alloc_new _ _
  · exact (b1.block _ (by omega)).trans (heap_alloc_new w _)
  · have h := World.ownsMap_made (H := Unit) (w.alloc (.cells #[.string s] 9)) Try.prog 5 (plainElem Try.prog 3)
    rw [e1] at h
    exact h.alloc _

set_option maxRecDepth 100000 in
set_option maxHeartbeats 400000 in
theorem leaps_any (s : ByteArray) (w : World) (hs : s.size ≤ 24) (h0 : 0 < s.size) :
    Calls Try.prog 49 #[.string s] w fun e w' => ∃ v, e = .returned v ∧ LeapV w' v s ∧ Below w.heap.size w w' := by
  have hmm := @run_makeMap Try.prog
  have hmf : ∀ (fn : Fn) (first cap : Array Value) (w : World), (Instr.makeFunc fn first cap).run Try.prog w = .ok (.func fn first cap) w := fun _ _ _ _ => rfl
  go_enter Try.func49, Try.ntmps49
  go_wp2
  go_loopw [11] (fun x wr => ∃ (k : Nat) (D : DataW Unit), k ≤ s.size - 1 ∧ x = .int .i64 k ∧ Capt wr s (w.heap.size + 2) w.heap.size (w.heap.size + 1) k D k ∧ Below w.heap.size w wr) (fun x _ => s.size - (intOf x).toNat)
  case atStart => exact ⟨0, _, by omega, rfl, capt_start w s, (((Below.refl _ _).alloc (by simp) _).alloc (by simp) _).alloc (by simp; omega) _⟩
  case round =>
    obtain ⟨k, D, hk, rfl, hc, hb⟩ := hrel
    by_cases hlt : k < s.size - 1
    · have cD := cell_of_one hc.hd
      have cW := cell_of_one hc.hw
      have hkey := key_byte s[k]
      have hlt2 : k < s.size := by omega
      have hd : (k : Int) < (s.size : Int) - 1 := by omega
      have HS := tabD_step hc.ht
      rw [sg_eq s k hlt2, show ((s.size - 1 : Nat) : Int) - k = (s.size : Int) - 1 - k by omega] at HS
      have HS := hid HS
      go_wp2
      go_still_tail 7, (by kernel_rfl)
      change wpList _ _ _ _ _ wr.drew
      have hc : Capt wr.drew s (w.heap.size + 2) w.heap.size (w.heap.size + 1) k D k := ⟨hc.hd, hc.hw, hc.hm, hc.ht⟩
      have hb : Below w.heap.size w wr.drew := ⟨hb.os, hb.tape, hb.output, hb.size, hb.block⟩
      generalize wr.drew = w2 at hc hb ⊢
      have hm := hc.hm
      rw [IntWalk.i64_in ((s.size : Int) - 1 - k) (by omega)]
      refine wpList_mapUpdate_own _ rfl _ _ _ 101 rfl 5 3 byte_keyed Try.underlying101 _ (w.heap.size + 1) k _ rfl hm (by unfold maxLen; omega) _ _ _ rfl rfl hkey _ [] (plainElem_int Try.underlying3 (WalkArith.wf_i64 (by omega))) ?_
      intro w3 hm3 hg3
      have hc3 : Capt w3 s (w.heap.size + 2) w.heap.size (w.heap.size + 1) (k + 1) _ (k + 1) :=
        ⟨(hg3.block _ (lt_of_block hc.hd) (fun e => by have := Option.some.inj e; omega)).trans hc.hd, (hg3.block _ (lt_of_block hc.hw) (fun e => by have := Option.some.inj e; omega)).trans hc.hw, hm3, HS.out⟩
      have hb3 := hb.grown hg3 hb.size (fun j hj => by cases hj; omega)
      clear hm3 hg3 HS hm
      go_wp2
      go_roundw
      case rel => exact ⟨k + 1, _, by omega, by go_num, hc3, hb3⟩
      case measure => simp [intOf]; omega
    · have hd : ¬ ((k : Int) < (s.size : Int) - 1) := by omega
      have he : k = s.size - 1 := by omega
      go_wp2
      go_ret
      exact ⟨_, rfl, ⟨_, _, _, _, _, rfl, by rw [← he]; exact hc⟩, hb⟩
end Go.Proofs.Ytdkbgikniacekaa
