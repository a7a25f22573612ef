/-
  Contract of kraft.binary: so many bits of a number, as a text. Conditions: at most twelve bits, a number up to 4096.
-/
import Derived.Test.YtlfncplldppncaaDoorBase
import Derived.Test.YtlfncplldppncaaDoorByteI
import Derived.Test.YtlfncplldppncaaDoorBlk
import Derived.Test.YtlfncplldppncaaDoorBs
import Derived.Laws.IdiomStrings
import Derived.Test.YtlfncplldppncaaDoorKord
import Derived.Lib.RabinKarpLaws
namespace Go.Proofs.YtlfncplldppncaaDoor
open Go.RowKit

/-- 'string(b)' of a row that fills its block. -/
theorem conv_all {w : World} {g n c : Nat} {r : List UInt8} (h : RowAt w g 5 r) (hn : r.length = n) : (convert 60 9 (.slice (some ⟨g, 0, none⟩) n c)).run Tryd.prog w = .ok (.string (txt r)) w := by
  subst hn
  exact run_convert_bytes_back (P := Tryd.prog) w 60 9 5 ⟨g, 0, none⟩ c r Tryd.underlying60 Tryd.underlying5 Tryd.underlying9 (fun j hj => by
    rw [show Addr.add ⟨g, 0, none⟩ j = ⟨g, j, none⟩ by by_cases h : j = 0 <;> simp [Addr.add, h], h.cell (by omega)]
    simp [hj])

theorem bit_of (k p : Nat) (h : k ≤ 4096) : bits BinOp.and IntKind.i64 ((k : Int) / 2 ^ p) 1 = ((k / 2 ^ p % 2 : Nat) : Int) := by
  have e : (k : Int) / 2 ^ p = ((k / 2 ^ p : Nat) : Int) := by rw [Int.natCast_ediv]; simp
  have h2 : k / 2 ^ p ≤ k := Nat.div_le_self _ _
  rw [e]
  exact and_one _ (by omega)

set_option maxHeartbeats 1000000 in
theorem binary_any (k d : Nat) (w : World) (hk : k ≤ 4096) (hd : d ≤ 12) :
    Calls Tryd.prog 25 #[.int .i64 (k : Int), .int .i64 (d : Int)] w fun e w' => e = .returned (.string (txt (bitsL d k))) ∧ Below w.heap.size w w' := by
  obtain ⟨i0, hi, hz0, hz1, hz2⟩ := info_parts byteI
  go_enter Tryd.func25, Tryd.ntmps25
  go_wp2_with (at_make; refine wpList_make_full _ rfl _ _ 60 rfl w.heap.size 5 i0 (.int .u8 0) 1 Tryd.underlying60 hi hz0 hz1 _ _ _ _ d rfl rfl rfl rfl (by rw [hz2]; omega) (by unfold maxLen; omega) (by simp) ?_)
  intro w2 hown hgrow
  have HM := hid (RowAt.made hown)
  have hb2 : Below w.heap.size w w2 := (Below.refl _ _).grown hgrow (by simp) (by simp)
  have hCl := BlkAt.lt HM.out
  clear hown hgrow hi hz0 hz1 hz2
  obtain ⟨C, hC⟩ : ∃ C, C = w.heap.size := ⟨_, rfl⟩
  have HC := hid (show w.heap.size ≤ C by omega)
  rw [← hC] at HM hCl
  rw [show (.slice (some ⟨w.heap.size, 0, none⟩) d d : Value) = .slice (some ⟨C, 0, none⟩) d d by rw [hC]]
  clear hC
  go_wp2_with fail
  go_loopw [12] (fun x wr => ∃ i : Nat, i ≤ d ∧ x = .int .i64 i ∧ Hid (RowAt wr C 5 (partL 0 (bitsL d k) d i)) ∧ Below w.heap.size w wr) (fun x _ => d - (intOf x).toNat)
  case atStart => exact ⟨0, by omega, rfl, hid (by rw [partL_zero]; exact HM.out), hb2⟩
  case round =>
    clear HM hb2 hCl
    obtain ⟨i, hin, rfl, HM, hb⟩ := hrel
    by_cases hlt : i < d
    · have cK := HM.out.cell (k := i) (by rw [partL_len]; exact hlt)
      have fK := BlkAt.frozen HM.out i
      generalize (partL 0 (bitsL d k) d i).getD i 0 = C0 at cK
      obtain ⟨p, hp⟩ : ∃ p, p = d - 1 - i := ⟨_, rfl⟩
      have hat := bits_at d k i hlt
      have hbit := bit_of k p hk
      rw [← hp] at hat
      have hset := partL_set 0 (bitsL d k) d i
      have i1 : (i : Int) < (d : Int) := by omega
      have p1 : IntKind.i64.wrap ((d : Int) - 1) = (d : Int) - 1 := IntWalk.i64_in _ (by omega)
      have p2 : IntKind.i64.wrap ((d : Int) - 1 - (i : Int)) = (p : Int) := by rw [IntWalk.i64_in _ (by omega)]; omega
      have p3 : (p : Int) ≤ 64 := by omega
      have hrow : ∀ c : UInt8, (bitsL d k).getD i 0 = c → RowAt (wr.setCell ⟨C, i, none⟩ (.int .u8 (c.toNat : Int))) C 5 (partL 0 (bitsL d k) d (i + 1)) ∧ Only C wr (wr.setCell ⟨C, i, none⟩ (.int .u8 (c.toNat : Int))) := fun c hc => by
        have h1 := RowAt.stored HM.out i c
        rw [← hc, hset] at h1
        rw [← hc]
        exact h1
      have HR := hid hrow
      have HP := hid hp
      clear hp hset hrow
      by_cases hb1 : k / 2 ^ p % 2 = 1
      · rw [if_pos hb1] at hat
        rw [hb1] at hbit
        have HS := hid (HR.out _ hat)
        clear hat HR hb1 HM
        go_wp2_with fail
        go_roundw
        case rel => exact ⟨i + 1, by omega, by go_num, hid HS.out.1, hb.trans (HS.out.2.below HC.out)⟩
        case measure => simp [intOf]; omega
      · rw [if_neg hb1] at hat
        have hb0 : k / 2 ^ p % 2 = 0 := by omega
        rw [hb0] at hbit
        have HS := hid (HR.out _ hat)
        clear hat HR hb1 hb0 HM
        go_wp2_with fail
        go_roundw
        case rel => exact ⟨i + 1, by omega, by go_num, hid HS.out.1, hb.trans (HS.out.2.below HC.out)⟩
        case measure => simp [intOf]; omega
    · obtain rfl : i = d := by omega
      have hm := HM.out
      rw [partL_all 0 (bitsL i k) i (bits_len i k)] at hm
      have hcv := fun c => conv_all (n := i) (c := c) hm (bits_len i k)
      clear HM hm
      go_wp2_with fail
      go_ret
      exact ⟨rfl, hb⟩
end Go.Proofs.YtlfncplldppncaaDoor
