/-
  Contracts of bits.OnesCount below 200 (so many ones as have the parity of the word of Thue and Morse) and of morse.Word: its first so many signs, in new memory; and where the number is out of range. No condition but those named.
-/
import Derived.Test.YtkpjflfhegejpaaBase
import Derived.Test.YtkpjflfhegejpaaByteI
import Derived.Test.YtkpjflfhegejpaaThueM
import Derived.Test.YtkpjflfhegejpaaConv
import Derived.Test.YtkpjflfhegejpaaBlk
import Derived.Laws.IdiomStrings
namespace Go.Proofs.Ytkpjflfhegejpaa
open Go.RowKit

/-- What the library counts. -/
def oc64 (x : Int) : Int :=
  let y1 := IntKind.u64.wrap (bits BinOp.and IntKind.u64 (x / 2) 6148914691236517205 + bits BinOp.and IntKind.u64 x 6148914691236517205)
  let y2 := IntKind.u64.wrap (bits BinOp.and IntKind.u64 (y1 / 4) 3689348814741910323 + bits BinOp.and IntKind.u64 y1 3689348814741910323)
  let y3 := bits BinOp.and IntKind.u64 (IntKind.u64.wrap (y2 / 16 + y2)) 1085102592571150095
  let y4 := IntKind.u64.wrap (y3 + y3 / 256)
  let y5 := IntKind.u64.wrap (y4 + y4 / 65536)
  let y6 := IntKind.u64.wrap (y5 + y5 / 4294967296)
  bits BinOp.and IntKind.i64 (wrap64 y6) 127
/-- The parity of the ones, so many signs deep. -/
def parN : Nat → Nat → Bool
  | 0, _ => false
  | f + 1, n => (n % 2 == 1) != parN f (n / 2)
theorem parN_tm : ∀ (f n : Nat), n < 2 ^ f → parN f n = tm n := by
  intro f
  induction f with
  | zero => intro n h; obtain rfl : n = 0 := by simpa using h
            rw [tm_zero]; rfl
  | succ f ih =>
    intro n h
    rw [Nat.pow_succ] at h
    unfold parN
    rw [ih (n / 2) (by omega)]
    by_cases h0 : n = 0
    · subst h0; simp [tm_zero]
    · rw [← tm_step h0]
theorem oc64_tab : ∀ n : Fin 200, oc64 ((n.1 : Nat) : Int) = ((oc64 ((n.1 : Nat) : Int)).toNat : Int) ∧ (oc64 ((n.1 : Nat) : Int)).toNat ≤ 8 ∧ (oc64 ((n.1 : Nat) : Int)).toNat % 2 = (if parN 8 n.1 then 1 else 0) := by decide +kernel

theorem ones64_any (x : Int) (w : World) : Calls Try.prog 25 #[.int .u64 x] w fun e w' => e = .returned (.int .i64 (oc64 x)) ∧ w' = w := by
  go_enter Try.func25, Try.ntmps25
  go_wp2
  go_ret
  exact ⟨rfl, rfl⟩
theorem ones_any (n : Nat) (w : World) (h : n < 200) : Calls Try.prog 17 #[.int .u64 (n : Int)] w fun e w' => ∃ r : Nat, e = .returned (.int .i64 (r : Int)) ∧ r ≤ 8 ∧ r % 2 = (if tm n then 1 else 0) ∧ w' = w := by
  obtain ⟨h1, h2, h3⟩ := oc64_tab ⟨n, h⟩
  have HC := fun w => hid (ones64_any (n : Int) w)
  dsimp only at h1 h2 h3
  rw [parN_tm 8 n (by omega)] at h3
  rw [h1] at HC
  generalize (oc64 (n : Int)).toNat = r at *
  generalize (if tm n = true then 1 else 0 : Nat) = b at *
  have H := hid (And.intro h2 h3)
  clear h1 h2 h3
  go_enter Try.func17, Try.ntmps17
  go_wp2_with fail
  refine (HC _).out.mono ?_
  rintro e w' ⟨rfl, rfl⟩
  go_wp2
  go_ret
  exact ⟨r, rfl, H.out.1, H.out.2, rfl⟩
/-- 'string(word)' of a row that fills its block. -/
theorem conv_row {w : World} {g n c : Nat} {r : List UInt8} (h : RowAt w g 5 r) (hn : r.length = n) : (convert 44 9 (.slice (some ⟨g, 0, none⟩) n c)).run Try.prog w = .ok (.string (txt r)) w := by
  subst hn
  exact run_convert_bytes_back (P := Try.prog) w 44 9 5 ⟨g, 0, none⟩ c r Try.underlying44 Try.underlying5 Try.underlying9 (fun j hj => by
    rw [show Addr.add ⟨g, 0, none⟩ j = ⟨g, j, none⟩ by by_cases h : j = 0 <;> simp [Addr.add, h], h.cell (by omega)]
    simp [hj])

set_option maxHeartbeats 1000000 in
theorem wword_any (n : Nat) (w : World) (hn : n ≤ 200) :
    Calls Try.prog 8 #[.int .i64 (n : Int)] w fun e w' => e = .returned (.tuple #[.string (txt (mw n)), .nilIface]) ∧ Below w.heap.size w w' := by
  obtain ⟨i0, hi, hz0, hz1, hz2⟩ := info_parts byteI
  have HC := fun i (h : i < 200) W => hid (ones_any i W h)
  go_enter Try.func8, Try.ntmps8
  go_wp2_with (at_make; refine wpList_make_full _ rfl _ _ 44 rfl w.heap.size 5 i0 (.int .u8 0) 1 Try.underlying44 hi hz0 hz1 _ _ _ _ n rfl rfl rfl rfl (by rw [hz2]; omega) (by unfold maxLen; omega) (by simp) ?_)
  intro w2 hown hgrow
  have HM := hid (RowAt.made hown)
  have hb2 : Below w.heap.size w w2 := (Below.refl _ _).grown hgrow (by simp) (by simp)
  have hCl := BlkAt.lt HM.out
  clear hown hgrow hi hz0 hz1 hz2
  obtain ⟨C, hC⟩ : ∃ C, C = w.heap.size := ⟨_, rfl⟩
  have HB := hid (show w.heap.size ≤ C by omega)
  rw [← hC] at HM hCl
  rw [show (.slice (some ⟨w.heap.size, 0, none⟩) n n : Value) = .slice (some ⟨C, 0, none⟩) n n by rw [hC]]
  clear hC
  go_wp2_with fail
  go_loopw [17] (fun x wr => ∃ i : Nat, i ≤ n ∧ x = .int .i64 i ∧ Hid (RowAt wr C 5 (partL 0 (mw n) n i)) ∧ Below w.heap.size w wr) (fun x _ => n - (intOf x).toNat)
  case atStart => exact ⟨0, by omega, rfl, hid (by rw [partL_zero]; exact HM.out), hb2⟩
  case round =>
    clear HM hb2 hCl
    obtain ⟨i, hin, rfl, HM, hb⟩ := hrel
    by_cases hlt : i < n
    · have cK := HM.out.cell (k := i) (by rw [partL_len]; exact hlt)
      have fK := BlkAt.frozen HM.out i
      generalize (partL 0 (mw n) n i).getD i 0 = C0 at cK
      have i1 : (i : Int) < (n : Int) := by omega
      have HR : Hid (∀ c : UInt8, (if tm i then 49 else 48) = c → RowAt (wr.setCell ⟨C, i, none⟩ (.int .u8 (c.toNat : Int))) C 5 (partL 0 (mw n) n (i + 1)) ∧ Only C wr (wr.setCell ⟨C, i, none⟩ (.int .u8 (c.toNat : Int)))) := hid fun c hc => by
        have h1 := RowAt.stored HM.out i c
        rw [← hc, ← mw_at hlt, partL_set] at h1
        rw [← hc, ← mw_at hlt]
        exact h1
      go_wp2_with fail
      refine (HC i (by omega) _).out.mono ?_
      rintro e w3 ⟨r, rfl, hr, hp, rfl⟩
      have hq : (r : Int) % 2 = ((r % 2 : Nat) : Int) := by omega
      rw [hp] at hq
      clear hp hr HM
      rcases Bool.eq_false_or_eq_true (tm i) with ht | ht
      · rw [ht] at hq
        have HS := hid (HR.out 49 (by rw [ht]; rfl))
        clear HR ht
        go_wp2_with fail
        go_roundw
        case rel => exact ⟨i + 1, by omega, by go_num, hid HS.out.1, hb.trans (HS.out.2.below HB.out)⟩
        case measure => simp [intOf]; omega
      · rw [ht] at hq
        have HS := hid (HR.out 48 (by rw [ht]; rfl))
        clear HR ht
        go_wp2_with fail
        go_roundw
        case rel => exact ⟨i + 1, by omega, by go_num, hid HS.out.1, hb.trans (HS.out.2.below HB.out)⟩
        case measure => simp [intOf]; omega
    · obtain rfl : i = n := by omega
      have hm := HM.out
      rw [partL_all 0 (mw i) i (mw_len i)] at hm
      have hcv := fun c => conv_row (n := i) (c := c) hm (mw_len i)
      clear HM hm
      go_wp2_with fail
      go_ret2
      exact ⟨rfl, hb⟩
theorem wword_bad (x : Int) (w : World) (hx : ¬ (0 ≤ x ∧ x ≤ 200)) :
    Calls Try.prog 8 #[.int .i64 x] w fun e w' => e = .returned (.tuple #[.string ByteArray.empty, .iface 43 (.int .i64 1)]) ∧ Below w.heap.size w w' := by
  go_enter Try.func8, Try.ntmps8
  by_cases h : x < 0
  · go_wp2
    go_ret2
    exact ⟨rfl, Below.refl _ _⟩
  · have h2 : 200 < x := by omega
    go_wp2
    go_ret2
    exact ⟨rfl, Below.refl _ _⟩
end Go.Proofs.Ytkpjflfhegejpaa
