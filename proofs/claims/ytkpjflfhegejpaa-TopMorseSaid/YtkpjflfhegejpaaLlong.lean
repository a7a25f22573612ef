/-
  Contract of lempel.longest: how long the longest numbered text is with which a text begins. Conditions: a text of at most 1000 bytes; with each numbered text the one without its last sign is numbered, and the empty text is.
-/
import Derived.Test.YtkpjflfhegejpaaBase
import Derived.Test.YtkpjflfhegejpaaLznum
import Derived.Test.YtkpjflfhegejpaaMlit
namespace Go.Proofs.Ytkpjflfhegejpaa
open Go.RowKit Go.Maps

set_option maxHeartbeats 1000000 in
theorem longest_any (s : ByteArray) (b N : Nat) (D : DataW Unit) (T : List (List UInt8)) (w : World) (hs : s.size ≤ 1000) (hown : w.ownsMap Try.prog 9 (plainElem Try.prog 3) b N D) (hD : NumD D T) (hc : Clo T) (h0 : [] ∈ T) :
    Calls Try.prog 22 #[.map (some b), .string s] w fun e w' => (∃ L, e = .returned (.int .i64 (L : Nat)) ∧ LgT T (bs s) L) ∧ w' = w := by
  have HD := hid hD
  have HC := hid hc
  have H0 := hid h0
  have HLEN := hid (bs_len s)
  clear hD hc h0
  go_enter Try.func22, Try.ntmps22
  go_wp2_with fail
  go_loopw [10] (fun x wr => ∃ i : Nat, i ≤ s.size ∧ x = .int .i64 i ∧ Hid ((bs s).take i ∈ T) ∧ wr = w) (fun x _ => s.size - (intOf x).toNat)
  case atStart => exact ⟨0, by omega, rfl, hid (by rw [List.take_zero]; exact H0.out), rfl⟩
  case round =>
    obtain ⟨i, hi, rfl, HI, hwr⟩ := hrel
    subst wr
    by_cases hlt : i < s.size
    · have hcut : ∀ W : World, Sem.run Try.prog (Instr.slice 9 (.string s) none (some (.int .i64 ((i : Int) + 1))) none) W = .ok (.string (s.extract 0 (i + 1))) W := fun W =>
        run_slice_string_h W 9 s Try.underlying9 .i64 ((i : Int) + 1) (by omega) (by omega)
      have hkey := key_str (s := s.extract 0 (i + 1)) (by rw [ByteArray.size_extract]; unfold maxLen; omega)
      have hiff := HD.out.has (s.extract 0 (i + 1))
      rw [wb_ext, List.drop_zero] at hiff
      by_cases hin : (bs s).take (i + 1) ∈ T
      · have hh := hiff.2 hin
        have HN := hid hin
        clear hiff hin HI
        generalize s.extract 0 (i + 1) = u at hcut hkey hh
        go_wp2_with (at_lookup; refine wpList_lookup_own_ok_int _ rfl _ _ 50 rfl 9 3 .i64 str_keyed Try.underlying50 Try.underlying3 (zeroN _) b N D rfl hown _ _ rfl hkey ?_; intro x hat hwx; rw [hh])
        go_roundw
        case rel => exact ⟨i + 1, by omega, by go_num, HN, by first | rfl | trivial⟩
        case measure => simp [intOf]; omega
      · have hh : Maps.has D (keyS (s.extract 0 (i + 1))) = false := by
          cases e : Maps.has D (keyS (s.extract 0 (i + 1))) with
          | false => rfl
          | true => exact absurd (hiff.1 e) hin
        have HR := hid (lgT_of HC.out (L := i) (by rw [HLEN.out]; omega) HI.out fun _ => hin)
        clear hiff hin HI
        generalize s.extract 0 (i + 1) = u at hcut hkey hh
        go_wp2_with (at_lookup; refine wpList_lookup_own_ok_int _ rfl _ _ 50 rfl 9 3 .i64 str_keyed Try.underlying50 Try.underlying3 (zeroN _) b N D rfl hown _ _ rfl hkey ?_; intro x hat hwx; rw [hh])
        go_wp2
        go_ret
        exact ⟨⟨i, rfl, HR.out⟩, rfl⟩
    · obtain rfl : i = s.size := by omega
      have HR := hid (lgT_of HC.out (L := s.size) (by rw [HLEN.out]; omega) HI.out fun h => by rw [HLEN.out] at h; omega)
      clear HI
      go_wp2_with fail
      go_ret
      exact ⟨⟨s.size, rfl, HR.out⟩, rfl⟩
end Go.Proofs.Ytkpjflfhegejpaa
