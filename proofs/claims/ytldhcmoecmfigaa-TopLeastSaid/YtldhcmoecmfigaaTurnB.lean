/-
  Contracts of turn.byteAt and turn.common: a sign of the text gone round and round, and how far two rotations are alike. Conditions: a text of at least 1 byte and at most 2^40, places of at most 2^40.
-/
import Derived.Test.YtldhcmoecmfigaaBase
import Derived.Test.YtldhcmoecmfigaaRot
namespace Go.Proofs.Ytldhcmoecmfigaa
open Go.RowKit

set_option maxHeartbeats 400000 in
theorem byteAt_any (s : ByteArray) (i : Nat) (w : World) (h0 : 0 < s.size) (hs : s.size ≤ 1099511627776) (hi : i ≤ 4398046511104) :
    Calls Try.prog 26 #[.string s, .int .i64 i] w fun e w' => e = .returned (.int .u8 ((cy s i).toNat : Int)) ∧ w' = w := by
  have hm : i % s.size < s.size := Nat.mod_lt _ h0
  have hc : cy s i = s[i % s.size] := by unfold cy; rw [sg_eq s _ hm]
  go_enter Try.func26, Try.ntmps26
  go_wp2
  go_ret
  exact ⟨by rw [hc]; rfl, rfl⟩
theorem byteAt_sum (s : ByteArray) (i k : Nat) (w : World) (h0 : 0 < s.size) (hs : s.size ≤ 1099511627776) (hi : i + k ≤ 4398046511104) :
    Calls Try.prog 26 #[.string s, .int .i64 ((i : Int) + (k : Int))] w fun e w' => e = .returned (.int .u8 ((cy s (i + k)).toNat : Int)) ∧ w' = w := by
  have := byteAt_any s (i + k) w h0 hs hi
  rwa [Int.natCast_add] at this

/-- How far two rotations are alike. -/
def Alk (g : Nat → UInt8) (n i j k : Nat) : Prop := (∀ l, l < k → g (i + l) = g (j + l)) ∧ (k < n → g (i + k) ≠ g (j + k))
set_option maxHeartbeats 400000 in
theorem common_any (s : ByteArray) (i j : Nat) (w : World) (h0 : 0 < s.size) (hs : s.size ≤ 1099511627776) (hi : i ≤ 1099511627776) (hj : j ≤ 1099511627776) :
    Calls Try.prog 25 #[.string s, .int .i64 i, .int .i64 j] w fun e w' => ∃ k : Nat, e = .returned (.int .i64 k) ∧ k ≤ s.size ∧ Alk (cy s) s.size i j k ∧ w' = w := by
  go_enter Try.func25, Try.ntmps25
  go_wp2
  go_loopw [7] (fun v wr => ∃ k : Nat, v = .int .i64 k ∧ k ≤ s.size ∧ Hid (∀ l, l < k → cy s (i + l) = cy s (j + l)) ∧ wr = w) (fun v _ => s.size - (intOf v).toNat)
  case atStart => exact ⟨0, rfl, by omega, hid (fun l hl => absurd hl (by omega)), rfl⟩
  case round =>
    obtain ⟨k, rfl, hk, HK, rfl⟩ := hrel
    by_cases hlt : k < s.size
    · have d1 : decide (k < s.size) = true := by simp; omega
      have H1 := fun W => hid (byteAt_sum s i k W h0 hs (by omega))
      have H2 := fun W => hid (byteAt_sum s j k W h0 hs (by omega))
      by_cases he : cy s (i + k) = cy s (j + k)
      · have hq : (((cy s (i + k)).toNat : Int) == ((cy s (j + k)).toNat : Int)) = true := by simp [he]
        have HR : Hid (∀ l, l < k + 1 → cy s (i + l) = cy s (j + l)) := hid fun l hl => by
          by_cases e : l = k
          · subst e; exact he
          · exact HK.out l (by omega)
        clear he HK
        generalize cy s (i + k) = x at H1 hq
        generalize cy s (j + k) = y at H2 hq
        go_wp2_with fail
        refine (H1 _).out.mono ?_
        rintro e w1 ⟨rfl, hw1⟩
        subst w1
        go_wp2_with fail
        refine (H2 _).out.mono ?_
        rintro e w1 ⟨rfl, hw1⟩
        subst w1
        go_wp2
        go_roundw
        case rel => exact ⟨k + 1, by go_num, by omega, HR, by first | rfl | trivial⟩
        case measure => simp [intOf]; omega
      · have hq : (((cy s (i + k)).toNat : Int) == ((cy s (j + k)).toNat : Int)) = false := by simpa using byte_apart he
        have HR := hid (show Alk (cy s) s.size i j k from ⟨HK.out, fun _ => he⟩)
        clear he HK
        generalize cy s (i + k) = x at H1 hq
        generalize cy s (j + k) = y at H2 hq
        go_wp2_with fail
        refine (H1 _).out.mono ?_
        rintro e w1 ⟨rfl, hw1⟩
        subst w1
        go_wp2_with fail
        refine (H2 _).out.mono ?_
        rintro e w1 ⟨rfl, hw1⟩
        subst w1
        go_wp2
        go_ret
        exact ⟨k, rfl, hk, HR.out, rfl⟩
    · have d1 : decide (k < s.size) = false := by simp; omega
      have HR := hid (show Alk (cy s) s.size i j k from ⟨HK.out, fun hlt' => absurd hlt' hlt⟩)
      clear HK
      go_wp2
      go_ret
      exact ⟨k, rfl, hk, HR.out, rfl⟩
end Go.Proofs.Ytldhcmoecmfigaa
