/-
  Contracts of letterbeckref1.in and letterbeckref1.Period: a number is a period just if each sign is the one so many places before. Conditions: texts of at most 2^40 bytes, a number from 1 to the text's length.
-/
import Derived.Test.YtlklhgapnenekaaDoorBase
import Derived.Test.YtlklhgapnenekaaDoorOcc
namespace Go.Proofs.YtlklhgapnenekaaDoor
open Go.RowKit

/-- Does n lie between the two? -/
def rinB (n lo hi : Int) : Bool := decide (lo ≤ n) && decide (n ≤ hi)
theorem rin_any (n lo hi : Int) (w : World) : Calls Tryd.prog 10 #[.int .i64 n, .int .i64 lo, .int .i64 hi] w fun e w' => e = .returned (.bool (rinB n lo hi)) ∧ w' = w := by
  by_cases h : lo ≤ n
  · go_enter Tryd.func10, Tryd.ntmps10
    go_wp2
    go_ret
    exact ⟨ret_bool (by simp [rinB, h]), rfl⟩
  · have hd : decide (lo ≤ n) = false := by simpa using h
    go_enter Tryd.func10, Tryd.ntmps10
    go_wp2
    go_ret
    exact ⟨ret_bool (by simp [rinB, hd]), rfl⟩
theorem rin_yes (n lo hi : Int) (w : World) (h1 : lo ≤ n) (h2 : n ≤ hi) : Calls Tryd.prog 10 #[.int .i64 n, .int .i64 lo, .int .i64 hi] w fun e w' => e = .returned (.bool true) ∧ w' = w :=
  (rin_any n lo hi w).mono fun _ _ ⟨he, hw⟩ => ⟨by rw [he]; simp [rinB, h1, h2], hw⟩

/-- Period as the reference tells it. -/
def pdB (g : Nat → UInt8) (m k : Nat) : Bool := (List.range m).all fun i => decide (i < k) || (g i == g (i - k))
theorem pdB_iff {g : Nat → UInt8} {m k : Nat} : pdB g m k = true ↔ Pd g m k := by
  simp only [pdB, Pd, List.all_eq_true, List.mem_range, Bool.or_eq_true, decide_eq_true_eq, beq_iff_eq]
  exact ⟨fun h i h1 h2 => (h i h2).resolve_left (by omega), fun h i h2 => by
    by_cases hk : i < k
    · exact .inl hk
    · exact .inr (h i (by omega) h2)⟩
theorem pdB_no {g : Nat → UInt8} {m k i : Nat} (h1 : k ≤ i) (h2 : i < m) (h : g i ≠ g (i - k)) : pdB g m k = false := by
  rw [← Bool.not_eq_true, pdB_iff]
  exact fun hp => h (hp i h1 h2)

set_option maxHeartbeats 400000 in
theorem period_any (s : ByteArray) (k : Nat) (w : World) (hs : s.size ≤ 1099511627776) (hk0 : 1 ≤ k) (hk1 : k ≤ s.size) :
    Calls Tryd.prog 5 #[.string s, .int .i64 k] w fun e w' => e = .returned (.bool (pdB (sg s) s.size k)) ∧ ∃ q, w' = w.drewN q := by
  have HI := fun w => hid (rin_yes k 1 s.size w (by omega) (by omega))
  go_enter Tryd.func5, Tryd.ntmps5
  go_wp2_with fail
  refine (HI _).out.mono ?_
  rintro e w' ⟨rfl, rfl⟩
  clear HI
  go_wp2
  go_loopw [5] (fun v wr => ∃ i q : Nat, k ≤ i ∧ i ≤ s.size ∧ v = .int .i64 i ∧ Hid (∀ j, k ≤ j → j < i → sg s j = sg s (j - k)) ∧ wr = w'.drewN q) (fun v _ => s.size - (intOf v).toNat)
  case atStart => exact ⟨k, 0, Nat.le_refl _, hk1, rfl, hid (fun j h1 h2 => absurd h2 (by omega)), rfl⟩
  case round =>
    obtain ⟨i, q, hi0, hi1, rfl, HK, rfl⟩ := hrel
    by_cases hlt : i < s.size
    · have e1 : ((i : Int) - (k : Int)).toNat = i - k := by omega
      have e2 : 0 ≤ (i : Int) - (k : Int) := by omega
      have e3 : (i : Int) - (k : Int) < s.size := by omega
      have e4 : i - k < s.size := by omega
      by_cases he : sg s i = sg s (i - k)
      · have hq := byte_ne_false s i (i - k) hlt e4 he
        have HR : Hid (∀ j, k ≤ j → j < i + 1 → sg s j = sg s (j - k)) := hid fun j h1 h2 => by
          by_cases e : j = i
          · subst e; exact he
          · exact HK.out j h1 (by omega)
        clear he HK
        go_wp2
        go_quiet (fail)
        go_wp2
        go_roundw
        case rel => exact ⟨i + 1, _, by omega, by omega, by go_num, HR, by first | rfl | rw [World.drewN_drewN]⟩
        case measure => simp [intOf]; omega
      · have hq := byte_ne s i (i - k) hlt e4 he
        have HR := hid (pdB_no hi0 hlt he)
        clear he HK
        go_wp2
        go_quiet (fail)
        go_wp2
        go_ret
        exact ⟨ret_bool HR.out.symm, by first | exact ⟨_, rfl⟩ | (simp only [World.drewN_drewN]; exact ⟨_, rfl⟩)⟩
    · have HR : Hid (pdB (sg s) s.size k = true) := hid (pdB_iff.2 fun j h1 h2 => HK.out j h1 (by omega))
      clear HK
      go_wp2
      go_ret
      exact ⟨ret_bool HR.out.symm, _, rfl⟩
end Go.Proofs.YtlklhgapnenekaaDoor
