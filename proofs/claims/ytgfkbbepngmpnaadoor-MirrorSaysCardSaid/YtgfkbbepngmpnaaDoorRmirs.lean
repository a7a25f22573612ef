/-
  Contracts of letterbeckref1.Mirrors and letterbeckref1.LongMirror: how many palindromes have a place in their middle, and the longest one; nothing is changed. Conditions: a text of at most 24 bytes.
-/
import Derived.Test.YtgfkbbepngmpnaaDoorRmir
namespace Go.Proofs.YtgfkbbepngmpnaaDoor
open Go.RowKit

set_option maxHeartbeats 800000 in
set_option maxRecDepth 100000 in
theorem mirrors_odd (s : ByteArray) (at_ : Nat) (w : World) (h : s.size ≤ 24) (ha : at_ < s.size) :
    Calls Tryd.prog 5 #[.string s, .int .i64 at_, .bool false] w fun e w' => e = .returned (.int .i64 (oddN (sg s) s.size at_ : Nat)) ∧ ∃ q, w' = w.drewN q := by
  have HQ : Hid (∀ k, k < oddN (sg s) s.size at_ ↔ k ≤ at_ ∧ at_ + k + 1 ≤ s.size ∧ Pal (sg s) (at_ - k) (at_ + k + 1)) := hid fun k => odd_iff (sg s) ha
  have hbd := (odd_bound (sg s) ha).2.2
  generalize oddN (sg s) s.size at_ = o at HQ hbd
  go_enter Tryd.func5, Tryd.ntmps5
  go_wp2
  go_loopw [7, 8] (fun v t wr => ∃ n k q : Nat, v = .int .i64 n ∧ t = .int .i64 k ∧ k ≤ s.size ∧ n ≤ k ∧ Hid (n = min k o) ∧ wr = w.drewN q) (fun _ t _ => s.size - (intOf t).toNat)
  case atStart => exact ⟨0, 0, 0, rfl, rfl, by omega, by omega, hid (by omega), rfl⟩
  case round =>
    obtain ⟨n, k, q, rfl, rfl, hk, hnk, HN, rfl⟩ := hrel
    by_cases hlt : k < s.size
    · by_cases h1 : k ≤ at_
      · by_cases h2 : at_ + k + 1 ≤ s.size
        · have HM := fun W => hid (rmirror_cut s (at_ - k) (at_ + k + 1) W (by omega) (by omega) (by omega))
          have hcut : ∀ W : World, Sem.run Tryd.prog (Instr.slice 9 (.string s) (some (.int .i64 ((at_ : Int) - (k : Int)))) (some (.int .i64 ((at_ : Int) + (k : Int) + 1))) none) W = .ok (.string (s.extract (at_ - k) (at_ + k + 1))) W := fun W => by
            have := run_slice_string W 9 s .i64 .i64 ((at_ : Int) - (k : Int)) ((at_ : Int) + (k : Int) + 1) Tryd.underlying9 (by omega) (by omega) (by omega)
            rwa [show ((at_ : Int) - (k : Int)).toNat = at_ - k by omega, show ((at_ : Int) + (k : Int) + 1).toNat = at_ + k + 1 by omega] at this
          generalize s.extract (at_ - k) (at_ + k + 1) = u at HM hcut
          go_wp2_with fail
          refine (HM _).out.mono ?_
          rintro e w2 ⟨r, rfl, hr, q2, rfl⟩
          cases r with
          | true =>
            have hlo : k < o := (HQ.out k).2 ⟨h1, h2, hr.1 rfl⟩
            have HN2 : Hid (n + 1 = min (k + 1) o) := hid (by have := HN.out; omega)
            clear hr hcut HM HN
            go_wp2
            go_roundw
            case rel => exact ⟨n + 1, k + 1, _, by go_num, by go_num, by omega, by omega, HN2, by first | rfl | rw [World.drewN_drewN]⟩
            case measure => simp [intOf]; omega
          | false =>
            have hlo : ¬ k < o := fun h' => by have := hr.2 ((HQ.out k).1 h').2.2; cases this
            have HN2 : Hid (n = min (k + 1) o) := hid (by have := HN.out; omega)
            clear hr hcut HM HN
            go_wp2
            go_roundw
            case rel => exact ⟨n, k + 1, _, rfl, by go_num, by omega, by omega, HN2, by first | rfl | rw [World.drewN_drewN]⟩
            case measure => simp [intOf]; omega
        · have hlo : ¬ k < o := fun h' => h2 ((HQ.out k).1 h').2.1
          have HN2 : Hid (n = min (k + 1) o) := hid (by have := HN.out; omega)
          clear HN
          go_wp2
          go_roundw
          case rel => exact ⟨n, k + 1, _, rfl, by go_num, by omega, by omega, HN2, by first | rfl | trivial⟩
          case measure => simp [intOf]; omega
      · have hlo : ¬ k < o := fun h' => h1 ((HQ.out k).1 h').1
        have HN2 : Hid (n = min (k + 1) o) := hid (by have := HN.out; omega)
        clear HN
        go_wp2
        go_roundw
        case rel => exact ⟨n, k + 1, _, rfl, by go_num, by omega, by omega, HN2, by first | rfl | trivial⟩
        case measure => simp [intOf]; omega
    · have HR : Hid (n = o) := hid (by have := HN.out; omega)
      clear HN
      go_wp2
      go_ret
      exact ⟨ret_int (by rw [HR.out]), _, rfl⟩

set_option maxHeartbeats 800000 in
set_option maxRecDepth 100000 in
theorem mirrors_even (s : ByteArray) (at_ : Nat) (w : World) (h : s.size ≤ 24) (ha : at_ < s.size) :
    Calls Tryd.prog 5 #[.string s, .int .i64 at_, .bool true] w fun e w' => e = .returned (.int .i64 (evenN (sg s) s.size at_ : Nat)) ∧ ∃ q, w' = w.drewN q := by
  have HQ : Hid (∀ k, k < evenN (sg s) s.size at_ ↔ k + 1 ≤ at_ ∧ at_ + k + 1 ≤ s.size ∧ Pal (sg s) (at_ - k - 1) (at_ + k + 1)) := hid fun k => even_iff (sg s) ha
  have hbd := (even_bound (sg s) ha).2
  generalize evenN (sg s) s.size at_ = o at HQ hbd
  go_enter Tryd.func5, Tryd.ntmps5
  go_wp2
  go_loopw [7, 8] (fun v t wr => ∃ n k q : Nat, v = .int .i64 n ∧ t = .int .i64 k ∧ k ≤ s.size ∧ n ≤ k ∧ Hid (n = min k o) ∧ wr = w.drewN q) (fun _ t _ => s.size - (intOf t).toNat)
  case atStart => exact ⟨0, 0, 0, rfl, rfl, by omega, by omega, hid (by omega), rfl⟩
  case round =>
    obtain ⟨n, k, q, rfl, rfl, hk, hnk, HN, rfl⟩ := hrel
    by_cases hlt : k < s.size
    · by_cases h1 : k + 1 ≤ at_
      · by_cases h2 : at_ + k + 1 ≤ s.size
        · have HM := fun W => hid (rmirror_cut s (at_ - k - 1) (at_ + k + 1) W (by omega) (by omega) (by omega))
          have hcut : ∀ W : World, Sem.run Tryd.prog (Instr.slice 9 (.string s) (some (.int .i64 ((at_ : Int) - (k : Int) - 1))) (some (.int .i64 ((at_ : Int) + (k : Int) + 1))) none) W = .ok (.string (s.extract (at_ - k - 1) (at_ + k + 1))) W := fun W => by
            have := run_slice_string W 9 s .i64 .i64 ((at_ : Int) - (k : Int) - 1) ((at_ : Int) + (k : Int) + 1) Tryd.underlying9 (by omega) (by omega) (by omega)
            rwa [show ((at_ : Int) - (k : Int) - 1).toNat = at_ - k - 1 by omega, show ((at_ : Int) + (k : Int) + 1).toNat = at_ + k + 1 by omega] at this
          generalize s.extract (at_ - k - 1) (at_ + k + 1) = u at HM hcut
          go_wp2_with fail
          refine (HM _).out.mono ?_
          rintro e w2 ⟨r, rfl, hr, q2, rfl⟩
          cases r with
          | true =>
            have hlo : k < o := (HQ.out k).2 ⟨h1, h2, hr.1 rfl⟩
            have HN2 : Hid (n + 1 = min (k + 1) o) := hid (by have := HN.out; omega)
            clear hr hcut HM HN
            go_wp2
            go_roundw
            case rel => exact ⟨n + 1, k + 1, _, by go_num, by go_num, by omega, by omega, HN2, by first | rfl | rw [World.drewN_drewN]⟩
            case measure => simp [intOf]; omega
          | false =>
            have hlo : ¬ k < o := fun h' => by have := hr.2 ((HQ.out k).1 h').2.2; cases this
            have HN2 : Hid (n = min (k + 1) o) := hid (by have := HN.out; omega)
            clear hr hcut HM HN
            go_wp2
            go_roundw
            case rel => exact ⟨n, k + 1, _, rfl, by go_num, by omega, by omega, HN2, by first | rfl | rw [World.drewN_drewN]⟩
            case measure => simp [intOf]; omega
        · have hlo : ¬ k < o := fun h' => h2 ((HQ.out k).1 h').2.1
          have HN2 : Hid (n = min (k + 1) o) := hid (by have := HN.out; omega)
          clear HN
          go_wp2
          go_roundw
          case rel => exact ⟨n, k + 1, _, rfl, by go_num, by omega, by omega, HN2, by first | rfl | trivial⟩
          case measure => simp [intOf]; omega
      · have hlo : ¬ k < o := fun h' => h1 ((HQ.out k).1 h').1
        have HN2 : Hid (n = min (k + 1) o) := hid (by have := HN.out; omega)
        clear HN
        go_wp2
        go_roundw
        case rel => exact ⟨n, k + 1, _, rfl, by go_num, by omega, by omega, HN2, by first | rfl | trivial⟩
        case measure => simp [intOf]; omega
    · have HR : Hid (n = o) := hid (by have := HN.out; omega)
      clear HN
      go_wp2
      go_ret
      exact ⟨ret_int (by rw [HR.out]), _, rfl⟩

set_option maxHeartbeats 800000 in
set_option maxRecDepth 100000 in
theorem rlong_any (s : ByteArray) (w : World) (h : s.size ≤ 24) :
    Calls Tryd.prog 6 #[.string s] w fun e w' => ∃ a m : Nat, e = .returned (.tuple #[.int .i64 a, .int .i64 m]) ∧ Lgst (sg s) s.size a m ∧ ∃ q, w' = w.drewN q := by
  go_enter Tryd.func6, Tryd.ntmps6
  go_wp2
  go_loopw [4, 5, 6] (fun x y t wr => ∃ a m i q : Nat, x = .int .i64 a ∧ y = .int .i64 m ∧ t = .int .i64 i ∧ i ≤ s.size ∧ Hid (Upto (sg s) s.size i (i + 1) a m) ∧ wr = w.drewN q) (fun _ _ t _ => s.size - (intOf t).toNat)
  case atStart => exact ⟨0, 0, 0, 0, rfl, rfl, rfl, by omega, hid (upto_start _ _), rfl⟩
  case round =>
    obtain ⟨a, m, i, q, rfl, rfl, rfl, hi, HU, rfl⟩ := hrel
    by_cases hlt : i < s.size
    · go_wp2_with fail
      go_loopw [4, 5, 7] (fun x y t wr => ∃ a m k q : Nat, x = .int .i64 a ∧ y = .int .i64 m ∧ t = .int .i64 k ∧ i < k ∧ k ≤ s.size + 1 ∧ Hid (Upto (sg s) s.size i k a m) ∧ wr = w.drewN q) (fun _ _ t _ => s.size + 1 - (intOf t).toNat)
      case atStart => exact ⟨a, m, i + 1, q, rfl, rfl, by go_num, by omega, by omega, HU, rfl⟩
      case round =>
        clear HU
        obtain ⟨a, m, k, q, rfl, rfl, rfl, hik, hk, HU, rfl⟩ := hrel
        have hma := HU.out.1
        by_cases hks : k ≤ s.size
        · by_cases hgt : m < k - i
          · have d1 : (m : Int) < (k : Int) - (i : Int) := by omega
            have HM := fun W => hid (rmirror_cut s i k W (by omega) (by omega) (by omega))
            have hcut : ∀ W : World, Sem.run Tryd.prog (Instr.slice 9 (.string s) (some (.int .i64 (i : Int))) (some (.int .i64 (k : Int))) none) W = .ok (.string (s.extract i k)) W := fun W =>
              run_slice_string W 9 s .i64 .i64 (i : Int) (k : Int) Tryd.underlying9 (by omega) (by omega) (by omega)
            generalize s.extract i k = u at HM hcut
            go_wp2_with fail
            refine (HM _).out.mono ?_
            rintro e w2 ⟨r, rfl, hr, q2, rfl⟩
            cases r with
            | true =>
              have HU2 := hid (upto_yes HU.out hik hks hgt (hr.1 rfl))
              have e1 : (k : Int) - (i : Int) = ((k - i : Nat) : Int) := by omega
              clear hr hcut HM HU
              go_wp2
              go_roundw
              case rel => exact ⟨i, k - i, k + 1, _, rfl, by first | rfl | (rw [← e1]; rfl) | go_num, by go_num, by omega, by omega, HU2, by first | rfl | rw [World.drewN_drewN]⟩
              case measure => simp [intOf]; omega
            | false =>
              have HU2 := hid (upto_no HU.out fun hp => by have := hr.2 hp; cases this)
              clear hr hcut HM HU
              go_wp2
              go_roundw
              case rel => exact ⟨a, m, k + 1, _, rfl, rfl, by go_num, by omega, by omega, HU2, by first | rfl | rw [World.drewN_drewN]⟩
              case measure => simp [intOf]; omega
          · have d1 : ¬ ((m : Int) < (k : Int) - (i : Int)) := by omega
            have HU2 := hid (upto_no HU.out fun _ => by omega)
            clear HU
            go_wp2
            go_roundw
            case rel => exact ⟨a, m, k + 1, _, rfl, rfl, by go_num, by omega, by omega, HU2, by first | rfl | trivial⟩
            case measure => simp [intOf]; omega
        · have HU2 := hid (upto_next HU.out (by omega))
          clear HU
          go_wp2
          go_roundw
          case rel => exact ⟨a, m, i + 1, _, rfl, rfl, by go_num, by omega, HU2, by first | rfl | trivial⟩
          case measure => simp [intOf]; omega
    · have HL := hid (upto_end HU.out (by omega))
      clear HU
      go_wp2
      go_ret2
      exact ⟨a, m, rfl, HL.out, _, rfl⟩
end Go.Proofs.YtgfkbbepngmpnaaDoor
