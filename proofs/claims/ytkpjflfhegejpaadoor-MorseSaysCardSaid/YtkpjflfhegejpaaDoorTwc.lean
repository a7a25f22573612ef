/-
  Contract of letterbeckref3.Twice: where something first stands twice (and begins once more, if that is asked), and how long it is. Conditions: a text of at most 200 bytes.
-/
import Derived.Test.YtkpjflfhegejpaaDoorBase
import Derived.Test.YtkpjflfhegejpaaDoorThueM
import Derived.Test.YtkpjflfhegejpaaDoorStr
namespace Go.Proofs.YtkpjflfhegejpaaDoor
open Go.RowKit

theorem fsq_end {s : List UInt8} {more : Bool} {i k : Nat} (h : NoSq s more i k) (hs : Sq s more i k) : ∃ a b : Int, a = (i : Int) ∧ b = (k : Int) ∧ FSq s more a b := ⟨_, _, rfl, rfl, noSq_some h hs⟩
set_option maxHeartbeats 8000000 in
set_option maxRecDepth 100000 in
theorem rtwice_any (s : ByteArray) (more : Bool) (w : World) (h : s.size ≤ 200) :
    Calls Tryd.prog 8 #[.string s, .bool more] w fun e w' => ∃ a b, e = .returned (.tuple #[.int .i64 a, .int .i64 b]) ∧ FSq (bs s) more a b ∧ Below w.heap.size w w' := by
  go_enter Tryd.func8, Tryd.ntmps8
  go_wp2_with fail
  go_loopw [6] (fun x wr => ∃ i : Nat, i ≤ s.size ∧ x = .int .i64 i ∧ Hid (NoSq (bs s) more i 1) ∧ Below w.heap.size w wr) (fun x _ => s.size - (intOf x).toNat)
  case atStart => exact ⟨0, Nat.zero_le _, rfl, hid (noSq_start _ _), Below.refl _ _⟩
  case round =>
    obtain ⟨i, hin, rfl, HN, hb⟩ := hrel
    by_cases hlt : i < s.size
    · obtain ⟨w0, hw0⟩ : ∃ z, z = wr := ⟨_, rfl⟩
      subst hw0
      go_wp2_with fail
      go_loopw [7] (fun x wr => ∃ k : Nat, 1 ≤ k ∧ i + 2 * k ≤ s.size + 2 ∧ x = .int .i64 k ∧ Hid (NoSq (bs s) more i k) ∧ Below w.heap.size w wr) (fun x _ => s.size + 3 - (intOf x).toNat)
      case atStart => exact ⟨1, by omega, by omega, rfl, HN, hb⟩
      case round =>
        clear HN hb
        obtain ⟨k, hk1, hk2, rfl, HN, hb⟩ := hrel
        by_cases hle : i + 2 * k ≤ s.size
        · obtain ⟨P, hP⟩ : ∃ P, P = i + k := ⟨_, rfl⟩
          obtain ⟨D, hD⟩ : ∃ D, D = 2 * k := ⟨_, rfl⟩
          obtain ⟨E, hE⟩ : ∃ E, E = i + 2 * k := ⟨_, rfl⟩
          have e1 : IntKind.i64.wrap ((i : Int) + (k : Int)) = (P : Int) := by rw [IntWalk.i64_in _ (by omega)]; omega
          have e2 : IntKind.i64.wrap (2 * (k : Int)) = (D : Int) := by rw [IntWalk.i64_in _ (by omega)]; omega
          have e3 : IntKind.i64.wrap ((i : Int) + (D : Int)) = (E : Int) := by rw [IntWalk.i64_in _ (by omega)]; omega
          have hcut1 : ∀ W : World, Sem.run Tryd.prog (Instr.slice 9 (.string s) (some (.int .i64 (i : Int))) (some (.int .i64 (P : Int))) none) W = .ok (.string (s.extract i P)) W := fun W =>
            run_slice_string W 9 s .i64 .i64 (i : Int) (P : Int) Tryd.underlying9 (by omega) (by omega) (by omega)
          have hcut2 : ∀ W : World, Sem.run Tryd.prog (Instr.slice 9 (.string s) (some (.int .i64 (P : Int))) (some (.int .i64 (E : Int))) none) W = .ok (.string (s.extract P E)) W := fun W =>
            run_slice_string W 9 s .i64 .i64 (P : Int) (E : Int) Tryd.underlying9 (by omega) (by omega) (by omega)
          have hpart := part_same s i k hle
          rw [← hP, ← hE] at hpart
          have hsf := sq_false s i k
          have hst := sq_true s i k
          rw [← hE] at hsf hst
          have hEl : E ≤ s.size := by omega
          have hin2 : (i : Int) < (s.size : Int) := by omega
          have hNx := fun hn => hid (noSq_next HN.out hn)
          have hEnd := fun hs => noSq_some HN.out hs
          have hkN : i + 2 * (k + 1) ≤ s.size + 2 := by omega
          have hk200 : k ≤ 200 := by omega
          clear hP hD hE HN
          by_cases hx : s.extract i P = s.extract P E
          · have hall := hpart.1 hx
            have hsame := same_yes hx
            clear hx hpart
            generalize s.extract i P = x1 at hcut1 hsame
            generalize s.extract P E = x2 at hcut2 hsame
            cases hm : more with
            | false =>
              have hnot : (!more) = true := by rw [hm]; rfl
              have hF := hEnd (by rw [hm]; exact hsf.2 ⟨hk1, hEl, hall⟩)
              have HF := hid hF
              clear hm hF hall hNx hEnd hsf hst
              go_wp2_with fail
              go_quiet (fail)
              go_wp2_with fail
              go_ret2
              exact ⟨_, _, rfl, HF.out, below_drewN hb _⟩
            | true =>
              have hnot : (!more) = false := by rw [hm]; rfl
              by_cases hEs : E < s.size
              · have hEi : (E : Int) < (s.size : Int) := by omega
                by_cases hq : sg s E = sg s i
                · have hF := hEnd (by rw [hm]; exact hst.2 ⟨hk1, hEs, hall, hq⟩)
                  have HF := hid hF
                  have hqb := byte_eq s E i hEs hlt hq
                  clear hm hF hall hNx hEnd hsf hst hq
                  go_wp2_with fail
                  go_quiet (fail)
                  go_wp2_with fail
                  go_ret2
                  exact ⟨_, _, rfl, HF.out, below_drewN hb _⟩
                · have HX := hNx (by rw [hm]; exact fun h => hq (hst.1 h).2.2.2)
                  rw [hm] at HX
                  have hqb := byte_eq_false s E i hEs hlt hq
                  clear hm hall hNx hEnd hsf hst hq
                  go_wp2_with fail
                  go_quiet (fail)
                  go_wp2_with fail
                  go_roundw
                  case rel => exact ⟨k + 1, by omega, hkN, by go_num, HX, below_drewN hb _⟩
                  case measure => simp [intOf]; omega
              · have HX := hNx (by rw [hm]; exact fun h => hEs (hst.1 h).2.1)
                rw [hm] at HX
                have hdE : decide ((E : Int) < (s.size : Int)) = false := decide_eq_false (by omega)
                clear hm hall hNx hEnd hsf hst
                go_wp2_with fail
                go_quiet (fail)
                go_wp2_with fail
                go_roundw
                case rel => exact ⟨k + 1, by omega, hkN, by go_num, HX, below_drewN hb _⟩
                case measure => simp [intOf]; omega
          · have hsame := same_no hx
            have HX := hNx (fun h => hx (hpart.2 (by
              cases hm : more with
              | false => rw [hm] at h; exact (hsf.1 h).2.2
              | true => rw [hm] at h; exact (hst.1 h).2.2.1)))
            clear hx hpart hNx hEnd hsf hst
            generalize s.extract i P = x1 at hcut1 hsame
            generalize s.extract P E = x2 at hcut2 hsame
            go_wp2_with fail
            go_quiet (fail)
            go_wp2_with fail
            go_roundw
            case rel => exact ⟨k + 1, by omega, hkN, by go_num, HX, below_drewN hb _⟩
            case measure => simp [intOf]; omega
        · have HX := hid (noSq_place HN.out (by rw [bs_len]; omega))
          have hle2 : ¬ (i : Int) + 2 * (k : Int) ≤ (s.size : Int) := by omega
          clear HN
          go_wp2_with fail
          go_roundw
          case rel => exact ⟨i + 1, by omega, by go_num, HX, hb⟩
          case measure => simp [intOf]; omega
    · have HF := hid (noSq_none HN.out (by rw [bs_len]; omega))
      clear HN
      go_wp2_with fail
      go_ret2
      exact ⟨_, _, rfl, HF.out, hb⟩
end Go.Proofs.YtkpjflfhegejpaaDoor
