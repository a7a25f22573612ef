/-
  Contracts of letterbeckref1.LeastTurn, Root and SameTurn: the first least rotation, the root's length, and whether one text is a rotation of the other. Conditions: texts of at most 24 bytes.
-/
import Derived.Test.YtojpapeomahegaaDoorLess
import Derived.Test.YtojpapeomahegaaDoorRturn
import Derived.Test.YtojpapeomahegaaDoorTsame
namespace Go.Proofs.YtojpapeomahegaaDoor
open Go.RowKit

set_option maxHeartbeats 800000 in
set_option maxRecDepth 100000 in
theorem rleast_any (s : ByteArray) (w : World) (h : s.size ≤ 24) :
    Calls Tryd.prog 5 #[.string s] w fun e w' => ∃ b : Nat, e = .returned (.int .i64 b) ∧ Lst (cy s) s.size b ∧ ∃ q, w' = w.drewN q := by
  have HN : Hid (s.size = 0 → Lst (cy s) s.size 0) := hid fun h0 => by rw [h0]; exact lst_none _
  go_enter Tryd.func5, Tryd.ntmps5
  go_wp2
  go_loopw [3, 4] (fun u v wr => ∃ b i : Nat, u = .int .i64 b ∧ v = .int .i64 i ∧ 1 ≤ i ∧ (i ≤ s.size ∨ i = 1) ∧ b < i ∧ Hid (LstTo (cy s) s.size i b) ∧ Hid (∃ q, wr = w.drewN q)) (fun _ v _ => s.size - (intOf v).toNat)
  case atStart => exact ⟨0, 1, rfl, rfl, by omega, by omega, by omega, hid (lstTo_one _ _), hid ⟨0, rfl⟩⟩
  case round =>
    obtain ⟨b, i, rfl, rfl, hi1, hi2, hbi, HL, HW⟩ := hrel
    by_cases hlt : i < s.size
    · have H1 := fun W => hid (rturn_any s i W (by omega) (by omega))
      have H2 := fun W => hid (rturn_any s b W (by omega) (by omega))
      have H3 := fun W => hid (before_any (turnS s i) (turnS s b) W (by rw [turn_size s i (by omega)]; omega) (by rw [turn_size s b (by omega)]; omega))
      have HX := hid (lx_turn (s := s) (i := i) (j := b) (by omega) (by omega))
      clear HN
      by_cases hl : Ls (cy s) s.size i b
      · have hq := lxB_yes (HX.out.2 hl)
        rw [hq] at H3
        have HR := hid (lstTo_yes HL.out hl)
        clear hl hq HX HL
        generalize turnS s i = t at H1 H3
        generalize turnS s b = u at H2 H3
        go_wp2_with fail
        refine (H1 _).out.mono ?_
        rintro e w1 ⟨rfl, q1, hw1⟩
        have HV1 : Hid (∃ q, w1 = w.drewN q) := hid (by
          obtain ⟨q, hw⟩ := HW.out
          rw [hw1, hw, World.drewN_drewN]
          exact ⟨_, rfl⟩)
        clear hw1 HW H1
        go_wp2_with fail
        refine (H2 _).out.mono ?_
        rintro e w2 ⟨rfl, q2, hw2⟩
        have HV2 : Hid (∃ q, w2 = w.drewN q) := hid (by
          obtain ⟨q, hw⟩ := HV1.out
          rw [hw2, hw, World.drewN_drewN]
          exact ⟨_, rfl⟩)
        clear hw2 HV1 H2
        go_wp2_with fail
        refine (H3 _).out.mono ?_
        rintro e w3 ⟨rfl, q3, hw3⟩
        have HV : Hid (∃ q, w3 = w.drewN q) := hid (by
          obtain ⟨q, hw⟩ := HV2.out
          rw [hw3, hw, World.drewN_drewN]
          exact ⟨_, rfl⟩)
        clear hw3 HV2 H3
        go_wp2
        go_roundw
        case rel => exact ⟨i, i + 1, rfl, by go_num, by omega, by omega, by omega, HR, HV⟩
        case measure => simp [intOf]; omega
      · have hq := lxB_no (fun hx => hl (HX.out.1 hx))
        rw [hq] at H3
        have HR := hid (lstTo_no HL.out hl)
        clear hl hq HX HL
        generalize turnS s i = t at H1 H3
        generalize turnS s b = u at H2 H3
        go_wp2_with fail
        refine (H1 _).out.mono ?_
        rintro e w1 ⟨rfl, q1, hw1⟩
        have HV1 : Hid (∃ q, w1 = w.drewN q) := hid (by
          obtain ⟨q, hw⟩ := HW.out
          rw [hw1, hw, World.drewN_drewN]
          exact ⟨_, rfl⟩)
        clear hw1 HW H1
        go_wp2_with fail
        refine (H2 _).out.mono ?_
        rintro e w2 ⟨rfl, q2, hw2⟩
        have HV2 : Hid (∃ q, w2 = w.drewN q) := hid (by
          obtain ⟨q, hw⟩ := HV1.out
          rw [hw2, hw, World.drewN_drewN]
          exact ⟨_, rfl⟩)
        clear hw2 HV1 H2
        go_wp2_with fail
        refine (H3 _).out.mono ?_
        rintro e w3 ⟨rfl, q3, hw3⟩
        have HV : Hid (∃ q, w3 = w.drewN q) := hid (by
          obtain ⟨q, hw⟩ := HV2.out
          rw [hw3, hw, World.drewN_drewN]
          exact ⟨_, rfl⟩)
        clear hw3 HV2 H3
        go_wp2
        go_roundw
        case rel => exact ⟨b, i + 1, rfl, by go_num, by omega, by omega, by omega, HR, HV⟩
        case measure => simp [intOf]; omega
    · have HR : Hid (Lst (cy s) s.size b) := hid (by
        by_cases h0 : s.size = 0
        · obtain rfl : b = 0 := by omega
          exact HN.out h0
        · have hL := HL.out
          rw [show i = s.size by omega] at hL
          exact lstTo_end hL)
      clear HL HN
      go_wp2
      go_ret
      exact ⟨b, rfl, HR.out, HW.out⟩

/-- A text value's length, for a loop's measure. -/
def lenOf : Value → Nat
  | .string t => t.size
  | _ => 0
set_option maxHeartbeats 1600000 in
set_option maxRecDepth 100000 in
theorem rroot_any (s : ByteArray) (w : World) (h : s.size ≤ 24) :
    Calls Tryd.prog 6 #[.string s] w fun e w' => ∃ r : Nat, e = .returned (.int .i64 r) ∧ Rt (cy s) s.size r ∧ w' = w := by
  go_enter Tryd.func6, Tryd.ntmps6
  go_wp2
  go_loopw [3] (fun v wr => ∃ k : Nat, v = .int .i64 k ∧ 1 ≤ k ∧ (k ≤ s.size ∨ k = 1) ∧ Hid (∀ j, 0 < j → j < k → ¬ Rep s j) ∧ wr = w) (fun v _ => s.size - (intOf v).toNat)
  case atStart => exact ⟨1, rfl, by omega, by omega, hid (fun j h1 h2 => absurd h2 (by omega)), rfl⟩
  case round =>
    obtain ⟨k, rfl, hk1, hk2, HK, rfl⟩ := hrel
    by_cases hlt : k < s.size
    · have hcut : ∀ W : World, Sem.run Tryd.prog (Instr.slice 9 (.string s) none (some (.int .i64 (k : Int))) none) W = .ok (.string (s.extract 0 k)) W := fun W =>
        run_slice_string_h W 9 s Tryd.underlying9 .i64 (k : Int) (by omega) (by omega)
      have hz : (s.extract 0 k).size = k := by rw [ByteArray.size_extract]; omega
      go_wp2_with fail
      obtain ⟨wz, hwz⟩ : ∃ z, z = wr := ⟨_, rfl⟩
      subst hwz
      go_loopw [4] (fun u wr => ∃ (t : ByteArray) (m : Nat), u = .string t ∧ t.size < s.size + k ∧ Hid (IsTimes s t k m) ∧ wr = wz) (fun u _ => s.size - lenOf u)
      case atStart => exact ⟨ByteArray.empty, 0, rfl, by simp; omega, hid (times_zero s k), rfl⟩
      case round =>
        obtain ⟨t, m, rfl, ht, HT, rfl⟩ := hrel
        by_cases htl : t.size < s.size
        · have HR := hid (times_step (by omega) HT.out)
          have hsum := size_join t (s.extract 0 k)
          rw [hz] at hsum
          have hadd := fun W => run_string_add_sum (P := Tryd.prog) W t (s.extract 0 k) (by omega)
          generalize t ++ s.extract 0 k = t' at hadd HR hsum
          generalize s.extract 0 k = u at hadd hcut hz
          clear HT
          go_wp2
          go_roundw
          case rel => exact ⟨t', m + 1, rfl, by omega, HR, by first | rfl | trivial⟩
          case measure => simp [lenOf]; omega
        · have HI := hid (times_iff (by omega) (by omega) (by omega) HT.out (by omega) ht)
          clear HT hcut hz
          by_cases he : t = s
          · have HR := hid (rep_found (by omega) (by omega) (HI.out.1 he) HK.out)
            have hq := same_yes he
            clear he HI HK
            go_wp2
            go_ret
            exact ⟨k, rfl, HR.out, rfl⟩
          · have hq := same_no he
            have HR : Hid (∀ j, 0 < j → j < k + 1 → ¬ Rep s j) := hid fun j h1 h2 => by
              by_cases e : j = k
              · subst e; exact fun hr => he (HI.out.2 hr)
              · exact HK.out j h1 (by omega)
            clear he HI HK
            go_wp2
            go_roundw
            case rel => exact ⟨k + 1, by go_num, by omega, by omega, HR, by first | rfl | trivial⟩
            case measure => simp [intOf]; omega
    · have HR : Hid (Rt (cy s) s.size s.size) := hid (by
        by_cases h0 : s.size = 0
        · exact .inl ⟨h0, h0⟩
        · exact rep_found (by omega) (by omega) (rep_self s) fun j h1 h2 => HK.out j h1 (by omega))
      clear HK
      go_wp2
      go_ret
      exact ⟨s.size, rfl, HR.out, rfl⟩

set_option maxHeartbeats 800000 in
set_option maxRecDepth 100000 in
theorem rsame_any (a b : ByteArray) (w : World) (h : a.size ≤ 24) :
    Calls Tryd.prog 11 #[.string a, .string b] w fun e w' => ∃ r : Bool, e = .returned (.bool r) ∧ (r = true ↔ SameR a b) ∧ ∃ q, w' = w.drewN q := by
  by_cases hab : a = b
  · have hq := same_yes hab
    have HR : Hid (SameR a b) := hid (.inl hab)
    clear hab
    go_enter Tryd.func11, Tryd.ntmps11
    go_wp2
    go_ret
    exact ⟨true, rfl, ⟨fun _ => HR.out, fun _ => rfl⟩, 0, rfl⟩
  · have hq := same_no hab
    have HA := hid hab
    clear hab
    go_enter Tryd.func11, Tryd.ntmps11
    go_wp2
    go_loopw [5] (fun v wr => ∃ i : Nat, v = .int .i64 i ∧ i ≤ a.size ∧ Hid (∀ j, j < i → turnS a j ≠ b) ∧ Hid (∃ q, wr = w.drewN q)) (fun v _ => a.size - (intOf v).toNat)
    case atStart => exact ⟨0, rfl, by omega, hid (fun j hj => absurd hj (by omega)), hid ⟨0, rfl⟩⟩
    case round =>
      obtain ⟨i, rfl, hi, HK, HW⟩ := hrel
      by_cases hlt : i < a.size
      · have H1 := fun W => hid (rturn_any a i W (by omega) (by omega))
        clear hq
        by_cases he : turnS a i = b
        · have hq := same_yes he
          have HR : Hid (SameR a b) := hid (.inr ⟨i, hlt, he⟩)
          clear he HK
          generalize turnS a i = t at H1 hq
          go_wp2_with fail
          refine (H1 _).out.mono ?_
          rintro e w1 ⟨rfl, q1, hw1⟩
          have HV : Hid (∃ q, w1 = w.drewN q) := hid (by
            obtain ⟨q, hw⟩ := HW.out
            rw [hw1, hw, World.drewN_drewN]
            exact ⟨_, rfl⟩)
          clear hw1 HW H1
          go_wp2
          go_ret
          exact ⟨true, rfl, ⟨fun _ => HR.out, fun _ => rfl⟩, HV.out⟩
        · have hq := same_no he
          have HR : Hid (∀ j, j < i + 1 → turnS a j ≠ b) := hid fun j hj => by
            by_cases e : j = i
            · subst e; exact he
            · exact HK.out j (by omega)
          clear he HK
          generalize turnS a i = t at H1 hq
          go_wp2_with fail
          refine (H1 _).out.mono ?_
          rintro e w1 ⟨rfl, q1, hw1⟩
          have HV : Hid (∃ q, w1 = w.drewN q) := hid (by
            obtain ⟨q, hw⟩ := HW.out
            rw [hw1, hw, World.drewN_drewN]
            exact ⟨_, rfl⟩)
          clear hw1 HW H1
          go_wp2
          go_roundw
          case rel => exact ⟨i + 1, by go_num, by omega, HR, HV⟩
          case measure => simp [intOf]; omega
      · have HR : Hid (¬ SameR a b) := hid (by
          rintro (e | ⟨j, hj, e⟩)
          · exact HA.out e
          · exact HK.out j (by omega) e)
        clear HK
        go_wp2
        go_ret
        exact ⟨false, rfl, ⟨fun h => (by cases h), fun h => absurd h HR.out⟩, HW.out⟩
end Go.Proofs.YtojpapeomahegaaDoor
