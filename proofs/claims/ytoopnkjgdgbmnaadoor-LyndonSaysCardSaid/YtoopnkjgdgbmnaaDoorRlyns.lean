/-
  Contract of letterbeckref1.LyndonParts: the factors, each the longest Lyndon word with which the rest begins. Conditions: texts of at most 24 bytes.
-/
import Derived.Test.YtoopnkjgdgbmnaaDoorRlyn
import Derived.Test.YtoopnkjgdgbmnaaDoorOn
namespace Go.Proofs.YtoopnkjgdgbmnaaDoor
open Go.RowKit

theorem lyn_pre {t : ByteArray} {k : Nat} (h : k ≤ t.size) : Lyn (sg (t.extract 0 k)) (t.extract 0 k).size ↔ Lyn (sg t) k := by
  rw [show (t.extract 0 k).size = k by rw [ByteArray.size_extract]; omega]
  exact lyn_same fun x hx => by rw [sg_cut _ _ _ _ (by omega) (by omega), Nat.zero_add]
theorem lgw_start (f : Nat → UInt8) : Lgw f 1 1 := ⟨by omega, lyn_one f, fun m h1 h2 => by omega⟩
theorem lgw_yes {f : Nat → UInt8} {k : Nat} (hl : Lyn f k) : Lgw f k k := ⟨by omega, hl, fun m h1 h2 => by omega⟩
theorem lgw_no {f : Nat → UInt8} {k n m : Nat} (h : Lgw f n m) (hk : k = n + 1) (hl : ¬ Lyn f k) : Lgw f k m :=
  ⟨by have := h.1; omega, h.2.1, fun j h1 h2 => by
    by_cases e : j = k
    · subst e; exact hl
    · exact h.2.2 j h1 (by omega)⟩
/-- A text value's length, for a loop's measure. -/
def lenT : Value → Nat
  | .string t => t.size
  | _ => 0

set_option maxHeartbeats 1600000 in
set_option maxRecDepth 100000 in
theorem rparts_any (s : ByteArray) (w : World) (h : s.size ≤ 24) :
    Calls Tryd.prog 5 #[.string s] w fun e w' => ∃ v xs, e = .returned v ∧ Rest (sg s) s.size 0 xs ∧ OwnI w' w.heap.size 3 v xs ∧ Below w.heap.size w w' := by
  obtain ⟨i0, hi, hz0, hz1, hz2⟩ := info_parts int_info
  go_enter Tryd.func5, Tryd.ntmps5
  go_wp2
  go_loopw [0, 3] (fun u v wr => ∃ (t : ByteArray) (b : Nat) (xs : List Int), u = .string t ∧ b ≤ s.size ∧ t.size ≤ 24 ∧ Hid (t.size = s.size - b) ∧ Hid (∀ x, b + x < s.size → sg t x = sg s (b + x)) ∧ xs.length ≤ b ∧ Hid (∀ l, Rest (sg s) s.size b l → Rest (sg s) s.size 0 (xs ++ l)) ∧ OwnI wr w.heap.size 3 v xs ∧ Below w.heap.size w wr) (fun u _ _ => lenT u)
  case atStart => exact ⟨s, 0, [], rfl, by omega, by omega, hid (by omega), hid (fun x _ => by rw [Nat.zero_add]), by simp, hid (fun l hl => hl), OwnI.nil _ _ _, Below.refl _ _⟩
  case round =>
    obtain ⟨t, b, xs, rfl, hb, ht24, HZ, HT, hxb, HR, HO, hbw⟩ := hrel
    by_cases hlt : 0 < t.size
    · go_wp2_with fail
      obtain ⟨wz, hwz⟩ : ∃ z, z = wr := ⟨_, rfl⟩
      subst hwz
      go_loopw [4, 5] (fun u v wr => ∃ m k : Nat, u = .int .i64 m ∧ v = .int .i64 k ∧ 2 ≤ k ∧ k ≤ t.size + 1 ∧ Hid (Lgw (sg t) (k - 1) m) ∧ Hid (∃ q, wr = wz.drewN q)) (fun _ v _ => t.size + 1 - (intOf v).toNat)
      case atStart => exact ⟨1, 2, rfl, rfl, by omega, by omega, hid (lgw_start _), hid ⟨0, rfl⟩⟩
      case round =>
        obtain ⟨m, k, rfl, rfl, hk2, hkt, HM, HW⟩ := hrel
        have hm1 := HM.out.1
        have hm0 := HM.out.2.1.1
        by_cases hlk : k ≤ t.size
        · have hcut : ∀ W : World, Sem.run Tryd.prog (Instr.slice 9 (.string t) none (some (.int .i64 (k : Int))) none) W = .ok (.string (t.extract 0 k)) W := fun W =>
            run_slice_string_h W 9 t Tryd.underlying9 .i64 (k : Int) (by omega) (by omega)
          have hz : (t.extract 0 k).size = k := by rw [ByteArray.size_extract]; omega
          have H1 := fun W => hid (rlyn_any (t.extract 0 k) W (by omega))
          have HX := hid (lyn_pre hlk)
          clear HT HR HO hbw
          by_cases hl : Lyn (sg t) k
          · rw [lynB_yes (HX.out.2 hl)] at H1
            have HN : Hid (Lgw (sg t) (k + 1 - 1) k) := hid (lgw_yes hl)
            clear hl HX HM
            generalize t.extract 0 k = u at hcut H1 hz
            go_wp2_with fail
            refine (H1 _).out.mono ?_
            rintro e w1 ⟨rfl, q1, hw1⟩
            have HV : Hid (∃ q, w1 = wz.drewN q) := hid (by
              obtain ⟨q, hw⟩ := HW.out
              rw [hw1, hw, World.drewN_drewN]
              exact ⟨_, rfl⟩)
            clear hw1 HW H1
            go_wp2
            go_roundw
            case rel => exact ⟨k, k + 1, rfl, by go_num, by omega, by omega, HN, HV⟩
            case measure => simp [intOf]; omega
          · rw [lynB_no (fun hx => hl (HX.out.1 hx))] at H1
            have HN : Hid (Lgw (sg t) (k + 1 - 1) m) := hid (lgw_no HM.out (by omega) hl)
            clear hl HX HM
            generalize t.extract 0 k = u at hcut H1 hz
            go_wp2_with fail
            refine (H1 _).out.mono ?_
            rintro e w1 ⟨rfl, q1, hw1⟩
            have HV : Hid (∃ q, w1 = wz.drewN q) := hid (by
              obtain ⟨q, hw⟩ := HW.out
              rw [hw1, hw, World.drewN_drewN]
              exact ⟨_, rfl⟩)
            clear hw1 HW H1
            go_wp2
            go_roundw
            case rel => exact ⟨m, k + 1, rfl, by go_num, by omega, by omega, HN, HV⟩
            case measure => simp [intOf]; omega
        · have hts := HZ.out
          have hlg : Lgw (fun x => sg s (b + x)) (s.size - b) m := by
            have := HM.out
            rw [show k - 1 = s.size - b by omega] at this
            refine ⟨this.1, lyn_congr (fun x hx => HT.out x (by omega)) this.2.1, fun j h1 h2 h3 => this.2.2 j h1 h2 (lyn_congr (fun x hx => (HT.out x (by omega)).symm) h3)⟩
          have HS : Hid (∀ l, Rest (sg s) s.size (b + m) l → Rest (sg s) s.size 0 ((xs ++ [(m : Int)]) ++ l)) := hid (by
            intro l hl
            have := HR.out _ (.step (by omega) hlg hl)
            rw [List.append_assoc]; exact this)
          have HY : Hid ((xs ++ [(m : Int)]).length ≤ b + m) := hid (by rw [List.length_append]; simp; omega)
          have hy2 : xs.length ≤ 1099511627776 := by omega
          have hcut : ∀ W : World, Sem.run Tryd.prog (Instr.slice 9 (.string t) (some (.int .i64 (m : Int))) none none) W = .ok (.string (t.extract m t.size)) W := fun W =>
            run_slice_string_l W 9 t Tryd.underlying9 .i64 (m : Int) (by omega) (by omega)
          have hz : (t.extract m t.size).size = t.size - m := by rw [ByteArray.size_extract]; omega
          have HQ : Hid (∀ x, b + m + x < s.size → sg (t.extract m t.size) x = sg s (b + m + x)) := hid fun x hx => by
            rw [sg_cut _ _ _ _ (by omega) (by omega), HT.out _ (by omega), Nat.add_assoc]
          obtain ⟨q, hw⟩ := HW.out
          have HO1 := HO.drewN q
          have hb1 := below_drewN hbw q
          rw [← hw] at HO1 hb1
          clear hw
          have hsz := hb1.size
          have HZ2 : Hid ((t.extract m t.size).size = s.size - (b + m)) := hid (by omega)
          have hbm : b + m ≤ s.size := by omega
          clear HT HM hlg HR HO hbw HW hts HZ
          generalize t.extract m t.size = u at hcut hz HQ HZ2
          go_wp2_with (at_builtin; refine wpList_append_int _ rfl (.tmp 20) (.tmp 22) 23 rfl w.heap.size 3 i0 Tryd.underlying23 hi hz0 hz1 hz2 _ xs rfl HO1 (m : Int) rfl hy2 hsz ?_)
          intro v' w3 hown3 hb3
          go_wp2
          go_roundw
          case rel => exact ⟨u, b + m, xs ++ [(m : Int)], rfl, hbm, by omega, HZ2, HQ, HY.out, HS, hown3, hb1.trans hb3⟩
          case measure => simp [lenT]; omega
    · obtain rfl : b = s.size := by have := HZ.out; omega
      have HX := hid (HR.out [] .done)
      rw [List.append_nil] at HX
      clear HR HT
      go_wp2
      go_ret
      exact ⟨_, xs, rfl, HX.out, HO, hbw⟩
end Go.Proofs.YtoopnkjgdgbmnaaDoor
