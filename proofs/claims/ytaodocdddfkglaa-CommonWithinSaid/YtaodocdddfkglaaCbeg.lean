/-
  Contract of the method begin of common's table: the first places of the least sign with which a longest common text begins; the memory is only read. Conditions: the table as it stands full, the row's own sizes.
-/
import Derived.Test.YtaodocdddfkglaaBase
import Derived.Test.YtaodocdddfkglaaArr
import Derived.Test.YtaodocdddfkglaaCcm
namespace Go.Proofs.Ytaodocdddfkglaa
open Go.RowKit

theorem sign_eq_two {x y : ByteArray} {p q : Nat} (hx : p < x.size) (hy : q < y.size) (h : sg x p = sg y q) : ((x[p].toNat : Int) != (y[q].toNat : Int)) = false := by
  rw [sg_eq x p hx, sg_eq y q hy] at h; simp [h]
theorem sign_ne_two {x y : ByteArray} {p q : Nat} (hx : p < x.size) (hy : q < y.size) (h : sg x p ≠ sg y q) : ((x[p].toNat : Int) != (y[q].toNat : Int)) = true := by
  rw [sg_eq x p hx, sg_eq y q hy] at h; have := byte_apart h; simpa using this

theorem sign_less {x y : UInt8} (h : x < y) : x.toNat < y.toNat := UInt8.lt_iff_toNat_lt.1 h
theorem sign_not {x y : UInt8} (h : ¬ x < y) : ¬ x.toNat < y.toNat := fun h' => h (UInt8.lt_iff_toNat_lt.2 h')

set_option maxHeartbeats 4000000 in
theorem cbegin_any (g : Nat) (a b : ByteArray) (i j : Nat) (w : World) (ha : a.size ≤ 24) (hb : b.size ≤ 24) (hi : i ≤ a.size) (hj : j ≤ b.size) (hp : 0 < lcT a b i j) (hA : Arr w g 41 625 (lcF a b 0)) :
    Calls Try.prog 18 #[.pointer (some ⟨g, 0, none⟩), .string a, .string b, .int .i64 i, .int .i64 j] w fun e w' => ∃ x y : Nat, e = .returned (.tuple #[.int .i64 x, .int .i64 y]) ∧ Bg a b i j x y ∧ Below w.heap.size w w' := by
  have HP := hid hp
  have HA := hid hA
  have hc0 : w.cell? ⟨g, i * 25 + j, none⟩ = some (.int .i64 (lcT a b i j : Nat)) := by rw [Nat.mul_comm i 25, hA.cell (25 * i + j) (by omega), lcF_at (Nat.zero_le _) (by omega)]
  have hn0 := lcT_le a b i j
  clear hp hA
  go_enter Try.func18, Try.ntmps18
  go_wp2_with fail
  go_loopw [10, 11, 12, 13] (fun x y f p wr => ∃ (X Y : Nat) (F : Bool) (P q : Nat), x = .int .i64 X ∧ y = .int .i64 Y ∧ f = .bool F ∧ p = .int .i64 P ∧ i ≤ P ∧ P ≤ a.size ∧ Hid (BgTo a b i j P j F X Y) ∧ wr = w.drewN q) (fun _ _ _ p _ => a.size - (intOf p).toNat)
  case atStart => exact ⟨0, 0, false, i, 0, rfl, rfl, rfl, rfl, Nat.le_refl _, hi, hid (bgTo_start a b i j 0 0), rfl⟩
  case round =>
    obtain ⟨X, Y, F, P, r, rfl, rfl, rfl, rfl, hP, hPa, HB, rfl⟩ := hrel
    by_cases hlt : P < a.size
    · go_wp2_with fail
      go_loopw [10, 11, 12, 14] (fun x y f p wr => ∃ (X Y : Nat) (F : Bool) (Q q : Nat), x = .int .i64 X ∧ y = .int .i64 Y ∧ f = .bool F ∧ p = .int .i64 Q ∧ j ≤ Q ∧ Q ≤ b.size ∧ Hid (BgTo a b i j P Q F X Y) ∧ wr = w.drewN q) (fun _ _ _ p _ => b.size - (intOf p).toNat)
      case atStart => exact ⟨X, Y, F, j, r, rfl, rfl, rfl, rfl, Nat.le_refl _, hj, HB, rfl⟩
      case round =>
        clear HB
        obtain ⟨X, Y, F, Q, s, rfl, rfl, rfl, rfl, hQ, hQb, HB, rfl⟩ := hrel
        by_cases hlq : Q < b.size
        · by_cases he : sg a P = sg b Q
          · have hq1 := sign_eq_two hlt hlq he
            have hc1 : w.cell? ⟨g, P * 25 + Q, none⟩ = some (.int .i64 (lcT a b P Q : Nat)) := by rw [Nat.mul_comm P 25, HA.out.cell (25 * P + Q) (by omega), lcF_at (Nat.zero_le _) (by omega)]
            by_cases hle : lcT a b i j ≤ lcT a b P Q
            · have hfe : Fe a b i j P Q := ⟨hP, hQ, hlt, hlq, he, hle⟩
              have hnl := lcT_le a b P Q
              have hd : ¬ lcT a b P Q < lcT a b i j := by omega
              have k1 : (P : Int) < 25 := by omega
              have k2 : (Q : Int) < 25 := by omega
              have k3 : (i : Int) < 25 := by omega
              have k4 : (j : Int) < 25 := by omega
              cases F with
              | false =>
                have HN := hid (bgTo_first HB.out hfe)
                generalize lcT a b P Q = z at hc1 hnl hd
                generalize lcT a b i j = n at hc0 hn0 hd
                clear he HB hfe hle
                go_wp2_with fail
                go_quiet (fail)
                go_wp2_with fail
                go_quiet (fail)
                go_wp2_with fail
                go_roundw
                case rel => exact ⟨P, Q, true, Q + 1, _, rfl, rfl, rfl, by go_num, by omega, by omega, HN, by first | rfl | rw [World.drewN_drewN] | simp only [World.drewN_drewN]⟩
                case measure => simp [intOf]; omega
              | true =>
                have hX : X < a.size := (HB.out.yes rfl).1.2.2.1
                by_cases hl : sg a P < sg a X
                · have HN := hid (bgTo_less HB.out hfe hl)
                  have hs := sign_less hl
                  rw [sg_eq a P hlt, sg_eq a X hX] at hs
                  generalize lcT a b P Q = z at hc1 hnl hd
                  generalize lcT a b i j = n at hc0 hn0 hd
                  clear he HB hfe hle hl
                  go_wp2_with fail
                  go_quiet (fail)
                  go_wp2_with fail
                  go_quiet (fail)
                  go_wp2_with fail
                  go_roundw
                  case rel => exact ⟨P, Q, true, Q + 1, _, rfl, rfl, rfl, by go_num, by omega, by omega, HN, by first | rfl | rw [World.drewN_drewN] | simp only [World.drewN_drewN]⟩
                  case measure => simp [intOf]; omega
                · have HN := hid (bgTo_keep HB.out hl)
                  have hs := sign_not hl
                  rw [sg_eq a P hlt, sg_eq a X hX] at hs
                  generalize lcT a b P Q = z at hc1 hnl hd
                  generalize lcT a b i j = n at hc0 hn0 hd
                  clear he HB hfe hle hl
                  go_wp2_with fail
                  go_quiet (fail)
                  go_wp2_with fail
                  go_quiet (fail)
                  go_wp2_with fail
                  go_roundw
                  case rel => exact ⟨X, Y, true, Q + 1, _, rfl, rfl, rfl, by go_num, by omega, by omega, HN, by first | rfl | rw [World.drewN_drewN] | simp only [World.drewN_drewN]⟩
                  case measure => simp [intOf]; omega
            · have hnl := lcT_le a b P Q
              have HN := hid (bgTo_skip HB.out (fun k => hle k.2.2.2.2.2))
              have hd : lcT a b P Q < lcT a b i j := by omega
              generalize lcT a b P Q = z at hc1 hnl hd
              generalize lcT a b i j = n at hc0 hn0 hd
              have k1 : (P : Int) < 25 := by omega
              have k2 : (Q : Int) < 25 := by omega
              have k3 : (i : Int) < 25 := by omega
              have k4 : (j : Int) < 25 := by omega
              clear he HB hle
              go_wp2_with fail
              go_quiet (fail)
              go_wp2_with fail
              go_roundw
              case rel => exact ⟨X, Y, F, Q + 1, _, rfl, rfl, rfl, by go_num, by omega, by omega, HN, by first | rfl | rw [World.drewN_drewN]⟩
              case measure => simp [intOf]; omega
          · have hq1 := sign_ne_two hlt hlq he
            have HN := hid (bgTo_skip HB.out (fun k => he k.2.2.2.2.1))
            clear he HB
            go_wp2_with fail
            go_quiet (fail)
            go_wp2_with fail
            go_roundw
            case rel => exact ⟨X, Y, F, Q + 1, _, rfl, rfl, rfl, by go_num, by omega, by omega, HN, by first | rfl | rw [World.drewN_drewN]⟩
            case measure => simp [intOf]; omega
        · obtain rfl : Q = b.size := by omega
          have HN := hid (bgTo_row HB.out)
          clear HB
          go_wp2_with fail
          go_roundw
          case rel => exact ⟨X, Y, F, P + 1, s, rfl, rfl, rfl, by go_num, by omega, by omega, HN, rfl⟩
          case measure => simp [intOf]; omega
    · obtain rfl : P = a.size := by omega
      have HR := hid (bg_of HB.out HP.out)
      clear HB HP
      go_wp2_with fail
      go_ret2
      exact ⟨X, Y, rfl, HR.out, below_drewN (Below.refl _ _) _⟩
end Go.Proofs.Ytaodocdddfkglaa
