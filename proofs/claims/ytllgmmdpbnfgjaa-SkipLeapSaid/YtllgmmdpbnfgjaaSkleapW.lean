/-
  The walk of SkipLeap: it returns true for every word and byte, and leaves the old memory alone. No condition but the row's own sizes.
-/
import Derived.Test.YtllgmmdpbnfgjaaSkfact
import Derived.Test.YtllgmmdpbnfgjaaIn
namespace Go.Proofs.Ytllgmmdpbnfgjaa
open Go.RowKit

theorem skleap_bad (u : ByteArray) (c : UInt8) (k : Int) (w : World) (h : BadW noT u k) (hu : u.size ≤ maxLen) :
    Calls Try.prog 5 #[.string u, .int .u8 (c.toNat : Int)] w fun e w' => e = .returned (.bool true) ∧ Below w.heap.size w w' := by
  have HF := fun w => hid (leap_bad u c k w h hu)
  unfold maxLen at hu
  clear h
  go_enter Try.func5, Try.ntmps5
  go_wp2_with fail
  refine (skfact_any _).mono ?_
  rintro e w1 ⟨rfl, hb1⟩
  go_wp2_with fail
  refine (HF _).out.mono ?_
  rintro e w2 ⟨rfl, rfl⟩
  go_wp2
  go_ret
  exact ⟨rfl, hb1⟩

theorem look_stay {g : Nat → UInt8} {c : UInt8} {k : Nat} (h : (look g c k).isSome = true) : (look g c (k + 1)).isSome = true := by
  by_cases e : g k = c
  · rw [look_hit e]; rfl
  · rw [look_miss e]; exact h
set_option maxHeartbeats 800000 in
theorem skleap_any (u : ByteArray) (c : UInt8) (w : World) (h2 : u.size ≤ 24) (h0 : 0 < u.size) :
    Calls Try.prog 5 #[.string u, .int .u8 (c.toNat : Int)] w fun e w' => e = .returned (.bool true) ∧ Below w.heap.size w w' := by
  have HF := fun w => hid (leap_any u c w h2 h0)
  have HI := fun n (hn1 : 1 ≤ n) (hn2 : n ≤ u.size) w => hid (in_yes (n : Nat) 1 (u.size : Nat) w (by omega) (by omega))
  have hp := lp_pos (g := sg u) (c := c) h0
  have hl := lp_le (sg u) u.size c
  have HI := HI _ hp hl
  have HE : Hid ((look (sg u) c (u.size - 1) = none ∧ lp (sg u) u.size c = u.size) ∨ ((look (sg u) c (u.size - 1)).isSome = true ∧ lp (sg u) u.size c < u.size ∧ sg u (u.size - 1 - lp (sg u) u.size c) = c)) := hid (by
    cases e : look (sg u) c (u.size - 1) with
    | none => exact .inl ⟨rfl, lp_none e⟩
    | some i =>
      have hi := look_some e
      have hlt : lp (sg u) u.size c < u.size := by rw [lp_some e]; omega
      exact .inr ⟨rfl, hlt, lp_hit hlt⟩)
  generalize lp (sg u) u.size c = n at HF HI hp hl HE
  go_enter Try.func5, Try.ntmps5
  go_wp2_with fail
  refine (skfact_any _).mono ?_
  rintro e w1 ⟨rfl, hb1⟩
  go_wp2_with fail
  refine (HF _).out.mono ?_
  rintro e w2 ⟨rfl, hb2⟩
  have hb2 := hb1.trans (hb2.mono hb1.size)
  clear hb1 HF
  go_wp2
  go_loopw [8, 9] (fun v x wr => ∃ i q : Nat, i ≤ u.size - 1 ∧ v = .bool (look (sg u) c i).isSome ∧ x = .int .i64 i ∧ wr = w2.drewN q) (fun _ x _ => u.size - (intOf x).toNat)
  case atStart => exact ⟨0, 0, by omega, rfl, rfl, rfl⟩
  case round =>
    obtain ⟨i, q, hi, rfl, rfl, rfl⟩ := hrel
    by_cases hlt : i + 1 < u.size
    · have hd : (i : Int) + 1 < (u.size : Int) := by omega
      have hix : i < u.size := by omega
      clear HE HI
      cases hb : (look (sg u) c i).isSome with
      | true =>
        have HN := hid (look_stay hb)
        clear hb
        go_wp2
        go_roundw
        case rel => exact ⟨i + 1, _, by omega, by rw [HN.out], by go_num, by first | rfl | (simp only [World.drewN_drewN]; rfl)⟩
        case measure => simp [intOf]; omega
      | false =>
        by_cases he : sg u i = c
        · have HN : Hid ((look (sg u) c (i + 1)).isSome = true) := hid (by rw [look_hit he]; rfl)
          obtain ⟨hq, _⟩ := byteC_eq u i c hix he
          clear hb he
          go_wp2
          go_roundw
          case rel => exact ⟨i + 1, _, by omega, by rw [HN.out], by go_num, by first | rfl | (simp only [World.drewN_drewN]; rfl)⟩
          case measure => simp [intOf]; omega
        · have HN : Hid ((look (sg u) c (i + 1)).isSome = false) := hid (by rw [look_miss he]; exact hb)
          obtain ⟨hq, _⟩ := byteC_ne u i c hix he
          clear hb he
          go_wp2
          go_roundw
          case rel => exact ⟨i + 1, _, by omega, by rw [HN.out], by go_num, by first | rfl | (simp only [World.drewN_drewN]; rfl)⟩
          case measure => simp [intOf]; omega
    · have hd : ¬ ((i : Int) + 1 < (u.size : Int)) := by omega
      obtain rfl : i = u.size - 1 := by omega
      rcases HE.out with ⟨h3, rfl⟩ | ⟨h3, h4, h5⟩
      · rw [h3]
        clear h3 HE
        go_wp2_with fail
        refine (HI _).out.mono ?_
        rintro e w3 ⟨rfl, rfl⟩
        go_wp2
        go_ret
        exact ⟨rfl, below_drewN hb2 _⟩
      · rw [h3]
        have hix : u.size - 1 - n < u.size := by omega
        have e1 : ((u.size : Int) - 1 - n).toNat = u.size - 1 - n := by omega
        have e2 : 0 ≤ (u.size : Int) - 1 - n := by omega
        have e3 : (u.size : Int) - 1 - n < u.size := by omega
        have hne : ((n : Int) == (u.size : Int)) = false := beq_eq_false_iff_ne.2 (by omega)
        obtain ⟨hq, _⟩ := byteC_eq u _ c hix h5
        clear h3 h5 HE
        go_wp2_with fail
        refine (HI _).out.mono ?_
        rintro e w3 ⟨rfl, rfl⟩
        go_wp2
        go_ret
        exact ⟨rfl, below_drewN hb2 _⟩
end Go.Proofs.Ytllgmmdpbnfgjaa
