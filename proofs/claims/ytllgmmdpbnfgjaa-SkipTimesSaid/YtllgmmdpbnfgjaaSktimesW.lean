/-
  The walk of SkipTimes: it returns true for every text and word, and leaves the old memory alone. No condition but the row's own sizes.
-/
import Derived.Test.YtllgmmdpbnfgjaaSkfact
import Derived.Test.YtllgmmdpbnfgjaaIn
namespace Go.Proofs.Ytllgmmdpbnfgjaa
open Go.RowKit

theorem sktimes_bad (t u : ByteArray) (k : Int) (w : World) (h : BadW t u k) (ht : t.size ≤ maxLen) (hu : u.size ≤ maxLen) :
    Calls Try.prog 4 #[.string t, .string u] w fun e w' => e = .returned (.bool true) ∧ Below w.heap.size w w' := by
  have HF := fun w => hid (first_bad t u k w h ht hu)
  unfold maxLen at ht hu
  clear h
  go_enter Try.func4, Try.ntmps4
  go_wp2_with fail
  refine (skfact_any _).mono ?_
  rintro e w1 ⟨rfl, hb1⟩
  go_wp2_with fail
  refine (HF _).out.mono ?_
  rintro e w2 ⟨rfl, rfl⟩
  go_wp2
  go_ret
  exact ⟨rfl, hb1⟩

/-- Text and word have no sign in common, as far as the law has looked. -/
def FarTo (f g : Nat → UInt8) (m i j : Nat) : Prop := (∀ a, a < i → ∀ b, b < m → f a ≠ g b) ∧ ∀ b, b < j → f i ≠ g b
theorem farTo_start (f g : Nat → UInt8) (m : Nat) : FarTo f g m 0 0 := ⟨fun a ha => by omega, fun b hb => by omega⟩
theorem farTo_sign {f g : Nat → UInt8} {m i j : Nat} (h : FarTo f g m i j) (hne : f i ≠ g j) : FarTo f g m i (j + 1) :=
  ⟨h.1, fun b hb => by
    by_cases e : b = j
    · subst e; exact hne
    · exact h.2 b (by omega)⟩
theorem farTo_next {f g : Nat → UInt8} {m i : Nat} (h : FarTo f g m i m) : FarTo f g m (i + 1) 0 :=
  ⟨fun a ha b hb => by
    by_cases e : a = i
    · subst e; exact h.2 b hb
    · exact h.1 a (by omega) b hb, fun b hb => by omega⟩
theorem two_eq (s t : ByteArray) (a b : Nat) (ha : a < s.size) (hb : b < t.size) (h : sg s a = sg t b) : ((s[a].toNat : Int) != (t[b].toNat : Int)) = false := by
  rw [sg_eq s a ha, sg_eq t b hb] at h; simp [h]
theorem two_ne (s t : ByteArray) (a b : Nat) (ha : a < s.size) (hb : b < t.size) (h : sg s a ≠ sg t b) : ((s[a].toNat : Int) != (t[b].toNat : Int)) = true := by
  rw [sg_eq s a ha, sg_eq t b hb] at h; simpa using byte_apart h

set_option maxHeartbeats 1600000 in
theorem sktimes_any (t u : ByteArray) (w : World) (h1 : t.size ≤ 24) (h2 : u.size ≤ 24) (h0 : 0 < u.size) :
    Calls Try.prog 4 #[.string t, .string u] w fun e w' => e = .returned (.bool true) ∧ Below w.heap.size w w' := by
  have HF := fun w => hid (first_any t u w h1 h2 h0)
  go_enter Try.func4, Try.ntmps4
  go_wp2_with fail
  refine (skfact_any _).mono ?_
  rintro e w1 ⟨rfl, hb1⟩
  go_wp2_with fail
  refine (HF _).out.mono ?_
  rintro e w2 ⟨a, k, rfl, hf, hb2⟩
  have hb2 := hb1.trans (hb2.mono hb1.size)
  obtain ⟨hT1, hT2⟩ := fst_times h0 hf
  have HR := fun h => hid (fst_far h0 h hf)
  clear hf hb1 HF
  by_cases hlt : t.size < u.size
  · obtain ⟨rfl, rfl⟩ := hT1 hlt
    have hd : (t.size : Int) < (u.size : Int) := by omega
    go_wp2
    go_ret
    exact ⟨rfl, hb2⟩
  · obtain ⟨hk1, hk2⟩ := hT2 (by omega)
    have hd : ¬ ((t.size : Int) < (u.size : Int)) := by omega
    have HI := fun w => hid (in_yes (k : Nat) 1 ((t.size : Int) - u.size + 1) w (by omega) (by omega))
    clear hT1 hT2
    go_wp2_with fail
    refine (HI _).out.mono ?_
    rintro e w3 ⟨rfl, rfl⟩
    clear HI
    go_wp2
    go_loopw [9, 10] (fun v x wr => ∃ (i q : Nat) (b : Bool), i ≤ t.size ∧ v = .bool b ∧ x = .int .i64 i ∧ Hid (b = true → FarTo (sg t) (sg u) u.size i 0) ∧ wr = w3.drewN q) (fun _ x _ => t.size - (intOf x).toNat)
    case atStart => exact ⟨0, 0, true, by omega, rfl, rfl, hid fun _ => farTo_start _ _ _, rfl⟩
    case round =>
      obtain ⟨i, q, b, hi, rfl, rfl, HB, rfl⟩ := hrel
      by_cases hlt2 : i < t.size
      · clear HR
        go_wp2
        go_loopw [9, 11] (fun v x wr => ∃ (j q : Nat) (b : Bool), j ≤ u.size ∧ v = .bool b ∧ x = .int .i64 j ∧ Hid (b = true → FarTo (sg t) (sg u) u.size i j) ∧ wr = w3.drewN q) (fun _ x _ => u.size - (intOf x).toNat)
        case atStart => exact ⟨0, q, b, by omega, rfl, rfl, HB, rfl⟩
        case round =>
          obtain ⟨j, q, b, hj, rfl, rfl, HB, rfl⟩ := hrel
          by_cases hlt3 : j < u.size
          · cases b with
            | true =>
              by_cases he : sg t i = sg u j
              · have hq := two_eq t u i j hlt2 hlt3 he
                clear he HB
                go_wp2
                go_quiet (fail)
                go_wp2
                go_roundw
                case rel => exact ⟨j + 1, _, false, by omega, by rfl, by go_num, hid (fun h => by cases h), by first | rfl | (simp only [World.drewN_drewN]; rfl)⟩
                case measure => simp [intOf]; omega
              · have hq := two_ne t u i j hlt2 hlt3 he
                have HN := hid (farTo_sign (HB.out rfl) he)
                clear he HB
                go_wp2
                go_quiet (fail)
                go_wp2
                go_roundw
                case rel => exact ⟨j + 1, _, true, by omega, by rfl, by go_num, hid (fun _ => HN.out), by first | rfl | (simp only [World.drewN_drewN]; rfl)⟩
                case measure => simp [intOf]; omega
            | false =>
              clear HB
              go_wp2
              go_quiet (fail)
              go_wp2
              go_roundw
              case rel => exact ⟨j + 1, _, false, by omega, by rfl, by go_num, hid (fun h => by cases h), by first | rfl | (simp only [World.drewN_drewN]; rfl)⟩
              case measure => simp [intOf]; omega
          · obtain rfl : j = u.size := by omega
            have HN : Hid (b = true → FarTo (sg t) (sg u) u.size (i + 1) 0) := hid fun h => farTo_next (HB.out h)
            clear HB
            go_wp2
            go_roundw
            case rel => exact ⟨i + 1, _, b, by omega, rfl, by go_num, HN, by first | rfl | trivial⟩
            case measure => simp [intOf]; omega
      · obtain rfl : i = t.size := by omega
        cases b with
        | true =>
          obtain ⟨rfl, hk⟩ := (HR (HB.out rfl).1).out
          have HQ : Hid ((t.size : Int) / (u.size : Int) = (k : Int)) := hid (by rw [hk]; simp)
          have hu1 : (1 : Int) ≤ (u.size : Int) := by omega
          clear HR HB hk
          go_wp2
          go_ret
          exact ⟨ret_bool (by rw [HQ.out, ← IntWalk.i64_left, IntWalk.i64_in _ (by omega)]; simp), below_drewN hb2 _⟩
        | false =>
          clear HR HB
          go_wp2
          go_ret
          exact ⟨rfl, below_drewN hb2 _⟩
end Go.Proofs.Ytllgmmdpbnfgjaa
