/-
  Contract of letterbeckref1.Mirror: it answers whether a text reads the same from both ends, and changes nothing. Conditions: a text of at most 2^40 bytes.
-/
import Derived.Test.YtgfkbbepngmpnaaDoorBase
import Derived.Test.YtgfkbbepngmpnaaDoorPal
namespace Go.Proofs.YtgfkbbepngmpnaaDoor
open Go.RowKit

set_option maxHeartbeats 400000 in
theorem rmirror_any (s : ByteArray) (w : World) (hs : s.size ≤ 1099511627776) :
    Calls Tryd.prog 12 #[.string s] w fun e w' => ∃ r : Bool, e = .returned (.bool r) ∧ (r = true ↔ Pal (sg s) 0 s.size) ∧ ∃ q, w' = w.drewN q := by
  go_enter Tryd.func12, Tryd.ntmps12
  go_wp2
  go_loopw [3] (fun v wr => ∃ k q : Nat, v = .int .i64 k ∧ k ≤ s.size ∧ Hid (∀ x, x < k → sg s x = sg s (s.size - 1 - x)) ∧ wr = w.drewN q) (fun v _ => s.size - (intOf v).toNat)
  case atStart => exact ⟨0, 0, rfl, by omega, hid (fun x hx => absurd hx (by omega)), rfl⟩
  case round =>
    obtain ⟨k, q, rfl, hk, HK, rfl⟩ := hrel
    by_cases hlt : k < s.size
    · have hl1 : s.size - 1 - k < s.size := by omega
      have g1 : IntKind.i64.wrap ((s.size : Int) - 1) = ((s.size - 1 : Nat) : Int) := by rw [IntWalk.i64_in _ (by omega)]; omega
      have g2 : IntKind.i64.wrap (((s.size - 1 : Nat) : Int) - (k : Int)) = ((s.size - 1 - k : Nat) : Int) := by rw [IntWalk.i64_in _ (by omega)]; omega
      have g3 : ((s.size - 1 - k : Nat) : Int) < (s.size : Int) := by omega
      by_cases he : sg s k = sg s (s.size - 1 - k)
      · have hq1 := byte_ne_false s k (s.size - 1 - k) hlt hl1 he
        have HR : Hid (∀ x, x < k + 1 → sg s x = sg s (s.size - 1 - x)) := hid (fun x hx => by
          by_cases hxk : x = k
          · subst hxk; exact he
          · exact HK.out x (by omega))
        clear he HK
        go_wp2
        go_quiet (fail)
        go_wp2
        go_roundw
        case rel => exact ⟨k + 1, _, by go_num, by omega, HR, by first | rfl | rw [World.drewN_drewN]⟩
        case measure => simp [intOf]; omega
      · have hq1 := byte_ne s k (s.size - 1 - k) hlt hl1 he
        have HR : Hid (¬ Pal (sg s) 0 s.size) := hid (fun hp => he (hp k (s.size - 1 - k) (by omega) hlt (by omega) (by omega) (by omega)))
        clear he HK
        go_wp2
        go_quiet (fail)
        go_wp2
        go_ret
        exact ⟨false, rfl, ⟨fun h => (by cases h), fun h => absurd h HR.out⟩, by first | exact ⟨_, rfl⟩ | (simp only [World.drewN_drewN]; exact ⟨_, rfl⟩)⟩
    · have HR : Hid (Pal (sg s) 0 s.size) := hid (pal_of fun x hx => HK.out x (by omega))
      clear HK
      go_wp2
      go_ret
      exact ⟨true, rfl, ⟨fun _ => HR.out, fun _ => rfl⟩, _, rfl⟩

theorem pal_cut (s : ByteArray) (b e : Nat) (hb : b ≤ e) (he : e ≤ s.size) : Pal (sg (s.extract b e)) 0 (s.extract b e).size ↔ Pal (sg s) b e := by
  have hz : (s.extract b e).size = e - b := by rw [ByteArray.size_extract]; omega
  refine pal_congr (fun i hi => ?_) hz hb
  rw [sg_cut s b e i (by omega) (by omega)]
/-- The same, of a part of a text. -/
theorem rmirror_cut (s : ByteArray) (b e : Nat) (w : World) (hs : s.size ≤ 1099511627776) (hb : b ≤ e) (he : e ≤ s.size) :
    Calls Tryd.prog 12 #[.string (s.extract b e)] w fun x w' => ∃ r : Bool, x = .returned (.bool r) ∧ (r = true ↔ Pal (sg s) b e) ∧ ∃ q, w' = w.drewN q := by
  have hz : (s.extract b e).size = e - b := by rw [ByteArray.size_extract]; omega
  exact (rmirror_any (s.extract b e) w (by omega)).mono fun x w' ⟨r, h1, h2, h3⟩ => ⟨r, h1, h2.trans (pal_cut s b e hb he), h3⟩
theorem rmirror_yes (s : ByteArray) (b e : Nat) (w : World) (hs : s.size ≤ 1099511627776) (hb : b ≤ e) (he : e ≤ s.size) (hp : Pal (sg s) b e) :
    Calls Tryd.prog 12 #[.string (s.extract b e)] w fun x w' => x = .returned (.bool true) ∧ ∃ q, w' = w.drewN q :=
  (rmirror_cut s b e w hs hb he).mono fun x w' ⟨r, h1, h2, h3⟩ => ⟨by rw [h1, h2.2 hp], h3⟩
theorem rmirror_no (s : ByteArray) (b e : Nat) (w : World) (hs : s.size ≤ 1099511627776) (hb : b ≤ e) (he : e ≤ s.size) (hp : ¬ Pal (sg s) b e) :
    Calls Tryd.prog 12 #[.string (s.extract b e)] w fun x w' => x = .returned (.bool false) ∧ ∃ q, w' = w.drewN q :=
  (rmirror_cut s b e w hs hb he).mono fun x w' ⟨r, h1, h2, h3⟩ => ⟨by
    cases r
    · exact h1
    · exact absurd (h2.1 rfl) hp, h3⟩
end Go.Proofs.YtgfkbbepngmpnaaDoor
