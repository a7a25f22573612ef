/-
  The walk of PeriodFine: it returns true for every text and every two numbers, and leaves the old memory alone. No condition but the row's own size.
-/
import Derived.Test.YtlklhgapnenekaaPrfact
import Derived.Test.YtlklhgapnenekaaIn
import Derived.Deep.QuietTactic
import Derived.BigQuiet
namespace Go.Proofs.Ytlklhgapnenekaa
open Go.RowKit

set_option maxHeartbeats 800000 in
theorem fine_long (s : ByteArray) (p q : Int) (w : World) (h : 24 < s.size) (hs : s.size ≤ maxLen) :
    Calls Try.prog 3 #[.string s, .int .i64 p, .int .i64 q] w fun e w' => e = .returned (.bool true) ∧ Below w.heap.size w w' := by
  have H1 := fun W => hid (has_long s p W h hs)
  have H2 := fun W => hid (has_long s q W h hs)
  unfold maxLen at hs
  go_enter Try.func3, Try.ntmps3
  go_wp2_with fail
  refine (prfact_any _).mono ?_
  rintro e w1 ⟨rfl, hb1⟩
  go_wp2_with fail
  refine (H1 _).out.mono ?_
  rintro e w2 ⟨rfl, hw2⟩
  subst w2
  go_wp2_with fail
  refine (H2 _).out.mono ?_
  rintro e w2 ⟨rfl, hw2⟩
  subst w2
  clear H1 H2
  go_wp2
  go_quiet (fail)
  go_wp2
  go_ret
  exact ⟨rfl, below_drewN hb1 _⟩

set_option maxHeartbeats 800000 in
theorem fine_not (s : ByteArray) (p q : Int) (w : World) (h : s.size ≤ 24) (hn : hasB s p = false ∨ hasB s q = false) :
    Calls Try.prog 3 #[.string s, .int .i64 p, .int .i64 q] w fun e w' => e = .returned (.bool true) ∧ Below w.heap.size w w' := by
  have H1 := fun W => hid (has_any s p W h)
  have H2 := fun W => hid (has_any s q W h)
  generalize hasB s p = x at H1 hn
  generalize hasB s q = y at H2 hn
  go_enter Try.func3, Try.ntmps3
  go_wp2_with fail
  refine (prfact_any _).mono ?_
  rintro e w1 ⟨rfl, hb1⟩
  go_wp2_with fail
  refine (H1 _).out.mono ?_
  rintro e w2 ⟨rfl, hw2⟩
  subst w2
  go_wp2_with fail
  refine (H2 _).out.mono ?_
  rintro e w2 ⟨rfl, hw2⟩
  subst w2
  clear H1 H2
  rcases x with _ | _
  · clear hn
    go_wp2
    go_quiet (fail)
    go_wp2
    go_ret
    exact ⟨rfl, below_drewN hb1 _⟩
  · obtain rfl : y = false := by simpa using hn
    clear hn
    go_wp2
    go_quiet (fail)
    go_wp2
    go_ret
    exact ⟨rfl, below_drewN hb1 _⟩

set_option maxHeartbeats 1600000 in
theorem fine_yes (s : ByteArray) (p q : Nat) (w : World) (h : s.size ≤ 24) (hp0 : 0 < p) (hp1 : p ≤ s.size) (hp : Pd (sg s) s.size p) (hq0 : 0 < q) (hq1 : q ≤ s.size) (hq : Pd (sg s) s.size q) :
    Calls Try.prog 3 #[.string s, .int .i64 p, .int .i64 q] w fun e w' => e = .returned (.bool true) ∧ Below w.heap.size w w' := by
  have H1 := fun W => hid (has_any s p W h)
  have H2 := fun W => hid (has_any s q W h)
  rw [hasB_iff.2 ⟨p, rfl, hp0, hp1, hp⟩] at H1
  rw [hasB_iff.2 ⟨q, rfl, hq0, hq1, hq⟩] at H2
  have H3 := fun W => hid (in_yes (p : Int) 1 (s.size : Int) W (by omega) (by omega))
  have H4 := fun W => hid (in_yes (q : Int) 1 (s.size : Int) W (by omega) (by omega))
  have HF := hid (fun hn => fine hp0 hq0 hp hq hn)
  have ⟨hg0, hg1⟩ := gcd_le (q := q) hp0 hp1
  have hg2 : Nat.gcd p q ≤ p := Nat.gcd_le_left _ hp0
  obtain ⟨g, hg⟩ : ∃ g, Nat.gcd p q = g := ⟨_, rfl⟩
  rw [hg] at HF hg0 hg1 hg2
  have HG := hid hg
  clear hg hp hq
  go_enter Try.func3, Try.ntmps3
  go_wp2_with fail
  refine (prfact_any _).mono ?_
  rintro e w1 ⟨rfl, hb1⟩
  go_wp2_with fail
  refine (H1 _).out.mono ?_
  rintro e w2 ⟨rfl, hw2⟩
  subst w2
  go_wp2_with fail
  refine (H2 _).out.mono ?_
  rintro e w2 ⟨rfl, hw2⟩
  subst w2
  go_wp2_with fail
  refine (H3 _).out.mono ?_
  rintro e w2 ⟨rfl, hw2⟩
  subst w2
  go_wp2_with fail
  refine (H4 _).out.mono ?_
  rintro e w2 ⟨rfl, hw2⟩
  subst w2
  clear H1 H2 H3 H4
  go_wp2
  go_loopw [12, 13] (fun a b wr => ∃ x y : Nat, x ≤ 24 ∧ y ≤ 24 ∧ a = .int .i64 x ∧ b = .int .i64 y ∧ Hid (Nat.gcd x y = g) ∧ wr = w1) (fun _ b _ => (intOf b).toNat)
  case atStart => exact ⟨p, q, by omega, by omega, rfl, rfl, HG, rfl⟩
  case round =>
    obtain ⟨x, y, hx, hy, rfl, rfl, HX, hwr⟩ := hrel
    subst wr
    by_cases hy0 : y = 0
    · subst hy0
      obtain rfl : x = g := by have := HX.out; rwa [Nat.gcd_zero_right] at this
      clear HX HG hx hy
      by_cases hlt : (s.size : Int) < (p : Int) + (q : Int) - (x : Int)
      · clear HF
        go_wp2
        go_ret
        exact ⟨rfl, hb1⟩
      · have H1 := fun W => hid (has_any s x W h)
        rw [hasB_iff.2 ⟨x, rfl, hg0, hg1, HF.out (by omega)⟩] at H1
        clear HF
        go_wp2_with fail
        refine (H1 _).out.mono ?_
        rintro e w2 ⟨rfl, hw2⟩
        subst w2
        go_wp2
        go_ret
        exact ⟨rfl, hb1⟩
    · have hy1 : 0 < y := by omega
      have hyz : ¬ ((y : Int) = 0) := by omega
      have hm : (x : Int) % (y : Int) = ((x % y : Nat) : Int) := (Int.natCast_emod x y).symm
      have hml := Nat.mod_lt x hy1
      have HN : Hid (Nat.gcd y (x % y) = g) := hid (by rw [← HX.out, Nat.gcd_comm x y, Nat.gcd_rec y x, Nat.gcd_comm])
      generalize x % y = z at hm hml HN
      clear hy0 HX HG HF
      go_wp2
      go_roundw
      case rel => exact ⟨y, z, by omega, by omega, rfl, by go_num, HN, by first | rfl | trivial⟩
      case measure => simp [intOf]; omega
theorem prfine_any (s : ByteArray) (p q : Int) (w : World) (hs : s.size ≤ maxLen) :
    Calls Try.prog 3 #[.string s, .int .i64 p, .int .i64 q] w fun e w' => e = .returned (.bool true) ∧ Below w.heap.size w w' := by
  by_cases h : 24 < s.size
  · exact fine_long s p q w h hs
  · by_cases h1 : hasB s p = true
    · by_cases h2 : hasB s q = true
      · obtain ⟨p, rfl, a1, a2, a3⟩ := hasB_iff.1 h1
        obtain ⟨q, rfl, b1, b2, b3⟩ := hasB_iff.1 h2
        exact fine_yes s p q w (by omega) a1 a2 a3 b1 b2 b3
      · exact fine_not s p q w (by omega) (.inr (by simpa using h2))
    · exact fine_not s p q w (by omega) (.inl (by simpa using h1))
end Go.Proofs.Ytlklhgapnenekaa
