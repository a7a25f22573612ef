/-
  The walk of SkipFinds: it returns true for every text and word, and leaves the old memory alone. No condition but the row's own sizes.
-/
import Derived.Test.YtllgmmdpbnfgjaaSkfact
import Derived.Test.YtllgmmdpbnfgjaaFind
namespace Go.Proofs.Ytllgmmdpbnfgjaa
open Go.RowKit

theorem skfinds_bad (t u : ByteArray) (k : Int) (w : World) (h : BadW t u k) (ht : t.size ≤ maxLen) (hu : u.size ≤ maxLen) :
    Calls Try.prog 3 #[.string t, .string u] w fun e w' => e = .returned (.bool true) ∧ Below w.heap.size w w' := by
  have HL := fun w => hid (fall_bad t u k w h ht hu)
  have HF := fun w => hid (first_bad t u k w h ht hu)
  unfold maxLen at ht hu
  clear h
  go_enter Try.func3, Try.ntmps3
  go_wp2_with fail
  refine (skfact_any _).mono ?_
  rintro e w1 ⟨rfl, hb1⟩
  go_wp2_with fail
  refine (HF _).out.mono ?_
  rintro e w2 ⟨rfl, rfl⟩
  go_wp2_with fail
  refine (HL _).out.mono ?_
  rintro e w3 ⟨rfl, rfl⟩
  go_wp2
  go_ret
  exact ⟨rfl, hb1⟩

set_option maxHeartbeats 800000 in
theorem skfinds_any (t u : ByteArray) (w : World) (h1 : t.size ≤ 24) (h2 : u.size ≤ 24) (h0 : 0 < u.size) :
    Calls Try.prog 3 #[.string t, .string u] w fun e w' => e = .returned (.bool true) ∧ Below w.heap.size w w' := by
  have HL := fun w => hid (fall_any t u w h1 h2 h0)
  have HF := fun w => hid (first_any t u w h1 h2 h0)
  have HX := fun a k (h : Fst (sg t) (sg u) t.size u.size a k) => fst_finds h0 h
  have hlen := occL_len t u
  generalize occL t u = xs at HL HX hlen
  go_enter Try.func3, Try.ntmps3
  go_wp2_with fail
  refine (skfact_any _).mono ?_
  rintro e w1 ⟨rfl, hb1⟩
  have hs1 := hb1.size
  go_wp2_with fail
  refine (HF _).out.mono ?_
  rintro e w2 ⟨a, k, rfl, hf, hb2⟩
  have HX := HX a k hf
  have hb2 := hb1.trans (hb2.mono hs1)
  have hs2 := hb2.size
  clear hf hb1 hs1 HF
  go_wp2_with fail
  refine (HL _).out.mono ?_
  rintro e w3 ⟨v, rfl, ho3, hb3⟩
  obtain ⟨A, c, rfl, _, hI⟩ := IsInts.of_own ho3
  have hb3 := hb2.trans (hb3.mono hs2)
  clear ho3 hb2 hs2 HL
  rcases HX with ⟨rfl, rfl⟩ | ⟨hp, hx, ha0, ha1, hk⟩
  · clear hI
    go_wp2
    go_ret
    exact ⟨rfl, hb3⟩
  · obtain ⟨g, off, rfl, _, hca⟩ := hI.2 hp
    have hx0 := hca 0 hp
    rw [← hx, Nat.add_zero] at hx0
    have hq : ((xs.length : Int) == 0) = false := beq_eq_false_iff_ne.2 (by omega)
    have hk1 : (1 : Int) ≤ (k : Int) := by omega
    clear hca hx hI
    go_wp2
    go_ret
    exact ⟨rfl, hb3⟩
end Go.Proofs.Ytllgmmdpbnfgjaa
