/-
  Contracts of letterbeckref2.All between any two bounds, Lengths, Power and Room. Conditions: at most a thousand numbers; a power of two up to twelve; lengths up to twelve, at most ten of them.
-/
import Derived.Test.YtmfpjbhgmcmceaaDoorInr
import Derived.Test.YtmfpjbhgmcmceaaDoorHuf
import Derived.Test.YtmfpjbhgmcmceaaDoorHmem
namespace Go.Proofs.YtmfpjbhgmcmceaaDoor
open Go.RowKit

/-- Every number lies between two. -/
def InL (lo hi : Int) (l : List Int) : Prop := ∀ i, i < l.length → lo ≤ l.getD i 0 ∧ l.getD i 0 ≤ hi
set_option maxHeartbeats 1000000 in
theorem rallin_big (A : Option Addr) (n c : Nat) (l : List Int) (lo hi : Int) (w : World) (h : n ≤ 9223372036854775807) (hl : IsInts w w.heap.size A n l) :
    Calls Tryd.prog 15 #[.slice A n c, .int .i64 lo, .int .i64 hi] w fun e w' => ((InL lo hi l ∧ e = .returned (.bool true)) ∨ (¬ InL lo hi l ∧ e = .returned (.bool false))) ∧ w' = w := by
  have HI := hid hl
  have hls := hid hl.1
  clear hl
  go_enter Tryd.func15, Tryd.ntmps15
  go_wp2_with fail
  go_loopw [7] (fun x wr => ∃ i : Nat, i ≤ n ∧ x = .int .i64 i ∧ Hid (∀ j, j < i → lo ≤ l.getD j 0 ∧ l.getD j 0 ≤ hi) ∧ wr = w) (fun x _ => n - (intOf x).toNat)
  case atStart => exact ⟨0, by omega, rfl, hid (fun k hk => absurd hk (by omega)), rfl⟩
  case round =>
    obtain ⟨i, hin, rfl, HB, hwr⟩ := hrel
    subst hwr
    by_cases hlt : i < n
    · have hli : i < l.length := by rw [hls.out]; exact hlt
      obtain ⟨g, off, rfl, hg, hc⟩ := HI.out.2 (by omega)
      have c1 := hc i hlt
      by_cases hk : lo ≤ l.getD i 0 ∧ l.getD i 0 ≤ hi
      · have HB2 : Hid (∀ j, j < i + 1 → lo ≤ l.getD j 0 ∧ l.getD j 0 ≤ hi) := hid (fun j hj => by
          rcases Nat.lt_or_ge j i with h | h
          · exact HB.out j h
          · obtain rfl : j = i := by omega
            exact hk)
        have HN := fun W => hid (in2_yes (l.getD i 0) lo hi W hk.1 hk.2)
        generalize l.getD i 0 = K at c1 HN
        clear hk hli hc HB
        go_wp2_with fail
        refine (HN _).out.mono ?_
        rintro e w5 ⟨rfl, hw5⟩
        subst w5
        go_wp2_with fail
        go_roundw
        case rel => exact ⟨i + 1, by omega, by go_num, HB2, by first | rfl | trivial⟩
        case measure => simp [intOf]; omega
      · have HNB : Hid (¬ InL lo hi l) := hid (fun hB => hk (hB i hli))
        have HN := fun W => hid (in2_no (l.getD i 0) lo hi W hk)
        generalize l.getD i 0 = K at c1 HN
        clear hk hli hc HB
        go_wp2_with fail
        refine (HN _).out.mono ?_
        rintro e w5 ⟨rfl, hw5⟩
        subst w5
        go_wp2_with fail
        go_ret
        exact ⟨.inr ⟨HNB.out, rfl⟩, rfl⟩
    · obtain rfl : i = n := by omega
      have HBn : Hid (InL lo hi l) := hid (fun j hj => HB.out j (by rw [← hls.out]; exact hj))
      clear HB
      go_wp2_with fail
      go_ret
      exact ⟨.inl ⟨HBn.out, rfl⟩, rfl⟩
theorem rallin_any (A : Option Addr) (n c : Nat) (l : List Int) (lo hi : Int) (w : World) (h : n ≤ 1000) (hl : IsInts w w.heap.size A n l) :
    Calls Tryd.prog 15 #[.slice A n c, .int .i64 lo, .int .i64 hi] w fun e w' => ((InL lo hi l ∧ e = .returned (.bool true)) ∨ (¬ InL lo hi l ∧ e = .returned (.bool false))) ∧ w' = w := rallin_big A n c l lo hi w (by omega) hl
end Go.Proofs.YtmfpjbhgmcmceaaDoor
