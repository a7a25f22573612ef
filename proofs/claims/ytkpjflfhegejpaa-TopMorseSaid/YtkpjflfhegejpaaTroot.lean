/-
  Contract of turn.Root: it answers the length of the primitive root, and leaves the old memory alone. Conditions: none but the sizes that a row itself sets.
-/
import Derived.Test.YtkpjflfhegejpaaEdgeOf
import Derived.Test.YtkpjflfhegejpaaRot
namespace Go.Proofs.Ytkpjflfhegejpaa
open Go.RowKit

theorem root_long (s : ByteArray) (w : World) (h : 24 < s.size) (hs : s.size ≤ maxLen) :
    Calls Try.prog 16 #[.string s] w fun e w' => e = .returned (.tuple #[.int .i64 0, .iface 43 (.int .i64 4)]) ∧ w' = w := by
  have H1 := fun W => hid (of_long s W h hs)
  clear hs
  go_enter Try.func16, Try.ntmps16
  go_wp2_with fail
  refine (H1 _).out.mono ?_
  rintro e w1 ⟨rfl, hw1⟩
  subst w1
  go_wp2
  go_ret2
  exact ⟨rfl, rfl⟩
set_option maxHeartbeats 400000 in
theorem root_any (s : ByteArray) (w : World) (h : s.size ≤ 24) :
    Calls Try.prog 16 #[.string s] w fun e w' => ∃ r : Nat, e = .returned (.tuple #[.int .i64 r, .nilIface]) ∧ Rt (cy s) s.size r ∧ Below w.heap.size w w' := by
  have H1 := fun W => hid (of_any s W h)
  go_enter Try.func16, Try.ntmps16
  go_wp2_with fail
  refine (H1 _).out.mono ?_
  rintro e w1 ⟨rfl, ho, hb⟩
  clear H1
  by_cases h0 : s.size = 0
  · have HR : Hid (Rt (cy s) s.size 0) := hid (.inl ⟨h0, rfl⟩)
    clear ho
    go_wp2
    go_ret2
    exact ⟨0, rfl, HR.out, hb⟩
  · have hz : ((s.size : Int) == 0) = false := by simpa using h0
    have hn : 0 < s.size := by omega
    have hl := lon_lt (f := sg s) hn
    have hx : w1.cell? ⟨w.heap.size, s.size - 1, none⟩ = some (.int .i64 (lon (sg s) s.size : Nat)) := by
      have := IsInts.of_own ho
      obtain ⟨A, c, e1, _, hI⟩ := this
      rw [ofL_len] at hI e1
      obtain ⟨g, off, e2, _, hc⟩ := hI.2 (by omega)
      have := hc (s.size - 1) (by omega)
      rw [ofL_get _ _ _ (by omega), show s.size - 1 + 1 = s.size by omega] at this
      rw [e2] at e1
      injection e1 with e3 _ _
      injection e3 with e4
      injection e4 with e5 e6 _
      subst e5
      subst e6
      rw [Nat.zero_add] at this
      exact this
    have HY : Hid ((s.size - lon (sg s) s.size) ∣ s.size → Rt (cy s) s.size (s.size - lon (sg s) s.size)) := hid fun hd => root_yes hn hd
    have HN : Hid (¬ (s.size - lon (sg s) s.size) ∣ s.size → Rt (cy s) s.size s.size) := hid fun hd => root_no hn hd
    generalize lon (sg s) s.size = l at hl hx HY HN
    have g1 : ((s.size : Int) - 1).toNat = s.size - 1 := by omega
    have g2 : 0 ≤ (s.size : Int) - 1 := by omega
    have g3 : (s.size : Int) - 1 < s.size := by omega
    have g4 : ¬ ((s.size : Int) - (l : Int) = 0) := by omega
    clear ho h0
    by_cases hd : (s.size - l) ∣ s.size
    · have HR := hid (HY.out hd)
      have hm : (s.size : Int) % ((s.size : Int) - (l : Int)) = 0 := by
        have := Nat.mod_eq_zero_of_dvd hd
        have e : ((s.size - l : Nat) : Int) = (s.size : Int) - (l : Int) := by omega
        rw [← e, ← Int.natCast_emod, this]; rfl
      clear hd HY HN
      go_wp2
      go_ret2
      exact ⟨s.size - l, by rw [Int.ofNat_sub (by omega)]; rfl, HR.out, hb⟩
    · have HR := hid (HN.out hd)
      have hm : ¬ (s.size : Int) % ((s.size : Int) - (l : Int)) = 0 := by
        have : ¬ s.size % (s.size - l) = 0 := fun e => hd (Nat.dvd_of_mod_eq_zero e)
        have e : ((s.size - l : Nat) : Int) = (s.size : Int) - (l : Int) := by omega
        rw [← e, ← Int.natCast_emod]
        omega
      clear hd HY HN
      go_wp2
      go_ret2
      exact ⟨s.size, rfl, HR.out, hb⟩
end Go.Proofs.Ytkpjflfhegejpaa
