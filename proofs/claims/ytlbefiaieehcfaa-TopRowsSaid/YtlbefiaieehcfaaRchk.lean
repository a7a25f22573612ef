/-
  Contract of rise.Check: what is wrong with a list. No condition.
-/
import Derived.Test.YtlbefiaieehcfaaBase
import Derived.Test.YtlbefiaieehcfaaRsgood
namespace Go.Proofs.Ytlbefiaieehcfaa
open Go.RowKit

set_option maxHeartbeats 1000000 in
theorem rcheck_any (A : Option Addr) (n c : Nat) (l : List Int) (w : World) (hl : IsInts w w.heap.size A n l) :
    Calls Try.prog 20 #[.slice A n c] w fun e w' => ((GoodR l ∧ e = .returned .nilIface) ∨ ∃ k, BadR l k ∧ e = .returned (.iface 40 (.int .i64 k))) ∧ w' = w := by
  have HN := hid hl.1
  have HL := hid hl
  have hlen := hl.1
  by_cases h10 : n ≤ 20
  · clear hl hlen
    have n2 : ¬ (20 < (n : Int)) := by omega
    go_enter Try.func20, Try.ntmps20
    go_wp2_with fail
    go_loopw [11] (fun x wr => ∃ i : Nat, i ≤ n ∧ x = .int .i64 i ∧ Hid (∀ j, j < i → 0 ≤ l.getD j 0 ∧ l.getD j 0 ≤ 1000) ∧ wr = w) (fun x _ => n - (intOf x).toNat)
    case atStart => exact ⟨0, by omega, rfl, hid (fun j hj => absurd hj (by omega)), rfl⟩
    case round =>
      obtain ⟨i, hin, rfl, HO, hw⟩ := hrel
      subst wr
      by_cases hlt : i < n
      · obtain ⟨g, off, rfl, hg, hc⟩ := HL.out.2 (by omega)
        have c1 := hc i hlt
        clear hc
        by_cases hr : 0 ≤ l.getD i 0 ∧ l.getD i 0 ≤ 1000
        · have HO2 : Hid (∀ j, j < i + 1 → 0 ≤ l.getD j 0 ∧ l.getD j 0 ≤ 1000) := hid (fun j hj => by
            rcases Nat.lt_or_ge j i with h | h
            · exact HO.out j h
            · obtain rfl : j = i := by omega
              exact hr)
          generalize l.getD i 0 = X at c1 hr
          have r1 : ¬ (X < 0) := by omega
          have r2 : ¬ (1000 < X) := by omega
          clear hr HO
          go_wp2_with fail
          go_roundw
          case rel => exact ⟨i + 1, by omega, by go_num, HO2, by first | rfl | trivial⟩
          case measure => simp [intOf]; omega
        · have HB : Hid (BadR l 1) := hid (.inr ⟨by have := HN.out; omega, rfl, i, by have := HN.out; omega, hr⟩)
          generalize l.getD i 0 = X at c1 hr
          have hX : X < 0 ∨ (¬ X < 0 ∧ 1000 < X) := by omega
          clear hr HO
          rcases hX with r1 | ⟨r1, r2⟩
          · go_wp2_with fail
            go_ret
            exact ⟨.inr ⟨1, HB.out, rfl⟩, by first | rfl | trivial⟩
          · go_wp2_with fail
            go_ret
            exact ⟨.inr ⟨1, HB.out, rfl⟩, by first | rfl | trivial⟩
      · obtain rfl : i = n := by omega
        have HG : Hid (GoodR l) := hid (goodR_of (by have := HN.out; omega) fun j hj => HO.out j (by have := HN.out; omega))
        clear HO
        go_wp2_with fail
        go_ret
        exact ⟨.inl ⟨HG.out, rfl⟩, by first | rfl | trivial⟩
  · have HB : Hid (BadR l 4) := hid (.inl ⟨by omega, rfl⟩)
    have n2 : 20 < (n : Int) := by omega
    clear HN HL hl hlen
    go_enter Try.func20, Try.ntmps20
    go_wp2_with fail
    go_ret
    exact ⟨.inr ⟨4, HB.out, rfl⟩, rfl⟩
theorem scheck_ok (A : Option Addr) (n c : Nat) (l : List Int) (w : World) (hl : IsInts w w.heap.size A n l) (hg : GoodR l) :
    Calls Try.prog 20 #[.slice A n c] w fun e w' => e = .returned .nilIface ∧ Below w.heap.size w w' :=
  (rcheck_any A n c l w hl).mono fun e w' ⟨h, hw⟩ => ⟨by
    rcases h with ⟨_, h⟩ | ⟨k, hk, _⟩
    · exact h
    · exact (goodR_not hg hk).elim, by rw [hw]; exact Below.refl _ _⟩
theorem scheck_bad (A : Option Addr) (n c : Nat) (l : List Int) (k : Int) (w : World) (_hn : n ≤ maxLen) (hl : IsInts w w.heap.size A n l) (hk : BadR l k) :
    Calls Try.prog 20 #[.slice A n c] w fun e w' => e = .returned (.iface 40 (.int .i64 k)) ∧ Below w.heap.size w w' :=
  (rcheck_any A n c l w hl).mono fun e w' ⟨h, hw⟩ => ⟨by
    rcases h with ⟨h, _⟩ | ⟨k', hk', h⟩
    · exact (goodR_not h hk).elim
    · rw [h, badR_one hk hk'], by rw [hw]; exact Below.refl _ _⟩
end Go.Proofs.Ytlbefiaieehcfaa
