/-
  Contract of rise.Fall: the length of the longest part that does not rise. Conditions: a list of at most 20 numbers from 0 to 1000, or what is wrong with it.
-/
import Derived.Test.YtmfpjbhgmcmceaaRpup
namespace Go.Proofs.Ytmfpjbhgmcmceaa
open Go.RowKit

theorem ltF (F : FuncId) (hF : F = 16) : TkC F (fun t x => decide (t < x)) := by
  subst hF
  refine ⟨fun _ _ => rfl, fun t x w => ?_⟩
  go_enter Try.func16, Try.ntmps16
  go_wp2_with fail
  go_ret
  exact ⟨ret_bool (by first | rfl | (rw [Bool.eq_iff_iff]; simp)), rfl⟩
set_option maxRecDepth 100000 in
theorem sfall_ok (A : Option Addr) (n c : Nat) (l : List Int) (w : World) (hl : IsInts w w.heap.size A n l) (hg : GoodR l) :
    Calls Try.prog 9 #[.slice A n c] w fun e w' => e = .returned (.tuple #[.int .i64 (lg geB l.reverse : Nat), .nilIface]) ∧ Below w.heap.size w w' := by
  have HC := hid (pileUp_ok 16 _ (ltF _ rfl) A n c l w hl hg)
  rw [fall_list hg] at HC
  clear hl hg
  generalize lg geB l.reverse = m at HC ⊢
  go_enter Try.func9, Try.ntmps9
  go_wp2_with fail
  refine HC.out.mono ?_
  rintro e w1 ⟨A', c', rfl, _, hb⟩
  clear HC
  go_wp2_with fail
  go_ret2
  exact ⟨rfl, hb⟩
set_option maxRecDepth 100000 in
theorem sfall_bad (A : Option Addr) (n c : Nat) (l : List Int) (k : Int) (w : World) (_hn : n ≤ maxLen) (hl : IsInts w w.heap.size A n l) (hk : BadR l k) :
    Calls Try.prog 9 #[.slice A n c] w fun e w' => e = .returned (.tuple #[.int .i64 0, .iface 42 (.int .i64 k)]) ∧ Below w.heap.size w w' := by
  have HC := hid (pileUp_bad 16 A n c l k w hl hk)
  clear hl hk
  go_enter Try.func9, Try.ntmps9
  go_wp2_with fail
  refine HC.out.mono ?_
  rintro e w1 ⟨rfl, hb⟩
  clear HC
  go_wp2_with fail
  go_ret2
  exact ⟨rfl, hb⟩
end Go.Proofs.Ytmfpjbhgmcmceaa
