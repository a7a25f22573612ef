/-
  Contracts of rise.Piles and rise.Long: the tops of the piles, how many they are. Conditions: a list of at most 20 numbers from 0 to 1000, or what is wrong with it.
-/
import Derived.Test.YtlbefiaieehcfaaRpup
namespace Go.Proofs.Ytlbefiaieehcfaa
open Go.RowKit

theorem geF (F : FuncId) (hF : F = 19) : TkC F (fun t x => decide (x ≤ t)) := by
  subst hF
  refine ⟨fun _ _ => rfl, fun t x w => ?_⟩
  go_enter Try.func19, Try.ntmps19
  go_wp2_with fail
  go_ret
  exact ⟨ret_bool (by first | rfl | (rw [Bool.eq_iff_iff]; simp)), rfl⟩
set_option maxRecDepth 100000 in
theorem spiles_ok (A : Option Addr) (n c : Nat) (l : List Int) (w : World) (hl : IsInts w w.heap.size A n l) (hg : GoodR l) :
    Calls Try.prog 15 #[.slice A n c] w fun e w' => ∃ A' c', e = .returned (.tuple #[.slice A' (tops l.reverse).length c', .nilIface]) ∧ IsInts w' w'.heap.size A' (tops l.reverse).length (tops l.reverse) ∧ Below w.heap.size w w' := by
  have HC := hid (pileUp_ok 19 _ (geF _ rfl) A n c l w hl hg)
  rw [topsP_ge] at HC
  clear hl hg
  generalize tops l.reverse = T at HC ⊢
  go_enter Try.func15, Try.ntmps15
  go_wp2_with fail
  refine HC.out.mono ?_
  rintro e w1 ⟨A', c', rfl, hI, hb⟩
  have HI := hid hI
  clear hI HC
  go_wp2_with fail
  go_ret2
  exact ⟨_, _, rfl, HI.out, hb⟩
set_option maxRecDepth 100000 in
theorem spiles_bad (A : Option Addr) (n c : Nat) (l : List Int) (k : Int) (w : World) (_hn : n ≤ maxLen) (hl : IsInts w w.heap.size A n l) (hk : BadR l k) :
    Calls Try.prog 15 #[.slice A n c] w fun e w' => e = .returned (.tuple #[.slice none 0 0, .iface 40 (.int .i64 k)]) ∧ Below w.heap.size w w' := by
  have HC := hid (pileUp_bad 19 A n c l k w hl hk)
  clear hl hk
  go_enter Try.func15, Try.ntmps15
  go_wp2_with fail
  refine HC.out.mono ?_
  rintro e w1 ⟨rfl, hb⟩
  clear HC
  go_wp2_with fail
  go_ret2
  exact ⟨rfl, hb⟩
set_option maxRecDepth 100000 in
theorem slong_ok (A : Option Addr) (n c : Nat) (l : List Int) (w : World) (hl : IsInts w w.heap.size A n l) (hg : GoodR l) :
    Calls Try.prog 14 #[.slice A n c] w fun e w' => e = .returned (.tuple #[.int .i64 (lg ltB l.reverse : Nat), .nilIface]) ∧ Below w.heap.size w w' := by
  have HC := hid (spiles_ok A n c l w hl hg)
  rw [piles_list hg] at HC
  clear hl hg
  generalize lg ltB l.reverse = m at HC ⊢
  go_enter Try.func14, Try.ntmps14
  go_wp2_with fail
  refine HC.out.mono ?_
  rintro e w1 ⟨A', c', rfl, _, hb⟩
  clear HC
  go_wp2_with fail
  go_ret2
  exact ⟨rfl, hb⟩
set_option maxRecDepth 100000 in
theorem slong_bad (A : Option Addr) (n c : Nat) (l : List Int) (k : Int) (w : World) (_hn : n ≤ maxLen) (hl : IsInts w w.heap.size A n l) (hk : BadR l k) :
    Calls Try.prog 14 #[.slice A n c] w fun e w' => e = .returned (.tuple #[.int .i64 0, .iface 40 (.int .i64 k)]) ∧ Below w.heap.size w w' := by
  have HC := hid (spiles_bad A n c l k w _hn hl hk)
  clear hl hk
  go_enter Try.func14, Try.ntmps14
  go_wp2_with fail
  refine HC.out.mono ?_
  rintro e w1 ⟨rfl, hb⟩
  clear HC
  go_wp2_with fail
  go_ret2
  exact ⟨rfl, hb⟩
end Go.Proofs.Ytlbefiaieehcfaa
