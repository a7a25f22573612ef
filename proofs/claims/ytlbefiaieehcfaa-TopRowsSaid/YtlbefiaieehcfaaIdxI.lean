/-
  Contract of slices.IndexFunc over numbers with a function that tells and changes nothing of the old memory: the first place of which it says so, or -1. Conditions: at most 2^40 numbers.
-/
import Derived.Test.YtlbefiaieehcfaaBase
namespace Go.Proofs.Ytlbefiaieehcfaa
open Go.RowKit

set_option maxRecDepth 100000 in
set_option maxHeartbeats 2000000 in
theorem idxi_any (F : FuncId) (A : Option Addr) (n c : Nat) (caps : Array Value) (xs : List Int) (p : Int → Bool) (w : World) (hn : n ≤ 1099511627776) (hl : IsInts w w.heap.size A n xs)
    (hF : ∀ (args : Array Value) (W : World), Sem.run Try.prog (callFunc F args) W = .ok (.enter F args) W)
    (hp : ∀ (W : World) (x : Int), x ∈ xs → Below w.heap.size w W → Calls Try.prog F (#[.int .i64 x] ++ caps) W fun e w' => e = .returned (.bool (p x)) ∧ Below W.heap.size W w') :
    Calls Try.prog 21 #[.slice A n c, .func (.func F) #[] caps] w
      fun e w' => ((∃ k : Nat, k < n ∧ p (xs.getD k 0) = true ∧ (∀ t, t < k → p (xs.getD t 0) = false) ∧ e = .returned (.int .i64 (k : Int))) ∨ ((∀ t, t < n → p (xs.getD t 0) = false) ∧ e = .returned (.int .i64 (-1)))) ∧ Below w.heap.size w w' := by
  have HL := hid hl
  have HP := hid hp
  have hlen := hl.1
  have HLN := hid hlen
  clear hl hp hlen
  go_enter Try.func21, Try.ntmps21
  go_wp2_with fail
  go_loopw [5, 8] (fun _ x wr => ∃ t : Nat, t ≤ n ∧ x = .int .i64 t ∧ Hid (∀ s, s < t → p (xs.getD s 0) = false) ∧ Below w.heap.size w wr) (fun _ x _ => n - (intOf x).toNat)
  case atStart => exact ⟨0, by omega, rfl, hid (fun s hs => by omega), Below.refl _ _⟩
  case round =>
    obtain ⟨t, ht, rfl, HN, hb⟩ := hrel
    by_cases hlt : t < n
    · obtain ⟨g, off, rfl, hg, hc⟩ := HL.out.2 (by omega)
      have c1 := (hb.cell hg).trans (hc t hlt)
      have hmem : xs.getD t 0 ∈ xs := by
        rw [List.getD_eq_getElem?_getD, List.getElem?_eq_getElem (by rw [HLN.out]; exact hlt)]
        exact List.getElem_mem _
      have HC := hid (HP.out wr _ hmem hb)
      obtain ⟨X, hX⟩ : ∃ X, X = xs.getD t 0 := ⟨_, rfl⟩
      rw [← hX] at c1 HC
      have HXX := hid hX
      clear hmem hX hc
      cases hq : p X with
      | true =>
        rw [hq] at HC
        have HQ := hid hq
        clear hq
        go_wp2_with fail
        refine HC.out.mono ?_
        rintro e w2 ⟨rfl, hb2⟩
        go_wp2_with fail
        go_ret
        exact ⟨.inl ⟨t, hlt, by rw [← HXX.out]; exact HQ.out, HN.out, rfl⟩, hb.trans (hb2.mono hb.size)⟩
      | false =>
        rw [hq] at HC
        have HQ := hid hq
        clear hq
        go_wp2_with fail
        refine HC.out.mono ?_
        rintro e w2 ⟨rfl, hb2⟩
        have hbw := hb.trans (hb2.mono hb.size)
        clear c1 HC hb hb2
        go_wp2_with fail
        go_roundw
        case rel =>
          refine ⟨t + 1, by omega, by go_num, hid (fun s hs => ?_), hbw⟩
          rcases (by omega : s < t ∨ s = t) with h | rfl
          · exact HN.out s h
          · rw [← HXX.out]; exact HQ.out
        case measure => first | (simp [intOf]; done) | (simp [intOf]; omega)
    · obtain rfl : t = n := by omega
      have hd : decide (t < t) = false := decide_eq_false (by omega)
      go_wp2_with fail
      go_ret
      exact ⟨.inr ⟨HN.out, rfl⟩, hb⟩
end Go.Proofs.Ytlbefiaieehcfaa
