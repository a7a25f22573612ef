/-
  Contract of huff.lightest: the first one of the least weights. Conditions: there is a heap, and there are at most ten.
-/
import Derived.Test.YtjllgehhdhcobaaDoorBase
import Derived.Test.YtjllgehhdhcobaaDoorHuf
import Derived.Test.YtjllgehhdhcobaaDoorHmem
namespace Go.Proofs.YtjllgehhdhcobaaDoor
open Go.RowKit

/-- The first one of the least of the first i. -/
def LMin (l : List Int) (i b : Nat) : Prop := b < l.length ∧ b ≤ i ∧ (∀ j, j < i → l.getD b 0 ≤ l.getD j 0) ∧ ∀ j, j < b → l.getD b 0 < l.getD j 0
theorem lmin_start {l : List Int} (h : 0 < l.length) : LMin l 0 0 := ⟨h, Nat.le_refl _, fun _ h => absurd h (by omega), fun _ h => absurd h (by omega)⟩
theorem lmin_turn {l : List Int} {i b : Nat} (h : LMin l i b) (hi : i < l.length) (hlt : l.getD i 0 < l.getD b 0) : LMin l (i + 1) i := by
  refine ⟨hi, by omega, fun j hj => ?_, fun j hj => ?_⟩
  · rcases Nat.lt_or_ge j i with h1 | h1
    · have := h.2.2.1 j h1; omega
    · obtain rfl : j = i := by omega
      exact Int.le_refl _
  · have := h.2.2.1 j hj; omega
theorem lmin_stay {l : List Int} {i b : Nat} (h : LMin l i b) (hge : ¬ l.getD i 0 < l.getD b 0) : LMin l (i + 1) b := by
  refine ⟨h.1, by have := h.2.1; omega, fun j hj => ?_, h.2.2.2⟩
  rcases Nat.lt_or_ge j i with h1 | h1
  · exact h.2.2.1 j h1
  · obtain rfl : j = i := by omega
    omega
theorem lmin_end {l : List Int} {b : Nat} (h : LMin l l.length b) : FMin l b := ⟨h.1, h.2.2.1, h.2.2.2⟩
theorem fst_tr (ts : List Tr) (k : Nat) : (ts.map Prod.fst).getD k 0 = (ts.getD k tz).1 := by
  by_cases hk : k < ts.length <;> simp [hk, tz]

set_option maxRecDepth 100000 in
set_option maxHeartbeats 1000000 in
theorem lightest_any (T cap n : Nat) (ts : List Tr) (w : World) (hT : TreesAt w T 46 cap ts) (hn : ts.length = n) (h0 : 0 < n) (h10 : n ≤ 10) :
    Calls Tryd.prog 17 #[.slice (some ⟨T, 0, none⟩) n cap] w fun e w' => ∃ k : Nat, FMin (ts.map Prod.fst) k ∧ e = .returned (.int .i64 k) ∧ Below w.heap.size w w' := by
  have HT := hid hT
  have HN := hid hn
  have hTlt := hT.lt
  have hS := lmin_start (l := ts.map Prod.fst) (by simpa [hn] using h0)
  have HS := hid hS
  clear hT hn hS
  go_enter Tryd.func17, Tryd.ntmps17
  go_wp2_with fail
  go_loopw [3, 8] (fun v x wr => ∃ i b : Nat, i ≤ n ∧ b < n ∧ x = .int .i64 i ∧ v = .int .i64 b ∧ Hid (LMin (ts.map Prod.fst) i b) ∧ Below w.heap.size w wr) (fun _ x _ => n - (intOf x).toNat)
  case atStart => exact ⟨0, 0, by omega, h0, rfl, rfl, HS, Below.refl _ _⟩
  case round =>
    obtain ⟨i, b, hin, hbn, rfl, rfl, HM, hb⟩ := hrel
    by_cases hlt : i < n
    · obtain ⟨c1, c2⟩ := HT.out.cell (k := i) (by have := HN.out; omega)
      obtain ⟨c3, _⟩ := HT.out.cell (k := b) (by have := HN.out; omega)
      have c1 := (hb.cell (p := ⟨T, i * 2, none⟩) hTlt).trans c1
      have c2 := (hb.cell (p := ⟨T, i * 2 + 1, none⟩) hTlt).trans c2
      have c3 := (hb.cell (p := ⟨T, b * 2, none⟩) hTlt).trans c3
      have hTr : T < wr.heap.size := by have := hb.size; omega
      have hY : (((ts.getD i tz).1 < (ts.getD b tz).1) ∧ Hid (LMin (ts.map Prod.fst) (i + 1) i)) ∨ (¬ ((ts.getD i tz).1 < (ts.getD b tz).1) ∧ Hid (LMin (ts.map Prod.fst) (i + 1) b)) := by
        by_cases h : (ts.getD i tz).1 < (ts.getD b tz).1
        · exact .inl ⟨h, hid (lmin_turn HM.out (by simpa [HN.out] using hlt) (by rw [fst_tr, fst_tr]; exact h))⟩
        · exact .inr ⟨h, hid (lmin_stay HM.out (by rw [fst_tr, fst_tr]; exact h))⟩
      generalize (ts.getD i tz).1 = X at c1 hY
      unfold sv at c2
      generalize (ts.getD i tz).2.1.1 = G, (ts.getD i tz).2.1.2 = C, (ts.getD i tz).2.2.length = M at c2
      generalize (ts.getD b tz).1 = Y at c3 hY
      clear HM HS
      have b1 : (0 : Int) ≤ (b : Int) := by omega
      have b2 : (b : Int) < (n : Int) := by omega
      go_wp2_with fail
      rcases hY with ⟨hy, HM⟩ | ⟨hy, HM⟩
      · go_quiet (fail)
        go_wp2_with fail
        go_roundw
        case rel => exact ⟨i + 1, i, by omega, hlt, by go_num, rfl, HM, below_drewN (hb.alloc hb.size _) _⟩
        case measure => simp [intOf]; omega
      · go_quiet (fail)
        go_wp2_with fail
        go_roundw
        case rel => exact ⟨i + 1, b, by omega, hbn, by go_num, rfl, HM, below_drewN (hb.alloc hb.size _) _⟩
        case measure => simp [intOf]; omega
    · obtain rfl : i = n := by omega
      have HF : Hid (FMin (ts.map Prod.fst) b) := hid (lmin_end (by rw [List.length_map, HN.out]; exact HM.out))
      clear HM
      go_wp2_with fail
      go_ret
      exact ⟨b, HF.out, rfl, hb⟩
end Go.Proofs.YtjllgehhdhcobaaDoor
