/-
  Contracts of the document's own answer: letterbeckref1.Edges tells all borders of a text, letterbeckref1.Last the last number of a list, letterbecklaw1.long whether a text is too long. Conditions: texts of at most 2^40 bytes.
-/
import Derived.Test.YtkkgmkkhflaghaaDoorEdges
import Derived.Test.YtkkgmkkhflaghaaDoorStr
namespace Go.Proofs.YtkkgmkkhflaghaaDoor
open Go.RowKit

theorem long_no (s : ByteArray) (w : World) (h : s.size ≤ 24) : Calls Tryd.prog 4 #[.string s] w fun e w' => e = .returned (.int .i64 0) ∧ w' = w := by
  go_enter Tryd.func4, Tryd.ntmps4
  go_wp2
  go_ret
  exact ⟨rfl, rfl⟩
theorem long_yes (s : ByteArray) (w : World) (h : 24 < s.size) (hs : s.size ≤ maxLen) : Calls Tryd.prog 4 #[.string s] w fun e w' => e = .returned (.int .i64 4) ∧ w' = w := by
  unfold maxLen at hs
  go_enter Tryd.func4, Tryd.ntmps4
  go_wp2
  go_ret
  exact ⟨rfl, rfl⟩

theorem last_any (A : Option Addr) (n c B : Nat) (xs : List Int) (w : World) (hn : n ≤ 1099511627776) (h : IsInts w B A n xs) :
    Calls Tryd.prog 5 #[.slice A n c] w fun e w' => e = .returned (.int .i64 (xs.getLastD 0)) ∧ w' = w := by
  have hl := h.1
  by_cases h0 : n = 0
  · subst h0
    have he : xs = [] := List.eq_nil_of_length_eq_zero hl
    subst he
    clear hl h
    go_enter Tryd.func5, Tryd.ntmps5
    go_wp2
    go_ret
    exact ⟨rfl, rfl⟩
  · obtain ⟨g, off, rfl, _, hc⟩ := h.2 (by omega)
    have hcell := hc (n - 1) (by omega)
    have he : xs.getLastD 0 = xs.getD (n - 1) 0 := by
      rw [List.getLastD_eq_getLast?, List.getLast?_eq_getElem?, hl, List.getD_eq_getElem?_getD]
    have HE := hid he
    generalize xs.getD (n - 1) 0 = x at hcell HE
    have hz : ((n : Int) == 0) = false := beq_eq_false_iff_ne.2 (by omega)
    clear hc h hl he
    go_enter Tryd.func5, Tryd.ntmps5
    go_wp2
    go_ret
    exact ⟨ret_int HE.out.symm, rfl⟩

/-- The borders shorter than k. -/
def edsTo (f : Nat → UInt8) (m k : Nat) : List Int := ((List.range k).filter fun j => decide (0 < j) && bdB f m j).map fun j => ((j : Nat) : Int)
theorem edsTo_one (f : Nat → UInt8) (m : Nat) : edsTo f m 1 = [] := by simp [edsTo]
theorem edsTo_yes {f : Nat → UInt8} {m k : Nat} (h0 : 0 < k) (h : Bd f m k) : edsTo f m (k + 1) = edsTo f m k ++ [(k : Int)] := by
  simp [edsTo, List.range_succ, h0, bdB_iff.2 h]
theorem edsTo_no {f : Nat → UInt8} {m k : Nat} (h : ¬ Bd f m k) : edsTo f m (k + 1) = edsTo f m k := by
  have : bdB f m k = false := by rw [← Bool.not_eq_true, bdB_iff]; exact h
  simp [edsTo, List.range_succ, this]
theorem edsTo_len (f : Nat → UInt8) (m k : Nat) : (edsTo f m k).length ≤ k := by
  have := List.length_filter_le (fun j => decide (0 < j) && bdB f m j) (List.range k)
  simpa [edsTo] using this
theorem edsTo_all (s : ByteArray) : edsTo (sg s) s.size s.size = allL s := rfl

set_option maxHeartbeats 800000 in
theorem refEdges_any (s : ByteArray) (w : World) (h : s.size ≤ 1099511627776) :
    Calls Tryd.prog 6 #[.string s] w fun e w' => ∃ v, e = .returned v ∧ OwnI w' w.heap.size 3 v (allL s) ∧ Below w.heap.size w w' := by
  obtain ⟨i0, hi, hz0, hz1, hz2⟩ := info_parts int_info
  go_enter Tryd.func6, Tryd.ntmps6
  go_wp2
  go_loopw [3, 4] (fun v t wr => ∃ k : Nat, 1 ≤ k ∧ (k ≤ s.size ∨ k = 1) ∧ t = .int .i64 k ∧ OwnI wr w.heap.size 3 v (edsTo (sg s) s.size k) ∧ Below w.heap.size w wr) (fun _ t _ => s.size - (intOf t).toNat)
  case atStart => exact ⟨1, by omega, by omega, rfl, by rw [edsTo_one]; exact OwnI.nil _ _ _, Below.refl _ _⟩
  case round =>
    obtain ⟨k, hk1, hk2, rfl, hown, hb⟩ := hrel
    by_cases hlt : k < s.size
    · have hlen := edsTo_len (sg s) s.size k
      have hsz := hb.size
      by_cases hbd : Bd (sg s) s.size k
      · have hq := same_yes ((bd_text s k hlt).1 hbd)
        have HE := hid (edsTo_yes (f := sg s) (m := s.size) (k := k) (by omega) hbd)
        generalize edsTo (sg s) s.size k = cs at hown hlen HE
        clear hbd
        go_wp2
        go_quiet (fail)
        have hown2 := hown.drewN nq
        have hb2 := below_drewN hb nq
        have hsz2 : w.heap.size ≤ (wr.drewN nq).heap.size := hsz
        generalize wr.drewN nq = w1 at hown2 hb2 hsz2 ⊢
        clear hown hb hsz
        go_wp2_with (at_builtin; refine wpList_append_int _ rfl (.tmp 21) (.tmp 23) 23 rfl w.heap.size 3 i0 Tryd.underlying23 hi hz0 hz1 hz2 _ cs rfl hown2 (k : Int) rfl (by omega) (by omega) ?_)
        intro v' w2 hown3 hb3
        go_wp2
        go_roundw
        case rel => exact ⟨k + 1, by omega, by omega, by go_num, by rw [HE.out]; exact hown3, hb2.trans hb3⟩
        case measure => simp [intOf]; omega
      · have hq := same_no (fun e => hbd ((bd_text s k hlt).2 e))
        have HE := hid (edsTo_no hbd)
        generalize edsTo (sg s) s.size k = cs at hown hlen HE
        clear hbd
        go_wp2
        go_quiet (fail)
        go_wp2
        go_roundw
        case rel => exact ⟨k + 1, by omega, by omega, by go_num, by rw [HE.out]; exact hown.drewN _, below_drewN hb _⟩
        case measure => simp [intOf]; omega
    · have he : edsTo (sg s) s.size k = allL s := by
        rcases hk2 with hk2 | hk2
        · rw [show k = s.size by omega]; rfl
        · subst hk2
          rcases Nat.eq_zero_or_pos s.size with e | e
          · rw [edsTo_one]; simp [allL, e, eds]
          · rw [show s.size = 1 by omega, edsTo_one]; simp [allL, show s.size = 1 by omega, eds]
      rw [he] at hown
      clear he
      go_wp2
      go_ret
      exact ⟨_, rfl, hown, hb⟩
end Go.Proofs.YtkkgmkkhflaghaaDoor
