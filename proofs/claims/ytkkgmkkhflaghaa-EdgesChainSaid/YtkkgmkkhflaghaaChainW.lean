/-
  The walk of EdgesChain: it returns true for every text, and leaves the old memory alone. No condition but the row's own size.
-/
import Derived.Test.YtkkgmkkhflaghaaFact
namespace Go.Proofs.Ytkkgmkkhflaghaa
open Go.RowKit

theorem chain_long (s : ByteArray) (w : World) (h : 24 < s.size) (hs : s.size ≤ maxLen) :
    Calls Try.prog 4 #[.string s] w fun e w' => e = .returned (.bool true) ∧ Below w.heap.size w w' := by
  have HL := fun w => hid (all_long s w h hs)
  unfold maxLen at hs
  go_enter Try.func4, Try.ntmps4
  go_wp2_with fail
  refine (fact_any _).mono ?_
  rintro e w1 ⟨rfl, hb1⟩
  go_wp2_with fail
  refine (HL _).out.mono ?_
  rintro e w2 ⟨rfl, rfl⟩
  go_wp2
  go_ret
  exact ⟨rfl, hb1⟩

set_option maxHeartbeats 800000 in
theorem chain_any (s : ByteArray) (w : World) (h : s.size ≤ 24) :
    Calls Try.prog 4 #[.string s] w fun e w' => e = .returned (.bool true) ∧ Below w.heap.size w w' := by
  go_enter Try.func4, Try.ntmps4
  go_wp2_with fail
  refine (fact_any _).mono ?_
  rintro e w1 ⟨rfl, hb1⟩
  go_wp2_with fail
  refine (all_any s _ h).mono ?_
  rintro e w2 ⟨v, rfl, ho2, hb2⟩
  have hs1 := hb1.size
  have hb12 : Below w.heap.size w w2 := hb1.trans (hb2.mono hs1)
  obtain ⟨A, c, rfl, hcap, hI⟩ := IsInts.of_own ho2
  clear ho2 hb1 hb2
  by_cases h0 : lon (sg s) s.size = 0
  · have he : allL s = [] := by simp [allL, eds_none h0]
    rw [he] at hI ⊢
    clear h0 he hcap
    go_wp2
    go_ret
    exact ⟨rfl, hb12⟩
  · have hlt : lon (sg s) s.size < s.size := lon_lt (by
      rcases Nat.eq_zero_or_pos s.size with e | e
      · rw [e] at h0; exact absurd rfl h0
      · exact e)
    have he : allL s = (eds (sg s) (lon (sg s) s.size)).map (fun k => ((k : Nat) : Int)) ++ [((lon (sg s) s.size : Nat) : Int)] := by
      unfold allL; rw [eds_chain (by omega)]; simp
    have hX : (eds (sg s) (lon (sg s) s.size)).map (fun k => ((k : Nat) : Int)) = allL (s.extract 0 (lon (sg s) s.size)) := all_cut s _ (by omega)
    rw [hX] at he
    generalize lon (sg s) s.size = k at *
    clear hX
    generalize hm : allL (s.extract 0 k) = xs at *
    have hl : (allL s).length = xs.length + 1 := by rw [he]; simp
    rw [hl] at hI hcap ⊢
    rw [he] at hI
    have hJ := hI.take (k := xs.length) (by omega)
    rw [List.take_left] at hJ
    obtain ⟨g, off, rfl, _, hcell⟩ := hI.2 (by omega)
    have hc := hcell xs.length (by omega)
    simp only [List.getD_eq_getElem?_getD, List.getElem?_concat_length, Option.getD_some] at hc
    have hlen : xs.length ≤ k := by rw [← hm]; have := all_len (s.extract 0 k); rw [ByteArray.size_extract] at this; omega
    have hk : k ≤ 24 := by omega
    have HJ := hid hJ
    have HM := hid hm
    have HIN : Hid (inB (k : Int) 1 ((s.size : Int) - 1) = true) := hid (by simp [inB]; omega)
    clear hI he hl hcell hm hJ
    have hn : xs.length ≤ k := hlen
    generalize xs.length = n at HJ hc hcap hlen ⊢
    have hn2 : n ≤ 24 := by omega
    go_wp2_with fail
    refine (in_any _ _ _ _).mono ?_
    rintro e w3 ⟨rfl, rfl⟩
    rw [HIN.out]
    have hks : k ≤ s.size := by omega
    have hcut : (s.extract 0 k).size ≤ 24 := by rw [ByteArray.size_extract]; omega
    have HA := fun w => hid (all_any (s.extract 0 k) w hcut)
    clear hcut
    have hcap2 : n ≤ c := by omega
    go_wp2_with fail
    refine (HA _).out.mono ?_
    rintro e w4 ⟨v, rfl, ho4, hb4⟩
    rw [HM.out] at ho4
    obtain ⟨A4, c4, rfl, _, hI4⟩ := IsInts.of_own ho4
    have HI4 := hid hI4
    clear ho4 hI4 HA
    go_wp2_with fail
    refine (ints_any _ _ xs.length n _ _ xs xs _ _ _ (by omega) (by omega) HI4.out (HJ.out.below hb4)).mono ?_
    rintro e w5 ⟨rfl, q, rfl⟩
    rw [sameInts_true rfl]
    go_wp2
    go_ret
    exact ⟨rfl, below_drewN (hb12.trans (hb4.mono hb12.size)) q⟩
end Go.Proofs.Ytkkgmkkhflaghaa
