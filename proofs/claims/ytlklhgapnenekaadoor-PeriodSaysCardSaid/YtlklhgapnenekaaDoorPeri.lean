/-
  Contracts of package period: Has answers whether a number is a period; All answers all periods, rising, in new memory; both leave the old memory alone. Conditions: none but the sizes that a row itself sets.
-/
import Derived.Test.YtlklhgapnenekaaDoorEdges
import Derived.Test.YtlklhgapnenekaaDoorPer
import Derived.Test.YtlklhgapnenekaaDoorPref
import Derived.Test.YtlklhgapnenekaaDoorOn
namespace Go.Proofs.YtlklhgapnenekaaDoor
open Go.RowKit

theorem pre_has (s : ByteArray) (p : Nat) (h0 : 0 < p) (h1 : p ≤ s.size) : preB s (s.extract p s.size) = hasB s (p : Int) := by
  have e : (s.extract p s.size).size = s.size - p := by rw [ByteArray.size_extract]; omega
  rw [Bool.eq_iff_iff, hasB_nat, perB_iff, preB, decide_eq_true_eq, e, pd_text s p h1]
  exact ⟨fun h => ⟨h0, h1, h.2⟩, fun h => ⟨by omega, h.2.2⟩⟩
theorem has_long (s : ByteArray) (k : Int) (w : World) (h : 24 < s.size) (hs : s.size ≤ maxLen) :
    Calls Tryd.prog 9 #[.string s, .int .i64 k] w fun e w' => e = .returned (.tuple #[.bool false, .iface 34 (.int .i64 4)]) ∧ w' = w := by
  unfold maxLen at hs
  go_enter Tryd.func9, Tryd.ntmps9
  go_wp2
  go_ret2
  exact ⟨rfl, rfl⟩
set_option maxHeartbeats 400000 in
theorem has_any (s : ByteArray) (k : Int) (w : World) (h : s.size ≤ 24) :
    Calls Tryd.prog 9 #[.string s, .int .i64 k] w fun e w' => e = .returned (.tuple #[.bool (hasB s k), .nilIface]) ∧ w' = w := by
  by_cases h1 : k < 1
  · have HR := hid (hasB_out (s := s) (.inl h1))
    have hd : decide (k < 1) = true := by simpa using h1
    go_enter Tryd.func9, Tryd.ntmps9
    go_wp2
    go_ret2
    exact ⟨by rw [HR.out]; rfl, rfl⟩
  · have hd : decide (k < 1) = false := by simpa using h1
    by_cases h2 : (s.size : Int) < k
    · have HR := hid (hasB_out (s := s) (.inr h2))
      go_enter Tryd.func9, Tryd.ntmps9
      go_wp2
      go_ret2
      exact ⟨by rw [HR.out]; rfl, rfl⟩
    · obtain ⟨p, rfl⟩ : ∃ p : Nat, k = p := ⟨k.toNat, by omega⟩
      have h3 : 0 < p := by omega
      have h4 : p ≤ s.size := by omega
      have hc : ∀ W : World, Sem.run Tryd.prog (Instr.slice 9 (.string s) (some (.int .i64 (p : Int))) none none) W = .ok (.string (s.extract p s.size)) W := fun W =>
        run_slice_string_l W 9 s Tryd.underlying9 .i64 (p : Int) (by omega) (by omega)
      have HR := hid (pre_has s p h3 h4)
      have H1 := fun W => hid (prefix_any s (s.extract p s.size) W (by omega) (by rw [ByteArray.size_extract]; omega))
      generalize s.extract p s.size = t at hc HR H1
      have hd2 : decide (p < 1) = false := by simp; omega
      clear h1 hd h2
      go_enter Tryd.func9, Tryd.ntmps9
      go_wp2_with fail
      refine (H1 _).out.mono ?_
      rintro e w1 ⟨rfl, hw1⟩
      subst w1
      go_wp2
      go_ret2
      exact ⟨by rw [← HR.out]; rfl, rfl⟩

theorem pall_long (s : ByteArray) (w : World) (h : 24 < s.size) (hs : s.size ≤ maxLen) :
    Calls Tryd.prog 6 #[.string s] w fun e w' => e = .returned (.tuple #[.slice none 0 0, .iface 34 (.int .i64 4)]) ∧ w' = w := by
  have H1 := fun W => hid (all_long s W h hs)
  unfold maxLen at hs
  go_enter Tryd.func6, Tryd.ntmps6
  go_wp2_with fail
  refine (H1 _).out.mono ?_
  rintro e w1 ⟨rfl, hw1⟩
  subst w1
  go_wp2
  go_ret2
  exact ⟨rfl, rfl⟩
set_option maxHeartbeats 800000 in
theorem pall_any (s : ByteArray) (w : World) (h : s.size ≤ 24) :
    Calls Tryd.prog 6 #[.string s] w fun e w' => ∃ v, e = .returned (.tuple #[v, .nilIface]) ∧
      OwnI w' w.heap.size 3 v (perL s) ∧ Below w.heap.size w w' := by
  obtain ⟨i0, hi, hz0, hz1, hz2⟩ := info_parts int_info
  have H1 := fun W => hid (all_any s W h)
  go_enter Tryd.func6, Tryd.ntmps6
  go_wp2_with fail
  refine (H1 _).out.mono ?_
  rintro e w1 ⟨v, rfl, ho, hb⟩
  clear H1
  by_cases h0 : s.size = 0
  · have hz : ((s.size : Int) == 0) = true := by simp [h0]
    have HR := hid (perL_none h0)
    clear h0 ho
    go_wp2
    go_ret2
    exact ⟨_, rfl, by rw [HR.out]; exact OwnI.nil _ _ _, hb⟩
  · have hz : ((s.size : Int) == 0) = false := by simpa using h0
    have HP := hid (perL_some h0)
    have hlen := all_len s
    have HX : Hid (∀ x ∈ allL s, 0 ≤ x ∧ x ≤ (s.size : Int)) := hid fun x hx => by
      obtain ⟨p, rfl, _, hp⟩ := mem_allL.1 hx
      have := hp.1
      omega
    generalize allL s = xs at ho HP hlen HX
    obtain ⟨n, hn⟩ : ∃ n, xs.length = n := ⟨_, rfl⟩
    obtain ⟨A, c, rfl, hI⟩ := own_n ho hn
    rw [hn] at hlen
    have HN := hid hn
    have HI := hid hI
    have hsz := hb.size
    clear h0 hn hI ho
    go_wp2_with (at_make; refine wpList_make_own _ rfl _ _ 23 rfl w1.heap.size 3 i0 (.int .i64 0) 1 Tryd.underlying23 hi hz0 hz1 .i64 .i64 _ (n + 1) rfl rfl (by omega) (by rw [hz2]; omega) (by unfold maxLen; omega) (Nat.le_refl _) ?_)
    intro w2 hown hgrow
    have ho2 : OwnI w2 w1.heap.size 3 (.slice (some ⟨w1.heap.size, 0, none⟩) 0 (n + 1)) [] := hown
    have hb2 : Below w1.heap.size w1 w2 := (Below.refl _ _).grown hgrow (Nat.le_refl _) (by simp)
    clear hown hgrow
    go_wp2
    go_loopw [6, 7] (fun v i wr => ∃ k : Nat, k ≤ n ∧ i = .int .i64 ((k : Int) - 1) ∧ Hid (OwnI wr w1.heap.size 3 v (left s.size (xs.drop k))) ∧ Below w1.heap.size w1 wr) (fun _ i _ => (intOf i + 1).toNat)
    case atStart => exact ⟨n, Nat.le_refl _, by go_num, hid (by rw [List.drop_of_length_le (by rw [HN.out]; exact Nat.le_refl _)]; exact ho2), hb2⟩
    case round =>
      clear ho2 hb2
      obtain ⟨k, hk, rfl, HO, hbw⟩ := hrel
      have hsw := hbw.size
      rcases k with _ | j
      · have ho : OwnI wr w1.heap.size 3 _ (left s.size xs) := HO.out
        have hl : (left s.size xs).length ≤ 24 := by rw [left_len, HN.out]; omega
        generalize left s.size xs = ys at HP ho hl
        clear HO HI HX
        rw [show (((0 : Nat) : Int) - 1) = -1 from rfl]
        go_wp2_with (at_builtin; refine wpList_append_int _ rfl (.tmp 40) (.tmp 43) 23 rfl w1.heap.size 3 i0 Tryd.underlying23 hi hz0 hz1 hz2 _ ys rfl ho (s.size : Int) rfl (by omega) (by omega) ?_)
        intro v' w3 hown3 hb3
        go_wp2
        go_ret2
        refine ⟨_, rfl, by rw [HP.out]; exact hown3.base hsz, hb.trans ((hbw.trans hb3).mono hsz)⟩
      · have hj : j < n := by omega
        have hjx : j < xs.length := by rw [HN.out]; exact hj
        have HS := hid (left_snoc s.size xs j hjx)
        have hx2 := HX.out _ (getD_mem hjx)
        have hl : (left s.size (xs.drop (j + 1))).length ≤ 24 := by rw [left_len, List.length_drop, HN.out]; omega
        obtain ⟨g, off, rfl, hg, hcell⟩ := HI.out.2 (by omega)
        have hx := hcell j hj
        rw [← hbw.cell (p := ⟨g, off + j, none⟩) hg] at hx
        generalize xs.getD j 0 = X at hx hx2 HS
        generalize left s.size (xs.drop (j + 1)) = ys at HO hl HS
        have ho := HO.out
        clear hcell hjx HO hk
        rw [show (((j + 1 : Nat) : Int) - 1) = (j : Int) by omega]
        go_wp2_with (at_builtin; refine wpList_append_int _ rfl (.tmp 30) (.tmp 38) 23 rfl w1.heap.size 3 i0 Tryd.underlying23 hi hz0 hz1 hz2 _ ys rfl ho ((s.size : Int) - X) rfl (by omega) (by omega) ?_)
        intro v' w3 hown3 hb3
        clear ho
        go_wp2
        go_roundw
        case rel => exact ⟨j, by omega, by go_num, hid (by rw [HS.out]; exact hown3), hbw.trans hb3⟩
        case measure => simp [intOf]
end Go.Proofs.YtlklhgapnenekaaDoor
