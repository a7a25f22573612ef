/-
  Contracts of letterbeckref2.Weights, lightest and without. Conditions: at most ten heaps, of which there is one.
-/
import Derived.Test.YtjllgehhdhcobaaDoorHst
import Derived.Test.YtjllgehhdhcobaaDoorHown
import Derived.Test.YtjllgehhdhcobaaDoorHlight
import Derived.Test.YtjllgehhdhcobaaDoorAllr
namespace Go.Proofs.YtjllgehhdhcobaaDoor
open Go.RowKit

theorem heap_info : (Tryd.prog.info? 40).map (fun i => (i.zero, i.size, i.bytes)) = some (some (.agg #[.int .i64 0, .slice none 0 0]), 2, 32) := by kernel_rfl

theorem rweights_good (A : Option Addr) (n c : Nat) (l : List Int) (w : World) (hl : IsInts w w.heap.size A n l) (hg : GoodH l) :
    Calls Tryd.prog 4 #[.slice A n c] w fun e w' => e = .returned (.int .i64 0) ∧ w' = w := by
  have hls := hl.1
  have h1 := hg.1
  have h2 := hg.2.1
  have HA := hid (rallin_any A n c l 0 1000 w (by omega) hl)
  have HI : Hid (InL 0 1000 l) := hid (fun i hi => goodH_at hg hi)
  have n1 : ¬ ((n : Int) = 0) := by omega
  have n2 : ¬ (10 < (n : Int)) := by omega
  clear hl hls h1 h2 hg
  go_enter Tryd.func4, Tryd.ntmps4
  go_wp2_with fail
  refine HA.out.mono ?_
  rintro e w5 ⟨h, hw5⟩
  subst w5
  rcases h with ⟨_, rfl⟩ | ⟨h, _⟩
  rotate_left
  · exact absurd HI.out h
  go_wp2_with fail
  go_ret
  exact ⟨rfl, rfl⟩
theorem rweights_bad (A : Option Addr) (n c : Nat) (l : List Int) (k : Int) (w : World) (hl : IsInts w w.heap.size A n l) (hk : BadH l k) :
    Calls Tryd.prog 4 #[.slice A n c] w fun e w' => e = .returned (.int .i64 k) ∧ w' = w := by
  have hls := hl.1
  rcases hk with ⟨h, rfl⟩ | ⟨h, rfl⟩ | ⟨h1, h2, ⟨i, hi, hn⟩, rfl⟩
  · have n1 : n = 0 := by omega
    subst n1
    clear hl
    go_enter Tryd.func4, Tryd.ntmps4
    go_wp2_with fail
    go_ret
    exact ⟨rfl, rfl⟩
  · have n1 : ¬ ((n : Int) = 0) := by omega
    have n2 : 10 < (n : Int) := by omega
    clear hl hls h
    go_enter Tryd.func4, Tryd.ntmps4
    go_wp2_with fail
    go_ret
    exact ⟨rfl, rfl⟩
  · have HA := hid (rallin_any A n c l 0 1000 w (by omega) hl)
    have HI : Hid (¬ InL 0 1000 l) := hid (fun h => hn (h i hi))
    have n1 : ¬ ((n : Int) = 0) := by omega
    have n2 : ¬ (10 < (n : Int)) := by omega
    clear hl hls h1 h2 hi hn
    go_enter Tryd.func4, Tryd.ntmps4
    go_wp2_with fail
    refine HA.out.mono ?_
    rintro e w5 ⟨h, hw5⟩
    subst w5
    rcases h with ⟨h, _⟩ | ⟨_, rfl⟩
    · exact absurd h HI.out
    go_wp2_with fail
    go_ret
    exact ⟨rfl, rfl⟩

set_option maxRecDepth 100000 in
set_option maxHeartbeats 1000000 in
theorem rlight_any (A : Option Addr) (n c : Nat) (ts : List Tr) (w : World) (hT : IsTrees w w.heap.size A n ts) (h0 : 0 < n) (h10 : n ≤ 10) :
    Calls Tryd.prog 13 #[.slice A n c] w fun e w' => ∃ k : Nat, FMin (ts.map Prod.fst) k ∧ e = .returned (.int .i64 k) ∧ ∃ q, w' = w.drewN q := by
  obtain ⟨g, rfl, hg, hc⟩ := hT.2 h0
  have HC := hid hc
  have HN := hid hT.1
  have hS := lmin_start (l := ts.map Prod.fst) (by rw [List.length_map, hT.1]; exact h0)
  have HS := hid hS
  clear hT hc hS
  go_enter Tryd.func13, Tryd.ntmps13
  go_wp2_with fail
  go_loopw [3, 4] (fun v x wr => ∃ i b q : Nat, i ≤ n ∧ b < n ∧ x = .int .i64 i ∧ v = .int .i64 b ∧ Hid (LMin (ts.map Prod.fst) i b) ∧ wr = w.drewN q) (fun _ x _ => n - (intOf x).toNat)
  case atStart => exact ⟨0, 0, 0, by omega, h0, rfl, rfl, HS, rfl⟩
  case round =>
    obtain ⟨i, b, q, hin, hbn, rfl, rfl, HM, hwr⟩ := hrel
    subst wr
    by_cases hlt : i < n
    · have c1 := (HC.out i hlt).1
      have c3 := (HC.out b hbn).1
      have hY : (((ts.getD i tz).1 < (ts.getD b tz).1) ∧ Hid (LMin (ts.map Prod.fst) (i + 1) i)) ∨ (¬ ((ts.getD i tz).1 < (ts.getD b tz).1) ∧ Hid (LMin (ts.map Prod.fst) (i + 1) b)) := by
        by_cases h : (ts.getD i tz).1 < (ts.getD b tz).1
        · exact .inl ⟨h, hid (lmin_turn HM.out (by rw [List.length_map, HN.out]; exact hlt) (by rw [fst_tr, fst_tr]; exact h))⟩
        · exact .inr ⟨h, hid (lmin_stay HM.out (by rw [fst_tr, fst_tr]; exact h))⟩
      generalize (ts.getD i tz).1 = X at c1 hY
      generalize (ts.getD b tz).1 = Y at c3 hY
      clear HM HS
      have b1 : (0 : Int) ≤ (b : Int) := by omega
      have b2 : (b : Int) < (n : Int) := by omega
      have b3 : (i : Int) < (n : Int) := by omega
      rcases hY with ⟨hy, HM⟩ | ⟨hy, HM⟩
      · go_wp2_with fail
        go_quiet (fail)
        go_wp2_with fail
        go_roundw
        case rel => exact ⟨i + 1, i, _, by omega, hlt, by go_num, rfl, HM, by first | rfl | exact World.drewN_drewN _ _ _⟩
        case measure => simp [intOf]; omega
      · go_wp2_with fail
        go_quiet (fail)
        go_wp2_with fail
        go_roundw
        case rel => exact ⟨i + 1, b, _, by omega, hbn, by go_num, rfl, HM, by first | rfl | exact World.drewN_drewN _ _ _⟩
        case measure => simp [intOf]; omega
    · obtain rfl : i = n := by omega
      have HF : Hid (FMin (ts.map Prod.fst) b) := hid (lmin_end (by rw [List.length_map, HN.out]; exact HM.out))
      clear HM
      go_wp2_with fail
      go_ret
      exact ⟨b, HF.out, rfl, _, rfl⟩

theorem erase_yes (ts : List Tr) {i k : Nat} (hi : i < ts.length) (hk : i ≠ k) : (ts.take (i + 1)).eraseIdx k = (ts.take i).eraseIdx k ++ [ts.getD i tz] := by
  rw [List.take_succ_eq_append_getElem hi]
  have e : ts.getD i tz = ts[i] := by simp [hi]
  rw [e]
  by_cases h : k < i
  · rw [List.eraseIdx_append_of_lt_length (by rw [List.length_take]; omega)]
  · rw [List.eraseIdx_append_of_length_le (by rw [List.length_take]; omega), List.length_take, List.eraseIdx_of_length_le (by simp; omega), List.eraseIdx_of_length_le (by rw [List.length_take]; omega)]
theorem erase_no (ts : List Tr) {i : Nat} (hi : i < ts.length) : (ts.take (i + 1)).eraseIdx i = (ts.take i).eraseIdx i := by
  have r : (ts.take i).eraseIdx i = ts.take i := List.eraseIdx_of_length_le (by rw [List.length_take]; omega)
  rw [r, List.take_succ_eq_append_getElem hi, List.eraseIdx_append_of_length_le (by rw [List.length_take]; omega), List.length_take, Nat.min_eq_left (by omega), Nat.sub_self]
  simp
set_option maxRecDepth 100000 in
set_option maxHeartbeats 1000000 in
theorem rwithout_any (A : Option Addr) (n c k : Nat) (ts : List Tr) (w : World) (hT : IsTrees w w.heap.size A n ts) (h10 : n ≤ 10) (hk : k < n) :
    Calls Tryd.prog 14 #[.slice A n c, .int .i64 (k : Int)] w fun e w' => ∃ v, e = .returned v ∧ OwnT w' w.heap.size 40 v (ts.eraseIdx k) ∧ Below w.heap.size w w' := by
  obtain ⟨i0, hi, hz0, hz1, hz2⟩ := info_parts heap_info
  obtain ⟨g, rfl, hg, hc⟩ := hT.2 (by omega)
  have HC := hid hc
  have HN := hid hT.1
  clear hT hc
  go_enter Tryd.func14, Tryd.ntmps14
  go_wp2_with fail
  go_loopw [5, 6] (fun v x wr => ∃ i : Nat, i ≤ n ∧ x = .int .i64 i ∧ Hid (OwnT wr w.heap.size 40 v ((ts.take i).eraseIdx k)) ∧ Below w.heap.size w wr) (fun _ x _ => n - (intOf x).toNat)
  case atStart => exact ⟨0, by omega, rfl, hid (OwnT.nil _ _ _), Below.refl _ _⟩
  case round =>
    obtain ⟨i, hin, rfl, HO, hb⟩ := hrel
    have hsz := hb.size
    by_cases hlt : i < n
    · have hil : i < ts.length := by rw [HN.out]; exact hlt
      by_cases he : i = k
      · have HO2 : Hid (OwnT wr w.heap.size 40 _ ((ts.take (i + 1)).eraseIdx k)) := hid (by
          have e2 : (ts.take (i + 1)).eraseIdx k = (ts.take i).eraseIdx k := by rw [← he]; exact erase_no ts hil
          rw [e2]
          exact HO.out)
        have hne : ((i : Int) != (k : Int)) = false := by simp [he]
        clear he HO hil
        go_wp2_with fail
        go_roundw
        case rel => exact ⟨i + 1, by omega, by go_num, HO2, hb⟩
        case measure => simp [intOf]; omega
      · have HE := hid (erase_yes ts hil he)
        have hne : ((i : Int) != (k : Int)) = true := by simp; omega
        have c1 := (hb.cell (p := ⟨g, i * 2, none⟩) hg).trans (HC.out i hlt).1
        have c2 := (hb.cell (p := ⟨g, i * 2 + 1, none⟩) hg).trans (HC.out i hlt).2
        have hle : ((ts.take i).eraseIdx k).length ≤ 1000 := Nat.le_trans (List.length_eraseIdx_le _ _) (by rw [List.length_take]; omega)
        generalize (ts.take i).eraseIdx k = us at HO HE hle
        obtain ⟨t, hte⟩ : ∃ t, t = ts.getD i tz := ⟨_, rfl⟩
        rw [← hte] at c1 c2 HE
        clear hte he hil
        obtain ⟨x, ⟨g1, m1⟩, z1⟩ := t
        simp only [sv] at c1 c2
        go_wp2_with (at_builtin; refine wpList_append_heap _ rfl (.tmp 16) (.tmp 21) 38 rfl w.heap.size 40 i0 Tryd.underlying38 hi hz0 hz1 hz2 _ us rfl HO.out (x, (g1, m1), z1) wr.heap.size rfl rfl hle hsz ?_)
        intro v' w6 hown6 hc6 _
        have hb6 : Below w.heap.size w w6 := hb.trans (hc6.below (fun b hb => (HO.out.lt hb).1) hsz)
        have HO6 : Hid (OwnT w6 w.heap.size 40 v' ((ts.take (i + 1)).eraseIdx k)) := hid (by rw [HE.out]; exact hown6)
        clear hown6 hc6 c1 c2 HO
        go_wp2_with fail
        go_roundw
        case rel => exact ⟨i + 1, by omega, by go_num, HO6, hb6⟩
        case measure => simp [intOf]; omega
    · obtain rfl : i = n := by omega
      have HO2 : Hid (OwnT wr w.heap.size 40 _ (ts.eraseIdx k)) := hid (by
        have := HO.out
        rwa [List.take_of_length_le (by rw [HN.out]; exact Nat.le_refl _)] at this)
      clear HO
      go_wp2_with fail
      go_ret
      exact ⟨_, rfl, HO2.out, hb⟩
end Go.Proofs.YtjllgehhdhcobaaDoor
