/-
  Contract of letterbeckref2.Row: how many numbers of a list rise, or do not, at most. Conditions: at most 20 numbers.
-/
import Derived.Test.YtmfpjbhgmcmceaaDoorBase
import Derived.Test.YtmfpjbhgmcmceaaDoorRpre
namespace Go.Proofs.YtmfpjbhgmcmceaaDoor
open Go.RowKit

/-- The chains that are asked for. -/
def upB (rise : Bool) : Int → Int → Bool := if rise then ltB else geB
/-- The three ways of a number ahead. -/
theorem up_way {rise : Bool} {l : List Int} {i k : Nat} :
    (rise = true ∧ ((decide (l.getD k 0 < l.getD i 0) = true ∧ upB rise (l.getD k 0) (l.getD i 0) = true) ∨ (decide (l.getD k 0 < l.getD i 0) = false ∧ upB rise (l.getD k 0) (l.getD i 0) = false))) ∨
    (rise = false ∧ ((decide (l.getD k 0 ≥ l.getD i 0) = true ∧ upB rise (l.getD k 0) (l.getD i 0) = true) ∨ (decide (l.getD k 0 ≥ l.getD i 0) = false ∧ upB rise (l.getD k 0) (l.getD i 0) = false))) := by
  cases rise with
  | true =>
    refine .inl ⟨rfl, ?_⟩
    by_cases h : l.getD k 0 < l.getD i 0
    · exact .inl ⟨decide_eq_true h, decide_eq_true h⟩
    · exact .inr ⟨decide_eq_false h, decide_eq_false h⟩
  | false =>
    refine .inr ⟨rfl, ?_⟩
    by_cases h : l.getD k 0 ≥ l.getD i 0
    · exact .inl ⟨decide_eq_true h, decide_eq_true h⟩
    · exact .inr ⟨decide_eq_false h, decide_eq_false h⟩

set_option maxHeartbeats 8000000 in
set_option maxRecDepth 100000 in
theorem rrow_any (A : Option Addr) (n c : Nat) (l : List Int) (rise : Bool) (w : World) (hn : n ≤ 20) (hl : IsInts w w.heap.size A n l) :
    Calls Tryd.prog 7 #[.slice A n c, .bool rise] w fun e w' => e = .returned (.int .i64 (lg (upB rise) l.reverse : Nat)) ∧ Below w.heap.size w w' := by
  obtain ⟨i0, hi, hz0, hz1, hz2⟩ := info_parts int_info
  have HL := hid hl
  have hln : l.length = n := hl.1
  clear hl
  go_enter Tryd.func7, Tryd.ntmps7
  go_wp2_with (at_make; refine wpList_make_full _ rfl _ _ 22 rfl w.heap.size 3 i0 (.int .i64 0) 1 Tryd.underlying22 hi hz0 hz1 _ _ _ _ n rfl rfl rfl rfl (by rw [hz2]; omega) (by unfold maxLen; omega) (Nat.le_refl _) ?_)
  intro w1 hown hgrow
  have hb1 : Below w.heap.size w w1 := (Below.refl _ _).grown hgrow (Nat.le_refl _) (by simp)
  have HM := hid ((NumF.made hown).congr (F' := fun j => if j < 0 then (moL (upB rise) l j : Int) else 0) fun j _ => by simp)
  clear hown hgrow
  have HLN := hid hln
  clear hln
  obtain ⟨G, hG⟩ : ∃ G, G = w.heap.size := ⟨_, rfl⟩
  have HGW := hid hG
  rw [← hG] at HM ⊢
  clear hG
  go_wp2_with fail
  go_loopw [5, 7] (fun y x wr => ∃ i : Nat, i ≤ n ∧ x = .int .i64 i ∧ y = .int .i64 (lg (upB rise) (pre l i) : Nat) ∧ Hid (NumF wr G 3 n fun j => if j < i then (moL (upB rise) l j : Int) else 0) ∧ Below w.heap.size w wr) (fun _ x _ => n - (intOf x).toNat)
  case atStart => exact ⟨0, by omega, rfl, rfl, HM, hb1⟩
  case round =>
    clear HM hb1
    obtain ⟨i, hin, rfl, rfl, HM, hbw⟩ := hrel
    have hlg : lg (upB rise) (pre l i) ≤ 20 := by
      have := lg_le (upB rise) (pre l i)
      rw [pre_len (by rw [HLN.out]; exact hin)] at this
      omega
    by_cases hlt : i < n
    · have hli : i < l.length := by rw [HLN.out]; exact hlt
      obtain ⟨g, off, rfl, hg, hc⟩ := HL.out.2 (by omega)
      have hc : ∀ j, j < n → ∀ W, Below w.heap.size w W → W.cell? ⟨g, off + j, none⟩ = some (.int .i64 (l.getD j 0)) := fun j hj W hW => (hW.cell hg).trans (hc j hj)
      have HC := hid hc
      have hfr := HM.out.frozen i
      have hci := HM.out.cell hlt
      rw [if_neg (Nat.lt_irrefl i)] at hci
      obtain ⟨st1, st2⟩ := HM.out.set i 1
      have HN := hid (st1.congr (F' := fun j => if j < i then (moL (upB rise) l j : Int) else if j = i then ((wl (upB rise) (pre l 0) (l.getD i 0) + 1 : Nat) : Int) else 0) fun j _ => by
        by_cases e : j = i
        · rw [if_pos e, if_neg (by omega), if_pos e, pre_zero]; rfl
        · rw [if_neg e, if_neg e])
      have hbx := hbw.trans (st2.below (B := w.heap.size) (by rw [HGW.out]; exact Nat.le_refl _))
      clear hc HM hbw st1 st2
      obtain ⟨w0, hw0⟩ : ∃ z, z = wr.setCell ⟨G, i, none⟩ (.int .i64 1) := ⟨_, rfl⟩
      rw [← hw0] at HN hbx
      have HW0 := hid hw0
      clear hw0
      go_wp2_with fail
      rw [← HW0.out]
      clear HW0 hci hfr
      go_loopw [8] (fun x wr => ∃ k : Nat, k ≤ i ∧ x = .int .i64 k ∧ Hid (NumF wr G 3 n fun j => if j < i then (moL (upB rise) l j : Int) else if j = i then ((wl (upB rise) (pre l k) (l.getD i 0) + 1 : Nat) : Int) else 0) ∧ Below w.heap.size w wr) (fun x _ => i - (intOf x).toNat)
      case atStart => exact ⟨0, by omega, rfl, HN, hbx⟩
      case round =>
        clear HN hbx
        obtain ⟨k, hki, rfl, HN, hbx⟩ := hrel
        have xi := HC.out i hlt _ hbx
        have mi := HN.out.cell hlt
        rw [if_neg (Nat.lt_irrefl i), if_pos rfl] at mi
        have hwi : wl (upB rise) (pre l k) (l.getD i 0) ≤ 20 := by
          have := wl_len (upB rise) (l.getD i 0) (pre l k)
          rw [pre_len (by omega)] at this
          omega
        by_cases hlt2 : k < i
        · have hkn : k < n := by omega
          have hkl : k < l.length := by omega
          have xk := HC.out k hkn _ hbx
          have mk := HN.out.cell hkn
          rw [if_pos hlt2] at mk
          have hwk : moL (upB rise) l k ≤ 21 := by
            have := wl_len (upB rise) (l.getD k 0) (pre l k)
            rw [pre_len (by omega)] at this
            unfold moL
            omega
          have hstep := wl_pre (P := upB rise) hkl (l.getD i 0)
          have hway := up_way (rise := rise) (l := l) (i := i) (k := k)
          have hfi := HN.out.frozen i
          have HSAME : upB rise (l.getD k 0) (l.getD i 0) = false ∨ moL (upB rise) l k ≤ wl (upB rise) (pre l k) (l.getD i 0) → Hid (∀ W, NumF W G 3 n (fun j => if j < i then (moL (upB rise) l j : Int) else if j = i then ((wl (upB rise) (pre l k) (l.getD i 0) + 1 : Nat) : Int) else 0) → NumF W G 3 n (fun j => if j < i then (moL (upB rise) l j : Int) else if j = i then ((wl (upB rise) (pre l (k + 1)) (l.getD i 0) + 1 : Nat) : Int) else 0)) := fun h => hid fun W hW => by
            have : wl (upB rise) (pre l (k + 1)) (l.getD i 0) = wl (upB rise) (pre l k) (l.getD i 0) := by
              rw [hstep]
              rcases h with h | h
              · rw [h]; rfl
              · split
                · exact Nat.max_eq_left h
                · rfl
            rw [this]; exact hW
          have HMORE : upB rise (l.getD k 0) (l.getD i 0) = true → wl (upB rise) (pre l k) (l.getD i 0) < moL (upB rise) l k → Hid (∀ W, NumF W G 3 n (fun j => if j < i then (moL (upB rise) l j : Int) else if j = i then ((wl (upB rise) (pre l k) (l.getD i 0) + 1 : Nat) : Int) else 0) →
              NumF (W.setCell ⟨G, i, none⟩ (.int .i64 ((moL (upB rise) l k : Int) + 1))) G 3 n (fun j => if j < i then (moL (upB rise) l j : Int) else if j = i then ((wl (upB rise) (pre l (k + 1)) (l.getD i 0) + 1 : Nat) : Int) else 0) ∧ Only G W (W.setCell ⟨G, i, none⟩ (.int .i64 ((moL (upB rise) l k : Int) + 1)))) := fun h1 h2 => hid fun W hW => by
            obtain ⟨s1, s2⟩ := hW.set i ((moL (upB rise) l k : Int) + 1)
            refine ⟨s1.congr fun j _ => ?_, s2⟩
            rw [hstep, h1, if_pos rfl, Nat.max_eq_right (by omega)]
            by_cases e : j = i
            · rw [if_pos e, if_neg (by omega), if_pos e]; push_cast; rfl
            · rw [if_neg e, if_neg e, if_neg e]
          have hcmp : moL (upB rise) l k ≤ wl (upB rise) (pre l k) (l.getD i 0) ∨ wl (upB rise) (pre l k) (l.getD i 0) < moL (upB rise) l k := by omega
          clear hstep
          have HQ2 : ∀ q, Hid (Below w.heap.size w (wr.drewN q)) := fun q => hid (below_drewN hbx q)
          have HND : ∀ q, Hid (NumF (wr.drewN q) G 3 n fun j => if j < i then (moL (upB rise) l j : Int) else if j = i then ((wl (upB rise) (pre l k) (l.getD i 0) + 1 : Nat) : Int) else 0) := fun q => hid (HN.out.drewN q)
          have h1 : ∀ a b : Nat, a ≤ b → decide ((a : Int) + 1 > ((b + 1 : Nat) : Int)) = false := fun a b h => decide_eq_false (by omega)
          have h2 : ∀ a b : Nat, b < a → decide ((a : Int) + 1 > ((b + 1 : Nat) : Int)) = true := fun a b h => decide_eq_true (by omega)
          obtain ⟨V, hV⟩ : ∃ V : Nat, V = wl (upB rise) (pre l k) (l.getD i 0) + 1 := ⟨_, rfl⟩
          have hcm2 : (moL (upB rise) l k ≤ wl (upB rise) (pre l k) (l.getD i 0) ∧ ¬ ((moL (upB rise) l k : Int) + 1 > (V : Int))) ∨ (wl (upB rise) (pre l k) (l.getD i 0) < moL (upB rise) l k ∧ (moL (upB rise) l k : Int) + 1 > (V : Int)) := by omega
          have hV22 : V ≤ 21 := by omega
          rw [← hV] at mi
          clear h1 h2 hcmp hwi HN
          obtain ⟨X, hX⟩ : ∃ X, X = l.getD k 0 := ⟨_, rfl⟩
          obtain ⟨Y, hY⟩ : ∃ Y, Y = l.getD i 0 := ⟨_, rfl⟩
          obtain ⟨M, hM⟩ : ∃ M, M = moL (upB rise) l k := ⟨_, rfl⟩
          rw [← hX] at xk
          rw [← hY] at xi
          rw [← hM] at mk hwk
          have hw3 : (rise = true ∧ ((decide (X < Y) = true ∧ Hid (upB rise (l.getD k 0) (l.getD i 0) = true)) ∨ (decide (X < Y) = false ∧ Hid (upB rise (l.getD k 0) (l.getD i 0) = false)))) ∨ (rise = false ∧ ((decide (X ≥ Y) = true ∧ Hid (upB rise (l.getD k 0) (l.getD i 0) = true)) ∨ (decide (X ≥ Y) = false ∧ Hid (upB rise (l.getD k 0) (l.getD i 0) = false)))) := by
            rw [hX, hY]
            rcases hway with ⟨a1, ⟨a2, a3⟩ | ⟨a2, a3⟩⟩ | ⟨a1, ⟨a2, a3⟩ | ⟨a2, a3⟩⟩
            · exact .inl ⟨a1, .inl ⟨a2, hid a3⟩⟩
            · exact .inl ⟨a1, .inr ⟨a2, hid a3⟩⟩
            · exact .inr ⟨a1, .inl ⟨a2, hid a3⟩⟩
            · exact .inr ⟨a1, .inr ⟨a2, hid a3⟩⟩
          have hcm3 : (Hid (moL (upB rise) l k ≤ wl (upB rise) (pre l k) (l.getD i 0)) ∧ ¬ ((M : Int) + 1 > (V : Int))) ∨ (Hid (wl (upB rise) (pre l k) (l.getD i 0) < moL (upB rise) l k) ∧ (M : Int) + 1 > (V : Int)) := by
            rw [hM]
            rcases hcm2 with ⟨a1, a2⟩ | ⟨a1, a2⟩
            · exact .inl ⟨hid a1, a2⟩
            · exact .inr ⟨hid a1, a2⟩
          have HMX := hid hM
          clear hway hcm2 hX hY hM hV
          have k1 : (k : Int) < (n : Int) := by omega
          have k2 : (i : Int) < (n : Int) := by omega
          rcases hw3 with ⟨rfl, ⟨hd, HU⟩ | ⟨hd, HU⟩⟩ | ⟨rfl, ⟨hd, HU⟩ | ⟨hd, HU⟩⟩
          focus
            rcases hcm3 with ⟨HC1, hgt⟩ | ⟨HC1, hgt⟩
            focus
              have hdg : decide ((M : Int) + 1 > (V : Int)) = false := decide_eq_false hgt
              have HS := HSAME (.inr HC1.out)
              clear HSAME HMORE hgt
              go_wp2_with fail
              go_quiet (fail)
              go_wp2_with fail
              go_roundw
              case rel => exact ⟨k + 1, by omega, by go_num, hid (HS.out _ (HND _).out), (HQ2 _).out⟩
              case measure => simp [intOf]; omega
            focus
              have hdg : decide ((M : Int) + 1 > (V : Int)) = true := decide_eq_true hgt
              have HS := HMORE HU.out HC1.out
              rw [← HMX.out] at HS
              clear HSAME HMORE
              go_wp2_with fail
              go_quiet (fail)
              rename_i nq _
              obtain ⟨s1, s2⟩ := HS.out _ (HND nq).out
              have HS1 := hid s1
              have hb9 := (HQ2 nq).out.trans (s2.below (B := w.heap.size) (by rw [HGW.out]; exact Nat.le_refl _))
              have hf9 : (wr.drewN nq).frozen? ⟨G, i, none⟩ = false := hfi
              have hm9 : (wr.drewN nq).cell? ⟨G, k, none⟩ = _ := mk
              have hi9 : (wr.drewN nq).cell? ⟨G, i, none⟩ = _ := mi
              clear s1 s2 HS HND HQ2 hfi mk mi xk xi
              generalize wr.drewN nq = wz at HS1 hb9 hf9 hm9 hi9 ⊢
              go_wp2_with fail
              go_roundw
              case rel => exact ⟨k + 1, by omega, by go_num, HS1, hb9⟩
              case measure => simp [intOf]; omega
          focus
            have HS := HSAME (.inl HU.out)
            clear HSAME HMORE hcm3
            go_wp2_with fail
            go_quiet (fail)
            go_wp2_with fail
            go_roundw
            case rel => exact ⟨k + 1, by omega, by go_num, hid (HS.out _ (HND _).out), (HQ2 _).out⟩
            case measure => simp [intOf]; omega
          focus
            rcases hcm3 with ⟨HC1, hgt⟩ | ⟨HC1, hgt⟩
            focus
              have hdg : decide ((M : Int) + 1 > (V : Int)) = false := decide_eq_false hgt
              have HS := HSAME (.inr HC1.out)
              clear HSAME HMORE hgt
              go_wp2_with fail
              go_quiet (fail)
              go_wp2_with fail
              go_roundw
              case rel => exact ⟨k + 1, by omega, by go_num, hid (HS.out _ (HND _).out), (HQ2 _).out⟩
              case measure => simp [intOf]; omega
            focus
              have hdg : decide ((M : Int) + 1 > (V : Int)) = true := decide_eq_true hgt
              have HS := HMORE HU.out HC1.out
              rw [← HMX.out] at HS
              clear HSAME HMORE
              go_wp2_with fail
              go_quiet (fail)
              rename_i nq _
              obtain ⟨s1, s2⟩ := HS.out _ (HND nq).out
              have HS1 := hid s1
              have hb9 := (HQ2 nq).out.trans (s2.below (B := w.heap.size) (by rw [HGW.out]; exact Nat.le_refl _))
              have hf9 : (wr.drewN nq).frozen? ⟨G, i, none⟩ = false := hfi
              have hm9 : (wr.drewN nq).cell? ⟨G, k, none⟩ = _ := mk
              have hi9 : (wr.drewN nq).cell? ⟨G, i, none⟩ = _ := mi
              clear s1 s2 HS HND HQ2 hfi mk mi xk xi
              generalize wr.drewN nq = wz at HS1 hb9 hf9 hm9 hi9 ⊢
              go_wp2_with fail
              go_roundw
              case rel => exact ⟨k + 1, by omega, by go_num, HS1, hb9⟩
              case measure => simp [intOf]; omega
          focus
            have HS := HSAME (.inl HU.out)
            clear HSAME HMORE hcm3
            go_wp2_with fail
            go_quiet (fail)
            go_wp2_with fail
            go_roundw
            case rel => exact ⟨k + 1, by omega, by go_num, hid (HS.out _ (HND _).out), (HQ2 _).out⟩
            case measure => simp [intOf]; omega
        · obtain rfl : k = i := by omega
          have hmo : ((wl (upB rise) (pre l k) (l.getD k 0) + 1 : Nat) : Int) = (moL (upB rise) l k : Int) := rfl
          rw [hmo] at mi
          have HN2 := hid (HN.out.congr (F' := fun j => if j < k + 1 then (moL (upB rise) l j : Int) else 0) fun j _ => by
            by_cases e1 : j < k
            · rw [if_pos e1, if_pos (by omega)]
            · rw [if_neg e1]
              by_cases e2 : j = k
              · rw [if_pos e2, if_pos (by omega), e2, hmo]
              · rw [if_neg e2, if_neg (by omega)])
          have hbest := lg_pre (P := upB rise) hli
          have hd : decide (k < k) = false := decide_eq_false (by omega)
          have hmo2 : moL (upB rise) l k ≤ 21 := by unfold moL; omega
          have hway : (decide (lg (upB rise) (pre l k) < moL (upB rise) l k) = true ∧ Hid (lg (upB rise) (pre l (k + 1)) = moL (upB rise) l k)) ∨ (decide (lg (upB rise) (pre l k) < moL (upB rise) l k) = false ∧ Hid (lg (upB rise) (pre l (k + 1)) = lg (upB rise) (pre l k))) := by
            by_cases e : lg (upB rise) (pre l k) < moL (upB rise) l k
            · exact .inl ⟨decide_eq_true (by omega), hid (by rw [hbest]; exact Nat.max_eq_right (by omega))⟩
            · exact .inr ⟨decide_eq_false (by omega), hid (by rw [hbest]; exact Nat.max_eq_left (by omega))⟩
          clear hbest hmo hwi HN hlt2
          generalize moL (upB rise) l k = M at mi hmo2 hway
          generalize lg (upB rise) (pre l k) = L at hway hlg ⊢
          rcases hway with ⟨hd2, HB⟩ | ⟨hd2, HB⟩
          all_goals (
            go_wp2_with fail
            go_roundw
            case rel => exact ⟨k + 1, by omega, by go_num, by rw [HB.out], HN2, hbx⟩
            case measure => simp [intOf]; omega)
    · obtain rfl : i = n := by omega
      have HR := hid (pre_all (l := l) (i := i) (by rw [HLN.out]; exact Nat.le_refl _))
      rw [HR.out] at hlg ⊢
      have hd : decide (i < i) = false := decide_eq_false (by omega)
      clear HM HL hlt
      obtain ⟨L, hL⟩ : ∃ L, L = lg (upB rise) l.reverse := ⟨_, rfl⟩
      rw [← hL] at hlg ⊢
      have HLL := hid hL
      clear hL
      go_wp2_with fail
      go_ret
      exact ⟨by rw [HLL.out]; rfl, hbw⟩
end Go.Proofs.YtmfpjbhgmcmceaaDoor
