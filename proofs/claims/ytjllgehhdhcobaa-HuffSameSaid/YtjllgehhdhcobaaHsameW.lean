/-
  The walk of HuffSame: it returns true at every list of weights. Conditions: the row's own sizes, and a capacity that is not below the length.
-/
import Derived.Test.YtjllgehhdhcobaaHfact
import Derived.Test.YtjllgehhdhcobaaAllr
import Derived.Test.YtjllgehhdhcobaaTurned
import Derived.StillTailTactics
namespace Go.Proofs.Ytjllgehhdhcobaa
open Go.RowKit

theorem good_rev {l : List Int} (h : GoodH l) : GoodH l.reverse := ⟨by rw [List.length_reverse]; exact h.1, by rw [List.length_reverse]; exact h.2.1, fun x hx => h.2.2 x (by simpa using hx)⟩
theorem good_pos {l : List Int} (h : GoodH l) : ∀ x ∈ l, 0 ≤ x := fun x hx => (h.2.2 x hx).1
theorem same_rev {l : List Int} {D D' : List Nat} (hg : GoodH l) (h : Dep l D) (h' : Dep l.reverse D') : cst (l.reverse.zip D') = cst (l.zip D) :=
  hc_one (hc_perm (dep_hc h') (List.reverse_perm l)) (dep_hc h) (good_pos hg)
/-- Twice as heavy. -/
def dbl (l : List Int) : List Int := l.map fun x => 2 * x
theorem dbl_len (l : List Int) : (dbl l).length = l.length := by simp [dbl]
theorem dbl_succ (l : List Int) {i : Nat} (hi : i < l.length) : dbl (l.take (i + 1)) = dbl (l.take i) ++ [2 * l.getD i 0] := by
  unfold dbl
  rw [List.take_succ_eq_append_getElem hi, List.map_append]
  simp [hi]
theorem same_dbl {l : List Int} {D D' : List Nat} (hg : GoodH l) (h : Dep l D) (h' : Dep (dbl l) D') : cst ((dbl l).zip D') = 2 * cst (l.zip D) :=
  hc_one (dep_hc h') (hc_twice (dep_hc h)) (fun x hx => by
    obtain ⟨y, hy, rfl⟩ := List.mem_map.1 hx
    have := good_pos hg y hy
    omega)
theorem bad_dbl {l : List Int} {k : Int} (hg : GoodH l) (h : BadH (dbl l) k) : ¬ InL 0 1000 (dbl l) := by
  rcases h with ⟨h, _⟩ | ⟨h, _⟩ | ⟨_, _, ⟨i, hi, hn⟩, _⟩
  · have := hg.1; rw [dbl_len] at h; omega
  · have := hg.2.1; rw [dbl_len] at h; omega
  · exact fun hI => hn (hI i hi)
theorem same_one {l : List Int} {D : List Nat} (h : Dep l D) (h1 : l.length = 1) : cst (l.zip D) = 0 := by
  obtain ⟨x, rfl⟩ := List.length_eq_one_iff.1 h1
  rw [dep_one h (Dep.one x)]
  simp [cst]
theorem two_of {l : List Int} (h : 2 ≤ l.length) : l = l.getD 0 0 :: l.getD 1 0 :: l.drop 2 := by
  match l, h with
  | a :: b :: l, _ => rfl
/-- Two put together. -/
def both (l : List Int) : List Int := [l.getD 0 0 + l.getD 1 0] ++ l.drop 2
theorem both_len {l : List Int} (h : 2 ≤ l.length) : (both l).length = l.length - 1 := by
  unfold both
  rw [List.length_append, List.length_drop, List.length_singleton]
  omega
theorem good_both {l : List Int} (hg : GoodH l) (h2 : 2 ≤ l.length) (h : l.getD 0 0 + l.getD 1 0 ≤ 1000) : GoodH (both l) := by
  have hl := both_len h2
  refine ⟨by omega, by have := hg.2.1; omega, fun x hx => ?_⟩
  rcases List.mem_append.1 hx with hx | hx
  · rw [List.mem_singleton.1 hx]
    have a := goodH_at hg (i := 0) (by omega)
    have b := goodH_at hg (i := 1) (by omega)
    omega
  · exact hg.2.2 x (List.mem_of_mem_drop hx)
theorem same_both {l : List Int} {D D' : List Nat} (hg : GoodH l) (h2 : 2 ≤ l.length) (h : Dep l D) (h' : Dep (both l) D') : cst (l.zip D) ≤ cst ((both l).zip D') + l.getD 0 0 + l.getD 1 0 := by
  have e := two_of h2
  have h3 := dep_hc h
  generalize cst (l.zip D) = c at h3 ⊢
  rw [e] at h3
  exact hc_both h3 (dep_hc h') (by rw [← e]; exact good_pos hg)
theorem cost_small {l : List Int} {D : List Nat} (hg : GoodH l) (h : Dep l D) : 0 ≤ cst (l.zip D) ∧ cst (l.zip D) ≤ 90000 := by
  have hdl := dep_len h
  have := cst_small (q := 9) hdl (fun i hi => goodH_at hg hi) (fun i _ => dep_small h hg.2.1 i) l.length (Nat.le_refl _)
  rw [List.take_of_length_le (by rw [List.length_zip]; omega)] at this
  have h10 := hg.2.1
  refine ⟨this.1, Int.le_trans this.2 ?_⟩
  have e9 : ((9 : Nat) : Int) = 9 := rfl
  rw [e9]
  omega

set_option maxHeartbeats 2000000 in
set_option maxRecDepth 100000 in
theorem huffSame_any (A : Option Addr) (n c : Nat) (l : List Int) (w : World) (hl : IsInts w w.heap.size A n l) (hcap : n ≤ c) :
    Calls Try.prog 5 #[.slice A n c] w fun e w' => e = .returned (.bool true) ∧ Below w.heap.size w w' := by
  obtain ⟨i0, hi, hz0, hz1, hz2⟩ := info_parts int_info
  have HF := fun W => hid (hfact_any W)
  have HL := fun (w1 : World) (h1 : Below w.heap.size w w1) => hid ((hl.below h1).keep (w' := w1) h1.size fun _ _ _ => rfl)
  have hn := hl.1
  clear hl
  go_enter Try.func5, Try.ntmps5
  go_wp2_with fail
  refine (HF _).out.mono ?_
  rintro e w1 ⟨rfl, hb1⟩
  clear HF
  rcases badH_or l with hg | ⟨k, hk⟩
  rotate_left
  · have HC := hid (hcost_bad A n c l k w1 (HL w1 hb1).out hk)
    clear HL hk hn
    go_wp2_with fail
    refine HC.out.mono ?_
    rintro e w2 ⟨rfl, hw2⟩
    subst w2
    go_wp2_with fail
    go_ret
    exact ⟨rfl, hb1⟩
  obtain ⟨D, hD⟩ := dep_ex (l.length - 1) l (by have := hg.1; omega)
  obtain ⟨D1, hD1⟩ := dep_ex (l.length - 1) l.reverse (by have := hg.1; rw [List.length_reverse]; omega)
  have h0 : 0 < n := by have := hg.1; omega
  have h10 : n ≤ 10 := by have := hg.2.1; omega
  have HC := hid (hcost_ok A n c l D w1 (HL w1 hb1).out hg hD)
  have HG := hid hg
  have HD := hid hD
  have HN := hid hn
  have HS1 := hid (same_rev hg hD hD1)
  have HD1 := hid hD1
  have hcs := cost_small hg hD
  clear hg hD hD1 hn
  obtain ⟨R, hR⟩ : ∃ R, R = cst (l.zip D) := ⟨_, rfl⟩
  have HR := hid hR
  rw [← hR] at HC HS1 hcs
  clear hR
  go_wp2_with fail
  refine HC.out.mono ?_
  rintro e w2 ⟨rfl, hb2⟩
  have hb := hb1.trans (hb2.mono hb1.size)
  clear HC hb1 hb2
  have HT := hid (turned_ints A n c l w2 (by omega) (HL w2 hb).out)
  go_wp2_with fail
  refine HT.out.mono ?_
  rintro e w3 ⟨v, rfl, hown, hb3⟩
  obtain ⟨B, cB, rfl, hcB, hIB⟩ := IsInts.of_own hown
  have hbC := hb.trans (hb3.mono hb.size)
  have HC := hid (hcost_ok B l.reverse.length cB l.reverse D1 w3 hIB (good_rev HG.out) HD1.out)
  rw [HS1.out] at HC
  clear HT hown hb hb3 hIB
  generalize l.reverse.length = nr at HC hcB ⊢
  go_wp2_with fail
  refine HC.out.mono ?_
  rintro e w4 ⟨rfl, hb4⟩
  have hb := hbC.trans (hb4.mono hbC.size)
  clear HC hbC hb4 HS1 HD1 hcB
  obtain ⟨g, off, rfl, hgl, hc⟩ := (HL w4 hb).out.2 h0
  have HX : Hid (∀ (W : World), Below w4.heap.size w4 W → ∀ i, i < n → W.cell? ⟨g, off + i, none⟩ = some (.int .i64 (l.getD i 0))) := hid (fun W hW i hi => (hW.cell (p := ⟨g, off + i, none⟩) hgl).trans (hc i hi))
  clear hc
  go_wp2_with fail
  go_loopw [7, 8] (fun v x wr => ∃ i : Nat, i ≤ n ∧ x = .int .i64 i ∧ Hid (OwnI wr w4.heap.size 3 v (dbl (l.take i))) ∧ Below w4.heap.size w4 wr) (fun _ x _ => n - (intOf x).toNat)
  case atStart => exact ⟨0, by omega, rfl, hid (OwnI.nil _ _ _), Below.refl _ _⟩
  case round =>
    obtain ⟨i, hin, rfl, HO, hbr⟩ := hrel
    by_cases hlt : i < n
    · have c1 := HX.out wr hbr i hlt
      have hx := goodH_at HG.out (i := i) (by have := HN.out; omega)
      have HE := hid (dbl_succ l (i := i) (by have := HN.out; omega))
      have hle : (dbl (l.take i)).length ≤ 1099511627776 := by rw [dbl_len, List.length_take]; omega
      have hsz := hbr.size
      generalize dbl (l.take i) = cs at HO HE hle
      generalize l.getD i 0 = X at c1 hx HE
      have i1 : (i : Int) < (n : Int) := by omega
      go_wp2_with (at_builtin; refine wpList_append_int _ rfl (.tmp 41) (.tmp 47) 22 rfl w4.heap.size 3 i0 Try.underlying22 hi hz0 hz1 hz2 _ cs rfl HO.out (2 * X) rfl hle hsz ?_)
      intro v' w6 hown6 hb6
      have HO6 := hid hown6
      clear hown6 HO c1
      go_wp2_with fail
      go_roundw
      case rel => exact ⟨i + 1, by omega, by go_num, hid (by rw [HE.out]; exact HO6.out), hbr.trans hb6⟩
      case measure => simp [intOf]; omega
    · obtain rfl : i = n := by omega
      have hO := HO.out
      rw [List.take_of_length_le (by rw [HN.out]; exact Nat.le_refl _)] at hO
      obtain ⟨T, cT, rfl, hcT, hIT⟩ := IsInts.of_own hO
      have hdl := dbl_len l
      clear HO hO
      have hbw := hb.trans (hbr.mono hb.size)
      obtain ⟨wz, rfl⟩ : ∃ q, q = wr := ⟨_, rfl⟩
      have hsz4 := hbr.size
      have hbf := hb
      rcases Nat.lt_or_ge i 2 with hlt2 | hge2
      focus
        have hR0 : R = 0 := by rw [HR.out]; exact same_one HD.out (by have := HN.out; omega)
        subst hR0
      rotate_left
      focus
        skip
      rotate_left
      all_goals (
        rcases badH_or (dbl l) with hg2 | ⟨k2, hk2⟩
        focus
          obtain ⟨D2, hD2⟩ := dep_ex ((dbl l).length - 1) (dbl l) (by have := hg2.1; omega)
          have HC2 := hid (hcost_ok T (dbl l).length cT (dbl l) D2 wz hIT hg2 hD2)
          rw [same_dbl HG.out HD.out hD2, ← HR.out] at HC2
          clear hg2 hD2 hIT
          generalize (dbl l).length = nd at HC2 hcT hdl ⊢
          clear hcT hdl
          go_wp2_with fail
          refine HC2.out.mono ?_
          rintro e w5 ⟨rfl, hb5⟩
          have hb45 := hbr.trans (hb5.mono hsz4)
          clear HC2 hb5
          go_wp2_with fail
        rotate_left
        focus
          have HC2 := hid (hcost_bad T (dbl l).length cT (dbl l) k2 wz hIT hk2)
          have HA2 := hid (rallin_any T (dbl l).length cT (dbl l) 0 1000 wz (by have := HN.out; omega) hIT)
          have HB2 := hid (bad_dbl HG.out hk2)
          clear hk2 hIT
          generalize (dbl l).length = nd at HC2 HA2 hcT hdl ⊢
          clear hcT hdl
          go_wp2_with fail
          refine HC2.out.mono ?_
          rintro e w5 ⟨rfl, hw5⟩
          subst w5
          clear HC2
          go_wp2_with fail
          refine HA2.out.mono ?_
          rintro e w5 ⟨h, hw5⟩
          subst w5
          rcases h with ⟨h, _⟩ | ⟨_, rfl⟩
          · exact absurd h HB2.out
          have hb45 := hbr
          clear HA2 HB2
          obtain ⟨w5, rfl⟩ : ∃ q, q = wz := ⟨_, rfl⟩
          go_wp2_with fail
        rotate_left)
      any_goals (
        have hq := hlt2
        go_ret
        exact ⟨by first | rfl | simp, hb.trans (hb45.mono hb.size)⟩)
      all_goals (
        have hbW := hb.trans (hb45.mono hb.size)
        have c0 := HX.out w5 hb45 0 (by omega)
        have c1 := HX.out w5 hb45 1 (by omega)
        rw [Nat.add_zero] at c0
        have ga := goodH_at HG.out (i := 0) (by have := HN.out; omega)
        have gb := goodH_at HG.out (i := 1) (by have := HN.out; omega)
        have HBo : Hid (l.getD 0 0 + l.getD 1 0 ≤ 1000 → GoodH (both l) ∧ ∃ D3, Dep (both l) D3 ∧ R ≤ cst ((both l).zip D3) + l.getD 0 0 + l.getD 1 0) := hid (fun hs => by
          have h2 : 2 ≤ l.length := by have := HN.out; omega
          have hg3 := good_both HG.out h2 hs
          obtain ⟨D3, hD3⟩ := dep_ex ((both l).length - 1) (both l) (by have := hg3.1; omega)
          exact ⟨hg3, D3, hD3, by rw [HR.out]; exact same_both HG.out h2 HD.out hD3⟩)
        have HBl : Hid (both l = [l.getD 0 0 + l.getD 1 0] ++ l.drop 2) := hid rfl
        obtain ⟨a, ha⟩ : ∃ a, a = l.getD 0 0 := ⟨_, rfl⟩
        obtain ⟨b, hb0⟩ : ∃ b, b = l.getD 1 0 := ⟨_, rfl⟩
        rw [← ha] at c0 ga HBo HBl
        rw [← hb0] at c1 gb HBo HBl
        have hA0 := hid ha.symm
        have hB0 := hid hb0.symm
        clear ha hb0
        have s1 : IntKind.i64.wrap (a + b) = a + b := IntWalk.i64_in _ (by omega)
        have i1 : (1 : Int) < (i : Int) := by omega
        have i0' : (0 : Int) < (i : Int) := by omega
        by_cases hs : a + b ≤ 1000
        · obtain ⟨hg3, D3, hD3, hle⟩ := HBo.out hs
          have s2 : ¬ (1000 < a + b) := by omega
          clear HBo
          go_quiet (fail)
          go_wp2_with fail
          generalize hw6 : World.drewN w5 _ = w6
          have d0 : w6.cell? ⟨g, off, none⟩ = some (.int .i64 a) := by rw [← hw6]; exact c0
          have d1 : w6.cell? ⟨g, off + 1, none⟩ = some (.int .i64 b) := by rw [← hw6]; exact c1
          have hb46 : Below w4.heap.size w4 w6 := by rw [← hw6]; exact below_drewN hb45 _
          clear hw6 c0 c1
          go_still_tail 7, (by kernel_rfl)
          change wpList _ _ _ _ _ w6.drew
          have hb47 : Below w4.heap.size w4 w6.drew := hb46.drew
          clear d0 d1 hb46
          generalize w6.drew = w7 at hb47 ⊢
          have hbA : Below w4.heap.size w4 (w7.alloc (.cells #[.int .i64 (a + b)] 3)) := hb47.alloc hb47.size _
          have hsA : w7.heap.size ≤ (w7.alloc (.cells #[.int .i64 (a + b)] 3)).heap.size := by simp
          have HO := hid (OwnI.lit w7 3 (a + b))
          have HXA : Hid (∀ j, j < i - 2 → (w7.alloc (.cells #[.int .i64 (a + b)] 3)).cell? ⟨g, off + 2 + j, none⟩ = some (.int .i64 ((l.drop 2).getD j 0))) := hid (fun j hj => by
            rw [Nat.add_assoc, HX.out _ hbA (2 + j) (by omega)]
            simp [List.getD_eq_getElem?_getD])
          have hld : (l.drop 2).length = i - 2 := by rw [List.length_drop, HN.out]
          have HLd := hid hld
          clear hld
          by_cases hc2 : c = 2
          focus
            obtain rfl : i = 2 := by omega
            subst hc2
            go_wp2_with (at_builtin; refine wpList_append_ints _ rfl (.tmp 92) (.tmp 94) 22 rfl w7.heap.size 3 i0 Try.underlying22 hi hz0 hz1 hz2 _ [a + b] rfl HO.out g off 0 0 (l.drop 2) HLd.out rfl (fun j hj => absurd hj (by omega)) (by simp) hsA ?_)
          rotate_left
          focus
            have hle2 : [a + b].length + (i - 2) ≤ 1099511627776 := by simp; omega
            go_wp2_with (at_builtin; refine wpList_append_ints _ rfl (.tmp 92) (.tmp 94) 22 rfl w7.heap.size 3 i0 Try.underlying22 hi hz0 hz1 hz2 _ [a + b] rfl HO.out g (off + 2) (i - 2) (c - 2) (l.drop 2) HLd.out rfl HXA.out hle2 hsA ?_)
            clear hle2
          rotate_left
          all_goals (
            intro v' w8 hown8 hb8
            have hO8 : OwnI w8 w7.heap.size 3 v' (both l) := by rw [HBl.out]; exact hown8
            obtain ⟨T3, c3, rfl, hc3, hI3⟩ := IsInts.of_own hO8
            have hb48 := hbA.trans (hb8.mono hb47.size)
            have HC3 := hid (hcost_ok T3 (both l).length c3 (both l) D3 w8 hI3 hg3 hD3)
            have hk3 := cost_small hg3 hD3
            generalize cst ((both l).zip D3) = K3 at HC3 hk3 hle
            generalize (both l).length = n3 at HC3 hc3 ⊢
            clear hown8 hO8 hI3 hg3 hD3 hc3 HBl HXA HO
            go_wp2_with fail
            refine HC3.out.mono ?_
            rintro e w9 ⟨rfl, hb9⟩
            have hb49 := hb48.trans (hb9.mono hb48.size)
            have d0 := HX.out w9 hb49 0 (by omega)
            have d1 := HX.out w9 hb49 1 (by omega)
            rw [Nat.add_zero] at d0
            have e0 : l.getD 0 0 = a := hA0.out
            have e1 : l.getD 1 0 = b := hB0.out
            rw [e0] at d0
            rw [e1] at d1
            have s3 : IntKind.i64.wrap (K3 + a) = K3 + a := IntWalk.i64_in _ (by omega)
            have s4 : IntKind.i64.wrap (K3 + a + b) = K3 + a + b := IntWalk.i64_in _ (by omega)
            have hbE := hb.trans (hb49.mono hb.size)
            clear HC3 hb9 e0 e1 HX
            go_wp2_with fail
            go_quiet (fail)
            go_wp2_with fail
            go_ret
            exact ⟨by first | rfl | simp [hle], below_drewN hbE _⟩)
        · have s2 : 1000 < a + b := by omega
          clear HBo
          go_quiet (fail)
          go_wp2_with fail
          go_ret
          exact ⟨rfl, below_drewN hbW _⟩)
end Go.Proofs.Ytjllgehhdhcobaa
