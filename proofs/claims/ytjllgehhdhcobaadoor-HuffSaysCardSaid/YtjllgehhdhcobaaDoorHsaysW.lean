/-
  The walk of HuffSays: it returns true at every list of weights, and leaves the old memory alone. Conditions: the row's own sizes; errors.errorType as the program's text lays it.
-/
import Derived.Test.YtjllgehhdhcobaaDoorErr
import Derived.Test.YtjllgehhdhcobaaDoorHcost
import Derived.Test.YtjllgehhdhcobaaDoorHref
import Derived.Test.YtjllgehhdhcobaaDoorInts
namespace Go.Proofs.YtjllgehhdhcobaaDoor
open Go.RowKit

theorem ints_on {w w' : World} {n : Nat} {A : Option Addr} {xs : List Int} (h : IsInts w w.heap.size A n xs) (hb : Below w.heap.size w w') : IsInts w' w'.heap.size A n xs := h.keep hb.size fun _ _ hp => hb.cell hp
set_option maxHeartbeats 4000000 in
set_option maxRecDepth 100000 in
theorem huffSays_any (A : Option Addr) (n c : Nat) (l : List Int) (w : World) (hl : IsInts w w.heap.size A n l) (hg : Laid w) :
    Calls Tryd.prog 3 #[.slice A n c] w fun e w' => e = .returned (.bool true) ∧ Below w.heap.size w w' := by
  have hp := hg.pos
  have HL := hid hl
  have hn := hl.1
  clear hl
  rcases badH_or l with hG | ⟨k, hk⟩
  · obtain ⟨D, hD⟩ := dep_ex (l.length - 1) l (by have := hG.1; omega)
    have h0 : 0 < n := by have := hG.1; omega
    have h10 : n ≤ 10 := by have := hG.2.1; omega
    have hdl := dep_len hD
    have H1 := hid (rweights_good A n c l w HL.out hG)
    have H2 := hid (hcheck_any A n c l w HL.out)
    have H3 := hid (rhuff_any A n c l D w HL.out hG hD)
    have HLo := fun (W : World) (hW : Below w.heap.size w W) => hid (hlong_ok A n c l D W (ints_on HL.out hW) hG hD)
    have HCo := fun (W : World) (hW : Below w.heap.size w W) => hid (hcost_ok A n c l D W (ints_on HL.out hW) hG hD)
    have HG := hid hG
    have HS : Hid (∀ i, i < n → cst ((l.zip D).take (i + 1)) = cst ((l.zip D).take i) + l.getD i 0 * ((D.getD i 0 : Nat) : Int)) := hid (fun i hi => cst_succ hdl (by omega))
    have HB : Hid (∀ i, i ≤ n → 0 ≤ cst ((l.zip D).take i) ∧ cst ((l.zip D).take i) ≤ 9000 * (i : Int)) := hid (fun i hi => by
      have := cst_small (q := 9) hdl (fun i hi => goodH_at hG hi) (fun i _ => dep_small hD hG.2.1 i) i (by omega)
      simpa using this)
    have HP : Hid (∀ i, i < n → 0 ≤ l.getD i 0 * ((D.getD i 0 : Nat) : Int) ∧ l.getD i 0 * ((D.getD i 0 : Nat) : Int) ≤ 9000) := hid (fun i hi => by
      have h1 := goodH_at hG (i := i) (by omega)
      have h2 := dep_small hD hG.2.1 i
      have := mul_small h1.1 h1.2 (b := ((D.getD i 0 : Nat) : Int)) (q := 9) (by omega) (by omega)
      omega)
    have HE : Hid (cst ((l.zip D).take n) = cst (l.zip D)) := hid (by rw [List.take_of_length_le (by rw [List.length_zip]; omega)])
    have HDn := hid (show D.length = n by omega)
    obtain ⟨g, off, rfl, hgl, hc⟩ := HL.out.2 h0
    have HX := hid hc
    clear hG hD hdl hn hc
    go_enter Tryd.func3, Tryd.ntmps3
    go_wp2_with fail
    refine H1.out.mono ?_
    rintro e w1 ⟨rfl, hw1⟩
    subst w1
    go_wp2_with fail
    refine H2.out.mono ?_
    rintro e w1 ⟨h, hw1⟩
    subst w1
    rcases h with ⟨_, rfl⟩ | ⟨k', h, _⟩
    rotate_left
    · exact (goodH_not HG.out h).elim
    go_wp2_with fail
    refine (error_nil _).mono ?_
    rintro e w1 ⟨rfl, hw1⟩
    subst w1
    go_wp2_with fail
    refine H3.out.mono ?_
    rintro e w1 ⟨L, rfl, hLw, hN, hb⟩
    have HN := hid hN
    clear hN H1 H2 H3 HG
    go_wp2_with fail
    go_loopw [6, 7] (fun v x wr => ∃ (i q : Nat), i ≤ n ∧ x = .int .i64 i ∧ v = .int .i64 (cst ((l.zip D).take i)) ∧ wr = w1.drewN q) (fun _ x _ => n - (intOf x).toNat)
    case atStart => exact ⟨0, 0, by omega, rfl, rfl, rfl⟩
    case round =>
      obtain ⟨i, q, hin, rfl, rfl, hwr⟩ := hrel
      subst wr
      by_cases hlt : i < n
      · have c1 := (hb.cell (p := ⟨g, off + i, none⟩) hgl).trans (HX.out i hlt)
        have c2 := HN.out.cell (k := i) (by rw [nums_len, HDn.out]; exact hlt)
        rw [nums_at] at c2
        have hS := hid (HS.out i hlt)
        have b1 := HB.out i hin
        have b2 := HP.out i hlt
        generalize cst ((l.zip D).take i) = Y at hS b1
        generalize l.getD i 0 = X at c1 hS b2
        generalize ((D.getD i 0 : Nat) : Int) = Z at c2 hS b2
        have s1 : IntKind.i64.wrap (X * Z) = X * Z := IntWalk.i64_in _ (by omega)
        have s2 : IntKind.i64.wrap (Y + X * Z) = Y + X * Z := IntWalk.i64_in _ (by omega)
        have i1 : (i : Int) < (n : Int) := by omega
        go_wp2_with fail
        go_quiet (fail)
        go_wp2_with fail
        go_roundw
        case rel => exact ⟨i + 1, _, by omega, by go_num, by rw [hS.out], by first | rfl | exact World.drewN_drewN _ _ _⟩
        case measure => simp [intOf]; omega
      · obtain rfl : i = n := by omega
        have hbq := below_drewN hb q
        have HNq : Hid (NumAt (w1.drewN q) L 3 (nums D)) := hid HN.out
        rw [HE.out]
        clear HN HX HS HB HP hb
        generalize w1.drewN q = w2 at hbq HNq ⊢
        go_wp2_with fail
        refine (HLo w2 hbq).out.mono ?_
        rintro e w3 ⟨L3, rfl, hLw3, hN3, hb3⟩
        have hbC := hbq.trans (hb3.mono hbq.size)
        have H4 := hid (ints_ok (some ⟨L3, 0, none⟩) (some ⟨L, 0, none⟩) i i i i (nums D) w3 _ _ (by omega) (by omega) (NumAt.ints hN3 (by rw [nums_len]; exact HDn.out)) (ints_on (NumAt.ints HNq.out (by rw [nums_len]; exact HDn.out)) hb3))
        clear hN3 HNq hb3 HLo
        go_wp2_with fail
        refine (error_nil _).mono ?_
        rintro e w4 ⟨rfl, hw4⟩
        subst w4
        go_wp2_with fail
        refine H4.out.mono ?_
        rintro e w4 ⟨rfl, hb4⟩
        have hbD := hbC.trans (hb4.mono hbC.size)
        clear hb4 H4 hbC
        go_wp2_with fail
        refine (HCo w4 hbD).out.mono ?_
        rintro e w5 ⟨rfl, hb5⟩
        have hbE := hbD.trans (hb5.mono hbD.size)
        clear hb5 HCo hbD
        go_wp2_with fail
        refine (error_nil _).mono ?_
        rintro e w6 ⟨rfl, hw6⟩
        subst w6
        go_wp2_with fail
        go_ret
        exact ⟨by first | rfl | simp, hbE⟩
  · have hk0 := badH_ne hk
    have H1 := hid (rweights_bad A n c l k w HL.out hk)
    have H2 := hid (hcheck_any A n c l w HL.out)
    have HLo := fun (W : World) (hW : Below w.heap.size w W) => hid (hlong_bad A n c l k W (ints_on HL.out hW) hk)
    have HCo := fun (W : World) (hW : Below w.heap.size w W) => hid (hcost_bad A n c l k W (ints_on HL.out hW) hk)
    have H4 := fun W => hid (ints_ok none none 0 0 0 0 [] W 0 0 (by omega) (by omega) IsInts.nil IsInts.nil)
    have HK := hid hk
    have k0 : ¬ (k = 0) := by omega
    clear hk hk0 hn HL
    go_enter Tryd.func3, Tryd.ntmps3
    go_wp2_with fail
    refine H1.out.mono ?_
    rintro e w1 ⟨rfl, hw1⟩
    subst w1
    go_wp2_with fail
    refine H2.out.mono ?_
    rintro e w1 ⟨h, hw1⟩
    subst w1
    rcases h with ⟨h, _⟩ | ⟨k', h, rfl⟩
    · exact (goodH_not h HK.out).elim
    obtain rfl := badH_one h HK.out
    clear h HK H1 H2
    go_wp2_with fail
    refine (error_err k' _ hg).mono ?_
    rintro e w1 ⟨rfl, hb1⟩
    have hg1 := hg.below hp hb1
    go_wp2_with fail
    refine (HLo _ hb1).out.mono ?_
    rintro e w2 ⟨rfl, hw2⟩
    subst w2
    clear HLo
    go_wp2_with fail
    refine (error_err k' _ hg1).mono ?_
    rintro e w2 ⟨rfl, hb2⟩
    have hbB := hb1.trans (hb2.mono hb1.size)
    clear hg1 hb1 hb2
    go_wp2_with fail
    refine (H4 _).out.mono ?_
    rintro e w3 ⟨rfl, hb3⟩
    have hbC := hbB.trans (hb3.mono hbB.size)
    clear hbB hb3 H4
    go_wp2_with fail
    refine (HCo _ hbC).out.mono ?_
    rintro e w4 ⟨rfl, hw4⟩
    subst w4
    have hgC := hg.below hp hbC
    clear HCo
    go_wp2_with fail
    refine (error_err k' _ hgC).mono ?_
    rintro e w5 ⟨rfl, hb5⟩
    have hbE := hbC.trans (hb5.mono hbC.size)
    clear hb5 hbC hgC
    go_wp2_with fail
    go_ret
    exact ⟨by first | rfl | simp, hbE⟩
end Go.Proofs.YtjllgehhdhcobaaDoor
