/-
  The walk of HuffLeast: it returns true at every two lists. Conditions: the row's own sizes.
-/
import Derived.Test.YtjllgehhdhcobaaHfact
import Derived.Test.YtjllgehhdhcobaaRoom
namespace Go.Proofs.Ytjllgehhdhcobaa
open Go.RowKit

/-- Lengths that are let in are natural numbers. -/
theorem nums_of {ys : List Int} (h : InL 1 12 ys) : nums (ys.map Int.toNat) = ys := by
  apply List.ext_getElem?
  intro j
  by_cases hj : j < ys.length
  · have := h j hj
    rw [List.getD_eq_getElem?_getD, List.getElem?_eq_getElem hj, Option.getD_some] at this
    simp [nums, hj]
    omega
  · simp [nums, hj]
theorem nat_of {ys : List Int} (h : InL 1 12 ys) (i : Nat) : (ys.map Int.toNat).getD i 0 ≤ 12 := by
  by_cases hi : i < ys.length
  · have := h i hi
    rw [List.getD_eq_getElem?_getD, List.getElem?_eq_getElem hi, Option.getD_some] at this
    simp [hi]
    omega
  · simp [hi]
theorem least_of {l : List Int} {D E : List Nat} (hD : Dep l D) (hg : GoodH l) (hE : E.length = l.length) (hi : ∀ i, E.getD i 0 ≤ 12) (hr : rm 12 E ≤ 4096) : cst (l.zip D) ≤ cst (l.zip E) := by
  refine hc_least (dep_hc hD) (fun x hx => (hg.2.2 x hx).1) (l.zip E) 12 (by rw [zip_fst hE]) ?_ (by rw [kr_rm, zip_snd hE]; exact hr)
  intro x hx
  have : x.2 ∈ E := (List.of_mem_zip hx).2
  obtain ⟨i, h1, h2⟩ := List.getElem_of_mem this
  have := hi i
  rw [List.getD_eq_getElem?_getD, List.getElem?_eq_getElem h1, Option.getD_some] at this
  omega

set_option maxHeartbeats 2000000 in
set_option maxRecDepth 100000 in
theorem huffLeast_any (A B : Option Addr) (n c m d : Nat) (l ys : List Int) (w : World) (hl : IsInts w w.heap.size A n l) (hm : IsInts w w.heap.size B m ys) :
    Calls Try.prog 3 #[.slice A n c, .slice B m d] w fun e w' => e = .returned (.bool true) ∧ Below w.heap.size w w' := by
  have HF := fun W => hid (hfact_any W)
  have HL := fun (w1 : World) (h1 : Below w.heap.size w w1) => hid ((hl.below h1).keep (w' := w1) h1.size fun _ _ _ => rfl)
  have HY := fun (w1 : World) (h1 : Below w.heap.size w w1) => hid ((hm.below h1).keep (w' := w1) h1.size fun _ _ _ => rfl)
  have hn := hl.1
  have hmn := hm.1
  clear hl hm
  go_enter Try.func3, Try.ntmps3
  go_wp2_with fail
  refine (HF _).out.mono ?_
  rintro e w1 ⟨rfl, hb1⟩
  clear HF
  rcases badH_or l with hg | ⟨k, hk⟩
  · obtain ⟨D, hD⟩ := dep_ex (l.length - 1) l (by have := hg.1; omega)
    have h0 : 0 < n := by have := hg.1; omega
    have h10 : n ≤ 10 := by have := hg.2.1; omega
    have HC := hid (hcost_ok A n c l D w1 (HL w1 hb1).out hg hD)
    have hdl := dep_len hD
    go_wp2_with fail
    refine HC.out.mono ?_
    rintro e w2 ⟨rfl, hb2⟩
    have hb := hb1.trans (hb2.mono hb1.size)
    clear HC hb1 hb2
    by_cases hnm : m = n
    · subst hnm
      have HLe := hid (rlengths_any B m d ys w2 (HY w2 hb).out)
      go_wp2_with fail
      refine HLe.out.mono ?_
      rintro e w3 ⟨⟨k, hk, rfl⟩, hw3⟩
      subst w3
      clear HLe
      by_cases hk0 : k = 0
      · subst hk0
        have hin : InL 1 12 ys := by
          rcases hk with ⟨_, h⟩ | ⟨_, _, h⟩ | ⟨_, h, _⟩
          · cases h
          · cases h
          · exact h
        have hE := nums_of hin
        have hE12 := nat_of hin
        have hEl : (ys.map Int.toNat).length = l.length := by rw [List.length_map]; omega
        clear hk hin
        generalize ys.map Int.toNat = E at hE hE12 hEl
        subst hE
        have HR := hid (rroom_any B m d E w2 h10 (fun i _ => hE12 i) (HY w2 hb).out)
        go_wp2_with fail
        refine HR.out.mono ?_
        rintro e w3 ⟨rfl, hw3⟩
        subst w3
        clear HR
        by_cases hr : rm 12 E ≤ 4096
        · have HK := hid (least_of hD hg hEl hE12 hr)
          have r1 : ¬ (4096 < ((rm 12 E : Nat) : Int)) := by omega
          generalize cst (l.zip D) = R at HK ⊢
          have HS : Hid (∀ i, i < m → cst ((l.zip E).take (i + 1)) = cst ((l.zip E).take i) + l.getD i 0 * ((E.getD i 0 : Nat) : Int)) := hid (fun i hi => cst_succ hEl (by omega))
          have HB : Hid (∀ i, i ≤ m → 0 ≤ cst ((l.zip E).take i) ∧ cst ((l.zip E).take i) ≤ 12000 * (i : Int)) := hid (fun i hi => by
            have := cst_small (q := 12) hEl (fun i hi => goodH_at hg hi) (fun i _ => hE12 i) i (by omega)
            simpa using this)
          have HP : Hid (∀ i, i < m → 0 ≤ l.getD i 0 * ((E.getD i 0 : Nat) : Int) ∧ l.getD i 0 * ((E.getD i 0 : Nat) : Int) ≤ 12000) := hid (fun i hi => by
            have h1 := goodH_at hg (i := i) (by omega)
            have h2 := hE12 i
            have := mul_small h1.1 h1.2 (b := ((E.getD i 0 : Nat) : Int)) (q := 12) (by omega) (by omega)
            omega)
          have HE : Hid (R ≤ cst ((l.zip E).take m)) := hid (by rw [List.take_of_length_le (by rw [List.length_zip]; omega)]; exact HK.out)
          obtain ⟨g, off, rfl, hgl, hc⟩ := (HL w2 hb).out.2 h0
          obtain ⟨g2, off2, rfl, hgl2, hc2⟩ := (HY w2 hb).out.2 h0
          have HX := hid hc
          have HX2 := hid hc2
          clear HK hc hc2 hD hg hdl hE12 hEl HL HY hn hmn hr
          generalize rm 12 E = RR at r1 ⊢
          go_wp2_with fail
          go_loopw [8, 9] (fun v x wr => ∃ (i q : Nat), i ≤ m ∧ x = .int .i64 i ∧ v = .int .i64 (cst ((l.zip E).take i)) ∧ wr = w2.drewN q) (fun _ x _ => m - (intOf x).toNat)
          case atStart => exact ⟨0, 0, by omega, rfl, rfl, rfl⟩
          case round =>
            obtain ⟨i, q, hin, rfl, rfl, hwr⟩ := hrel
            subst wr
            by_cases hlt : i < m
            · have c1 := HX.out i hlt
              have c2 := HX2.out i hlt
              rw [nums_at] at c2
              have hS := hid (HS.out i hlt)
              have b1 := HB.out i hin
              have b2 := HP.out i hlt
              generalize cst ((l.zip E).take i) = Y at hS b1
              generalize l.getD i 0 = X at c1 hS b2
              generalize ((E.getD i 0 : Nat) : Int) = Z at c2 hS b2
              have s1 : IntKind.i64.wrap (X * Z) = X * Z := IntWalk.i64_in _ (by omega)
              have s2 : IntKind.i64.wrap (Y + X * Z) = Y + X * Z := IntWalk.i64_in _ (by omega)
              have i1 : (i : Int) < (m : Int) := by omega
              go_wp2_with fail
              go_quiet (fail)
              go_wp2_with fail
              go_roundw
              case rel => exact ⟨i + 1, _, by omega, by go_num, by rw [hS.out], by first | rfl | exact World.drewN_drewN _ _ _⟩
              case measure => simp [intOf]; omega
            · obtain rfl : i = m := by omega
              have hR := HE.out
              generalize cst ((l.zip E).take i) = Y at hR ⊢
              by_cases h2 : i < 2
              · have i2 : decide ((i : Int) < 2) = true := by simp; omega
                go_wp2_with fail
                go_ret
                exact ⟨by first | rfl | simp, below_drewN hb _⟩
              · have i2 : decide ((i : Int) < 2) = false := by simp; omega
                have i3 : ¬ ((i : Int) < 2) := by omega
                go_wp2_with fail
                go_ret
                exact ⟨by first | rfl | simp [hR], below_drewN hb _⟩
        · have r1 : 4096 < ((rm 12 E : Nat) : Int) := by omega
          generalize rm 12 E = RR at r1 ⊢
          clear hD hg hdl hE12 hEl HL HY hn hmn hr
          go_wp2_with fail
          go_ret
          exact ⟨rfl, hb⟩
      · have k1 : (k != 0) = true := by simpa using hk0
        clear hk HL HY hD hg hdl
        go_wp2_with fail
        go_ret
        exact ⟨rfl, hb⟩
    · have hne : ((m : Int) != (n : Int)) = true := by simp; omega
      clear HL HY hD hg hdl
      go_wp2_with fail
      go_ret
      exact ⟨rfl, hb⟩
  · have HC := hid (hcost_bad A n c l k w1 (HL w1 hb1).out hk)
    clear HL HY hk hn
    go_wp2_with fail
    refine HC.out.mono ?_
    rintro e w2 ⟨rfl, hw2⟩
    subst w2
    go_wp2_with fail
    go_ret
    exact ⟨rfl, hb1⟩
end Go.Proofs.Ytjllgehhdhcobaa
