/-
  Contract of huff.Cost: what the weights cost with their lengths, or what is wrong with them. No condition but the slice's.
-/
import Derived.Test.YtjllgehhdhcobaaDoorHlong
namespace Go.Proofs.YtjllgehhdhcobaaDoor
open Go.RowKit

theorem hcost_bad (A : Option Addr) (n c : Nat) (l : List Int) (k : Int) (w : World) (hl : IsInts w w.heap.size A n l) (hk : BadH l k) :
    Calls Tryd.prog 10 #[.slice A n c] w fun e w' => e = .returned (.tuple #[.int .i64 0, .iface 36 (.int .i64 k)]) ∧ w' = w := by
  have HC := hid (hlong_bad A n c l k w hl hk)
  clear hl hk
  go_enter Tryd.func10, Tryd.ntmps10
  go_wp2_with fail
  refine HC.out.mono ?_
  rintro e w1 ⟨rfl, hw⟩
  subst w1
  go_wp2_with fail
  go_ret2
  exact ⟨rfl, rfl⟩

theorem cst_succ {l : List Int} {D : List Nat} (h : D.length = l.length) {i : Nat} (hi : i < l.length) : cst ((l.zip D).take (i + 1)) = cst ((l.zip D).take i) + l.getD i 0 * ((D.getD i 0 : Nat) : Int) := by
  have hz : i < (l.zip D).length := by rw [List.length_zip]; omega
  rw [List.take_succ_eq_append_getElem hz, cst_app]
  have := zip_at h hi
  rw [List.getD_eq_getElem?_getD, List.getElem?_eq_getElem hz, Option.getD_some] at this
  rw [this]
  simp [cst]
theorem mul_small {a b : Int} {p q : Int} (h0 : 0 ≤ a) (h1 : a ≤ p) (h2 : 0 ≤ b) (h3 : b ≤ q) : 0 ≤ a * b ∧ a * b ≤ p * q :=
  ⟨Int.mul_nonneg h0 h2, Int.mul_le_mul h1 h3 h2 (Int.le_trans h0 h1)⟩
theorem cst_small {l : List Int} {D : List Nat} {q : Nat} (h : D.length = l.length) (hl : ∀ i, i < l.length → 0 ≤ l.getD i 0 ∧ l.getD i 0 ≤ 1000) (hD : ∀ i, i < l.length → D.getD i 0 ≤ q) : ∀ i, i ≤ l.length → 0 ≤ cst ((l.zip D).take i) ∧ cst ((l.zip D).take i) ≤ 1000 * (q : Int) * (i : Int) := by
  intro i
  induction i with
  | zero => intro _; simp [cst]
  | succ i ih =>
    intro hi
    obtain ⟨h1, h2⟩ := ih (by omega)
    have h3 := hl i (by omega)
    have h4 := hD i (by omega)
    rw [cst_succ h (by omega)]
    have h5 := mul_small h3.1 h3.2 (b := ((D.getD i 0 : Nat) : Int)) (q := (q : Int)) (by omega) (by omega)
    have h6 : 1000 * (q : Int) * ((i + 1 : Nat) : Int) = 1000 * (q : Int) * (i : Int) + 1000 * (q : Int) := by
      rw [Int.natCast_add, Int.mul_add]
      simp
    rw [h6]
    omega

set_option maxHeartbeats 1000000 in
theorem hcost_ok (A : Option Addr) (n c : Nat) (l : List Int) (D : List Nat) (w : World) (hl : IsInts w w.heap.size A n l) (hg : GoodH l) (hD : Dep l D) :
    Calls Tryd.prog 10 #[.slice A n c] w fun e w' => e = .returned (.tuple #[.int .i64 (cst (l.zip D)), .nilIface]) ∧ Below w.heap.size w w' := by
  have hn : l.length = n := hl.1
  have h0 : 0 < n := by have := hg.1; omega
  have h10 : n ≤ 10 := by have := hg.2.1; omega
  have HC := hid (hlong_ok A n c l D w hl hg hD)
  have hdl := dep_len hD
  have HS : Hid (∀ i, i < n → cst ((l.zip D).take (i + 1)) = cst ((l.zip D).take i) + l.getD i 0 * ((D.getD i 0 : Nat) : Int)) := hid (fun i hi => cst_succ hdl (by omega))
  have HB : Hid (∀ i, i ≤ n → 0 ≤ cst ((l.zip D).take i) ∧ cst ((l.zip D).take i) ≤ 9000 * (i : Int)) := hid (fun i hi => by
    have := cst_small (q := 9) hdl (fun i hi => goodH_at hg hi) (fun i _ => dep_small hD hg.2.1 i) i (by omega)
    simpa using this)
  have HP : Hid (∀ i, i < n → 0 ≤ l.getD i 0 * ((D.getD i 0 : Nat) : Int) ∧ l.getD i 0 * ((D.getD i 0 : Nat) : Int) ≤ 9000) := hid (fun i hi => by
    have h1 := goodH_at hg (i := i) (by omega)
    have h2 := dep_small hD hg.2.1 i
    have := mul_small h1.1 h1.2 (b := ((D.getD i 0 : Nat) : Int)) (q := 9) (by omega) (by omega)
    omega)
  have HE : Hid (cst (l.zip D) = cst ((l.zip D).take n)) := hid (by rw [List.take_of_length_le (by rw [List.length_zip]; omega)])
  have HE0 : Hid (cst ((l.zip D).take 0) = 0) := hid rfl
  have HDn := hid (show D.length = n by omega)
  generalize cst (l.zip D) = R at HE ⊢
  obtain ⟨F, hF⟩ : ∃ F : Nat → Int, F = fun i => cst ((l.zip D).take i) := ⟨_, rfl⟩
  obtain ⟨HS, HB, HE, HE0⟩ : Hid (∀ i, i < n → F (i + 1) = F i + l.getD i 0 * ((D.getD i 0 : Nat) : Int)) ∧ Hid (∀ i, i ≤ n → 0 ≤ F i ∧ F i ≤ 9000 * (i : Int)) ∧ Hid (R = F n) ∧ Hid (F 0 = 0) := by
    rw [hF]
    exact ⟨HS, HB, HE, HE0⟩
  obtain ⟨g, off, rfl, hgl, hc⟩ := hl.2 h0
  have HX := hid hc
  clear hF hl hg hD hn hdl hc
  rename_i HS0 HB0 HEa HEb
  clear HS0 HB0 HEa HEb
  go_enter Tryd.func10, Tryd.ntmps10
  go_wp2_with fail
  refine HC.out.mono ?_
  rintro e w1 ⟨L, rfl, hLw, hN, hb⟩
  have HN := hid hN
  have hLl := BlkAt.lt hN
  have hgw : g < w1.heap.size := by have := hb.size; omega
  clear hN HC
  go_wp2_with fail
  go_loopw [6, 19] (fun v x wr => ∃ i : Nat, i ≤ n ∧ x = .int .i64 i ∧ v = .int .i64 (F i) ∧ wr = w1) (fun _ x _ => n - (intOf x).toNat)
  case atStart => exact ⟨0, by omega, rfl, by rw [HE0.out], rfl⟩
  case round =>
    obtain ⟨i, hin, rfl, rfl, hwr⟩ := hrel
    subst wr
    by_cases hlt : i < n
    · have c1 := (hb.cell (p := ⟨g, off + i, none⟩) hgl).trans (HX.out i hlt)
      have c2 := HN.out.cell (k := i) (by rw [nums_len, HDn.out]; exact hlt)
      rw [nums_at] at c2
      have hS := hid (HS.out i hlt)
      have b1 := HB.out i hin
      have b2 := HP.out i hlt
      generalize F i = Y at hS b1
      generalize l.getD i 0 = X at c1 hS b2
      generalize ((D.getD i 0 : Nat) : Int) = Z at c2 hS b2
      have i1 : (i : Int) < (n : Int) := by omega
      have i2 : (0 : Int) ≤ (i : Int) := by omega
      go_wp2_with fail
      go_roundw
      case rel => exact ⟨i + 1, by omega, by go_num, by rw [hS.out], by first | rfl | trivial⟩
      case measure => simp [intOf]; omega
    · obtain rfl : i = n := by omega
      go_wp2_with fail
      go_ret2
      exact ⟨by rw [HE.out]; rfl, hb⟩
end Go.Proofs.YtjllgehhdhcobaaDoor
