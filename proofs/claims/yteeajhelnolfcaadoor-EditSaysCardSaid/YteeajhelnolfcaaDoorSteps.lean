/-
  Contract of letterbeckref2.Steps: the least script from one text to another one. Conditions: texts of at most 24 bytes.
-/
import Derived.Test.YteeajhelnolfcaaDoorTbref
import Derived.Laws.Concat
namespace Go.Proofs.YteeajhelnolfcaaDoor
open Go.RowKit

theorem txt_put (o : List UInt8) (c : UInt8) : txt o ++ ⟨#[c]⟩ = txt (o ++ [c]) := bs_inj (by rw [wb_app, bs_txt, bs_txt]; rfl)
theorem byte_ne2 {a b : ByteArray} {i j : Nat} (hi : i < a.size) (hj : j < b.size) (h : sg a i ≠ sg b j) : ((a[i].toNat : Int) != (b[j].toNat : Int)) = true := by
  rw [sg_eq a i hi, sg_eq b j hj] at h
  simpa using byte_apart h
theorem byte_same2 {a b : ByteArray} {i j : Nat} (hi : i < a.size) (hj : j < b.size) (h : sg a i = sg b j) : ((a[i].toNat : Int) != (b[j].toNat : Int)) = false := by
  rw [sg_eq a i hi, sg_eq b j hj] at h
  simp [h]
/-- The ways on where both texts go on. -/
theorem stTo_way {a b : ByteArray} {i j : Nat} {o : List UInt8} (h : StTo a b i j o) (hi : i < a.size) (hj : j < b.size) :
    (((a[i].toNat : Int) != (b[j].toNat : Int)) = true ∧ (((tbF a b (i + 1) (j + 1) : Int) + 1) == (tbF a b i j : Int)) = true ∧ Hid (StTo a b (i + 1) (j + 1) (o ++ [33]))) ∨
    ((((a[i].toNat : Int) != (b[j].toNat : Int)) = false ∨ (((a[i].toNat : Int) != (b[j].toNat : Int)) = true ∧ (((tbF a b (i + 1) (j + 1) : Int) + 1) == (tbF a b i j : Int)) = false)) ∧
      (((((tbF a b i (j + 1) : Int) + 1) == (tbF a b i j : Int)) = true ∧ Hid (StTo a b i (j + 1) (o ++ [43]))) ∨
      ((((tbF a b i (j + 1) : Int) + 1) == (tbF a b i j : Int)) = false ∧
        (((((tbF a b (i + 1) j : Int) + 1) == (tbF a b i j : Int)) = true ∧ Hid (StTo a b (i + 1) j (o ++ [45]))) ∨
        ((((tbF a b (i + 1) j : Int) + 1) == (tbF a b i j : Int)) = false ∧ Hid (StTo a b (i + 1) (j + 1) (o ++ [61]))))))) := by
  have yes : ∀ x y : Nat, x + 1 = y → ((x : Int) + 1 == (y : Int)) = true := fun x y h => beq_iff_eq.2 (by omega)
  have no : ∀ x y : Nat, x + 1 ≠ y → ((x : Int) + 1 == (y : Int)) = false := fun x y h => beq_eq_false_iff_ne.2 (by omega)
  by_cases hA : sg a i ≠ sg b j ∧ tbF a b (i + 1) (j + 1) + 1 = tbF a b i j
  · exact .inl ⟨byte_ne2 hi hj hA.1, yes _ _ hA.2, hid (stTo_chg h hi hj hA.1 hA.2)⟩
  · have h0 : sg a i ≠ sg b j → tbF a b (i + 1) (j + 1) + 1 ≠ tbF a b i j := fun h1 h2 => hA ⟨h1, h2⟩
    refine .inr ⟨?_, ?_⟩
    · by_cases e : sg a i = sg b j
      · exact .inl (byte_same2 hi hj e)
      · exact .inr ⟨byte_ne2 hi hj e, no _ _ (h0 e)⟩
    · by_cases hB : tbF a b i (j + 1) + 1 = tbF a b i j
      · exact .inl ⟨yes _ _ hB, hid (stTo_ins h hj (fun _ => h0) hB)⟩
      · refine .inr ⟨no _ _ hB, ?_⟩
        by_cases hC : tbF a b (i + 1) j + 1 = tbF a b i j
        · exact .inl ⟨yes _ _ hC, hid (stTo_del h hi (fun _ => ⟨h0, hB⟩) hC)⟩
        · exact .inr ⟨no _ _ hC, hid (stTo_eq h hi hj h0 hB hC).2⟩

set_option maxHeartbeats 8000000 in
set_option maxRecDepth 100000 in
theorem rsteps_any (a b : ByteArray) (w : World) (ha : a.size ≤ 24) (hb : b.size ≤ 24) :
    Calls Tryd.prog 6 #[.string a, .string b] w fun e w' => (∃ o, e = .returned (.string (txt o)) ∧ Least (bs a) (bs b) o) ∧ Below w.heap.size w w' := by
  have HT := hid (rtable_any a b w ha hb)
  go_enter Tryd.func6, Tryd.ntmps6
  go_wp2_with fail
  refine HT.out.mono ?_
  rintro e w1 ⟨v, gs, rfl, hgl, htab, hb1⟩
  obtain ⟨G, c, rfl, hGb, hG, _⟩ := htab.shape (by omega)
  obtain ⟨n1, hn1⟩ : ∃ n, n = gs.length := ⟨_, rfl⟩
  rw [← hn1] at htab hgl ⊢
  have HTAB := hid htab
  have HN := hid hn1
  have HGL := hid hgl
  have hn2 : n1 ≤ 25 := by omega
  have hn3 : a.size < n1 := by omega
  clear HT htab hn1 hgl
  go_wp2_with fail
  go_loopw [6, 7, 8] (fun x y z wr => ∃ (i j : Nat) (o : List UInt8), x = .string (txt o) ∧ y = .int .i64 i ∧ z = .int .i64 j ∧ i ≤ a.size ∧ j ≤ b.size ∧ Hid (o.length ≤ i + j) ∧ Hid (StTo a b i j o) ∧ Hid (∃ q, wr = w1.drewN q)) (fun _ y z _ => (a.size - (intOf y).toNat) + (b.size - (intOf z).toNat))
  case atStart => exact ⟨0, 0, [], rfl, rfl, rfl, by omega, by omega, hid (by simp), hid (stTo_start a b), hid ⟨0, rfl⟩⟩
  case round =>
    obtain ⟨i, j, o, rfl, rfl, rfl, hi, hj, HOL, HS, HQ⟩ := hrel
    have hol : o.length ≤ 48 := by have := HOL.out; omega
    have hos : (txt o).size = o.length := txt_size o
    have hadd := fun (k : UInt8) (W : World) => run_string_add_sum (P := Tryd.prog) W (txt o) ⟨#[k]⟩ (by rw [hos, show (⟨#[k]⟩ : ByteArray).size = 1 from rfl]; omega)
    have h33 := hadd 33
    have h43 := hadd 43
    have h45 := hadd 45
    have h61 := hadd 61
    rw [txt_put] at h33 h43 h45 h61
    clear hadd hos
    have HTW : Hid (Tab wr w.heap.size 23 3 (.slice (some ⟨G, 0, none⟩) n1 c) (b.size + 1) gs (fun i j => (tbF a b i j : Int))) := hid (by obtain ⟨q, hq⟩ := HQ.out; rw [hq]; exact HTAB.out.drewN q)
    have hin : i < n1 := by omega
    have hjn : j < b.size + 1 := by omega
    have hgl : ∀ x, x < n1 → x < gs.length := fun x hx => by rw [← HN.out]; exact hx
    have c0 := HTW.out.outer (hgl i hin)
    have v0 := HTW.out.cell (hgl i hin) hjn
    have l0 := tb_le a b i j ha hb
    have HQ2 : ∀ k, Hid (∃ q, wr.drewN k = w1.drewN q) := fun k => hid (by
      obtain ⟨q, hq⟩ := HQ.out
      rw [hq]
      first | exact ⟨_, rfl⟩ | (simp only [World.drewN_drewN]; exact ⟨_, rfl⟩))
    have HL2 : ∀ k i' j', i + j + 1 ≤ i' + j' → Hid ((o ++ [k]).length ≤ i' + j') := fun k i' j' h => hid (by rw [List.length_append, List.length_singleton]; have := HOL.out; omega)
    by_cases hia : i < a.size
    · by_cases hjb : j < b.size
      · have hin1 : i + 1 < n1 := by omega
        have hjn1 : j + 1 < b.size + 1 := by omega
        have c1 := HTW.out.outer (hgl (i + 1) hin1)
        have v1 := HTW.out.cell (hgl (i + 1) hin1) hjn1
        have v2 := HTW.out.cell (hgl i hin) hjn1
        have v3 := HTW.out.cell (hgl (i + 1) hin1) hjn
        have l1 := tb_le a b (i + 1) (j + 1) ha hb
        have l2 := tb_le a b i (j + 1) ha hb
        have l3 := tb_le a b (i + 1) j ha hb
        have HW := stTo_way HS.out hia hjb
        clear hgl HTW HS hin1 hjn1
        generalize tbF a b i j = L0 at v0 l0 HW
        generalize tbF a b (i + 1) (j + 1) = L1 at v1 l1 HW
        generalize tbF a b i (j + 1) = L2 at v2 l2 HW
        generalize tbF a b (i + 1) j = L3 at v3 l3 HW
        generalize gs.getD i 0 = g0 at c0 v0 v2
        generalize gs.getD (i + 1) 0 = g1 at c1 v1 v3
        rcases HW with ⟨hs, hA, HS2⟩ | ⟨hA, hB⟩
        · go_wp2_with fail
          go_quiet (fail)
          go_wp2_with fail
          go_roundw
          case rel => exact ⟨i + 1, j + 1, _, rfl, by go_num, by go_num, by omega, by omega, HL2 _ _ _ (by omega), HS2, HQ2 _⟩
          case measure => simp [intOf]; omega
        · rcases hA with hs | ⟨hs, hA⟩
          all_goals (
            rcases hB with ⟨hB, HS2⟩ | ⟨hB, ⟨hC, HS2⟩ | ⟨hC, HS2⟩⟩)
          all_goals (
            go_wp2_with fail
            go_quiet (fail)
            go_wp2_with fail
            go_roundw)
          all_goals (first
            | (case rel => exact ⟨i, j + 1, _, rfl, by go_num, by go_num, by omega, by omega, HL2 _ _ _ (by omega), HS2, HQ2 _⟩)
            | (case rel => exact ⟨i + 1, j, _, rfl, by go_num, by go_num, by omega, by omega, HL2 _ _ _ (by omega), HS2, HQ2 _⟩)
            | (case rel => exact ⟨i + 1, j + 1, _, rfl, by go_num, by go_num, by omega, by omega, HL2 _ _ _ (by omega), HS2, HQ2 _⟩)
            | (simp [intOf]; omega))
      · have hjB : b.size ≤ j := by omega
        have hdb : decide (j < b.size) = false := decide_eq_false hjb
        have hin1 : i + 1 < n1 := by omega
        have c1 := HTW.out.outer (hgl (i + 1) hin1)
        have v3 := HTW.out.cell (hgl (i + 1) hin1) hjn
        have l3 := tb_le a b (i + 1) j ha hb
        have hC : (((tbF a b (i + 1) j : Int) + 1) == (tbF a b i j : Int)) = true := beq_iff_eq.2 (by have := tb_only_del (a := a) (b := b) hia hjB; omega)
        have HS2 := hid (stTo_del HS.out hia (fun h => absurd h hjb) (tb_only_del hia hjB))
        clear hgl HTW HS hin1 hjb
        generalize tbF a b i j = L0 at v0 l0 hC
        generalize tbF a b (i + 1) j = L3 at v3 l3 hC
        generalize gs.getD i 0 = g0 at c0 v0
        generalize gs.getD (i + 1) 0 = g1 at c1 v3
        go_wp2_with fail
        go_quiet (fail)
        go_wp2_with fail
        go_roundw
        case rel => exact ⟨i + 1, j, _, rfl, by go_num, by go_num, by omega, by omega, HL2 _ _ _ (by omega), HS2, HQ2 _⟩
        case measure => simp [intOf]; omega
    · have hiA : a.size ≤ i := by omega
      have hda : decide (i < a.size) = false := decide_eq_false hia
      by_cases hjb : j < b.size
      · have hjn1 : j + 1 < b.size + 1 := by omega
        have v2 := HTW.out.cell (hgl i hin) hjn1
        have l2 := tb_le a b i (j + 1) ha hb
        have hB : (((tbF a b i (j + 1) : Int) + 1) == (tbF a b i j : Int)) = true := beq_iff_eq.2 (by have := tb_only_ins (a := a) (b := b) hiA hjb; omega)
        have HS2 := hid (stTo_ins HS.out hjb (fun h => absurd h hia) (tb_only_ins hiA hjb))
        clear hgl HTW HS hjn1 hia
        generalize tbF a b i j = L0 at v0 l0 hB
        generalize tbF a b i (j + 1) = L2 at v2 l2 hB
        generalize gs.getD i 0 = g0 at c0 v0 v2
        go_wp2_with fail
        go_quiet (fail)
        go_wp2_with fail
        go_roundw
        case rel => exact ⟨i, j + 1, _, rfl, by go_num, by go_num, by omega, by omega, HL2 _ _ _ (by omega), HS2, HQ2 _⟩
        case measure => simp [intOf]; omega
      · have hdb : decide (j < b.size) = false := decide_eq_false hjb
        have HE := hid (stTo_end HS.out hiA (by omega))
        have HB2 : Hid (Below w.heap.size w wr) := hid (by obtain ⟨q, hq⟩ := HQ.out; rw [hq]; exact below_drewN hb1 q)
        clear hgl HTW HS HQ HQ2 HL2 hia hjb c0 v0
        go_wp2_with fail
        go_ret
        exact ⟨⟨o, rfl, HE.out⟩, HB2.out⟩
end Go.Proofs.YteeajhelnolfcaaDoor
