/-
  Contracts of common.tooLong and common.measure: the table of the lengths of what the ends of two texts have in common, or the error of a text that is too long; the old memory is left alone. Conditions: none but the sizes that a row itself sets.
-/
import Derived.Test.YtaodocdddfkglaaDoorBase
import Derived.Test.YtaodocdddfkglaaDoorArr
import Derived.Test.YtaodocdddfkglaaDoorCcm
import Derived.StillTailTactics
import Derived.Deep.WholeRow
namespace Go.Proofs.YtaodocdddfkglaaDoor
open Go.RowKit

theorem clong_two (a b : ByteArray) (w : World) (h : 24 < a.size ∨ 24 < b.size) (ha : a.size ≤ maxLen) (hb : b.size ≤ maxLen) :
    Calls Tryd.prog 15 #[.string a, .string b] w fun e w' => e = .returned (.bool true) ∧ w' = w := by
  unfold maxLen at ha hb
  go_enter Tryd.func15, Tryd.ntmps15
  go_wp2
  all_goals go_ret
  all_goals first
    | exact ⟨rfl, rfl⟩
    | exact ⟨ret_bool (show decide (24 < (b.size : Int)) = true by simp; omega), rfl⟩
    | exact ⟨ret_bool (show (decide (24 < (a.size : Int)) || decide (24 < (b.size : Int))) = true by simp; omega), rfl⟩
theorem cshort_two (a b : ByteArray) (w : World) (ha : a.size ≤ 24) (hb : b.size ≤ 24) :
    Calls Tryd.prog 15 #[.string a, .string b] w fun e w' => e = .returned (.bool false) ∧ w' = w := by
  go_enter Tryd.func15, Tryd.ntmps15
  go_wp2
  go_ret
  exact ⟨ret_bool (show (decide (24 < (a.size : Int)) || decide (24 < (b.size : Int))) = false by simp; omega), rfl⟩

theorem sign_hit_two {x y : ByteArray} {p q : Nat} (hx : p < x.size) (hy : q < y.size) (h : sg x p = sg y q) : ((x[p].toNat : Int) == (y[q].toNat : Int)) = true := by
  rw [sg_eq x p hx, sg_eq y q hy] at h; simp [h]
theorem sign_off_two {x y : ByteArray} {p q : Nat} (hx : p < x.size) (hy : q < y.size) (h : sg x p ≠ sg y q) : ((x[p].toNat : Int) == (y[q].toNat : Int)) = false := by
  rw [sg_eq x p hx, sg_eq y q hy] at h; simpa using byte_apart h

theorem l0 : (Tryd.prog.info? 37).map (fun i => (i.zero, i.size)) = some (some (aggF 625 fun _ => 0), 625) := by kernel_rfl
theorem lz (w : World) : (zeroValue 37).run Tryd.prog w = .ok (aggF 625 fun _ => 0) w := (zero_of_info l0).1 w
theorem li : (Tryd.prog.info? 37).map (·.size) = some 625 := (zero_of_info l0).2
theorem lu : Tryd.prog.underlying 37 = some (.array 25 35) := Tryd.underlying37

/-- The whole table is read, written, handed back. -/
theorem wpList_load_table {ops : Array Oper} {rest : List Oper} {o : Oper} {a : Act} {w : World} {Q : Exit → Act → World → Prop} (hgd : o.guard = none) (x : Operand) (ho : o.op = .load 37 x)
    (g : Nat) (hx : a.eval x = .pointer (some ⟨g, 0, none⟩)) (F : Nat → Int) (hA : Arr w g 37 625 F)
    (h : wpList Tryd.prog ops Q rest (a.put o.dst (aggF 625 F)) w) : wpList Tryd.prog ops Q (o :: rest) a w :=
  wpList_load_row hgd 37 x ho g hx 37 _ _ _ hA lu rfl (by rw [rowF_arr_size]; exact li) h
theorem run_results_table {fn : Func} {p u : Tmp} (h : fn.results = #[.cell p 37, .tmp u]) (tmps : Array Value) (w : World) (g : Nat) (F : Nat → Int)
    (hp : tmps.getD p undef = .pointer (some ⟨g, 0, none⟩)) (hA : Arr w g 37 625 F) :
    (results fn tmps).run Tryd.prog w = .ok (.tuple #[aggF 625 F, tmps.getD u undef]) w := by
  rw [results_cell_tmp h, hp]
  simp only [asAddr, Sem.run_pure, Result.andThen_ok, run_loadVar_row w g 37 37 _ _ _ hA lu rfl (by rw [rowF_arr_size]; exact li)]
  rfl

set_option maxRecDepth 100000 in
set_option maxHeartbeats 400000 in
theorem cmeasure_full (a b : ByteArray) (w : World) (h : 24 < a.size ∨ 24 < b.size) (ha : a.size ≤ maxLen) (hb : b.size ≤ maxLen) :
    Calls Tryd.prog 12 #[.string a, .string b] w fun e w' => e = .returned (.tuple #[aggF 625 fun _ => 0, .iface 40 (.int .i64 4)]) ∧ Below w.heap.size w w' := by
  have HL := fun W => hid (clong_two a b W h ha hb)
  clear h ha hb
  go_enter Tryd.func12, Tryd.ntmps12
  go_wp2_with (refine wpList_alloc_arr rfl 37 rfl 625 lz ?_)
  intro w1 hA1 hb1 hs1
  have HS1 := hid hs1
  have HA1 := hid hA1
  clear hs1 hA1
  go_wp2_with (refine wpList_alloc_arr rfl 37 rfl 625 lz ?_)
  intro w2 hA2 hb2 hs2
  have HA1 := hid (HA1.out.below hb2 (by have := HS1.out; omega))
  have HA2 := hid hA2
  clear hs2 hA2
  go_wp2_with fail
  refine (HL _).out.mono ?_
  rintro e w3 ⟨rfl, hw3⟩
  subst hw3
  go_wp2_with (first | refine wpList_load_table rfl _ rfl w1.heap.size rfl _ HA2.out ?_ | refine wpList_store_arr rfl 37 _ _ rfl 625 w.heap.size _ _ rfl rfl HA1.out li ?_)
  intro w3 hA3 hb3 _ _
  have HA3 := hid hA3
  clear hA3
  go_wp2
  refine bodyPost_ret (run_results_table rfl _ _ w.heap.size _ rfl HA3.out) rfl ?_
  exact ⟨rfl, hb1.trans ((hb2.mono (by have := HS1.out; omega)).trans hb3)⟩

set_option maxRecDepth 100000 in
set_option maxHeartbeats 4000000 in
theorem cmeasure_any (a b : ByteArray) (w : World) (ha : a.size ≤ 24) (hb : b.size ≤ 24) :
    Calls Tryd.prog 12 #[.string a, .string b] w fun e w' => e = .returned (.tuple #[aggF 625 (lcF a b 0), .nilIface]) ∧ Below w.heap.size w w' := by
  have HL := fun W => hid (cshort_two a b W ha hb)
  go_enter Tryd.func12, Tryd.ntmps12
  go_wp2_with (refine wpList_alloc_arr rfl 37 rfl 625 lz ?_)
  intro w1 hA1 hb1 hs1
  have HS1 := hid hs1
  have HA1 := hid hA1
  clear hs1 hA1
  go_wp2_with (refine wpList_alloc_arr rfl 37 rfl 625 lz ?_)
  intro w2 hA2 hb2 hs2
  have hg : w.heap.size < w1.heap.size := by have := HS1.out; omega
  have HB1 := hid (HA1.out.below hb2 hg)
  have HA2 := hid (hA2.congr fun k _ => lcF_start a b k)
  have hb12 := hb1.trans (hb2.mono (by omega))
  clear hs2 hA2 HS1 HA1 hb1 hb2
  generalize w1.heap.size = g at hg HA2 ⊢
  go_wp2_with fail
  refine (HL _).out.mono ?_
  rintro e w3 ⟨rfl, hw3⟩
  subst hw3
  clear HL
  go_wp2_with fail
  go_loopw [7] (fun x wr => ∃ (t : Nat) (z : Int), t ≤ a.size ∧ x = .int .i64 z ∧ z = (t : Int) - 1 ∧ Hid (Arr wr w.heap.size 37 625 (fun _ => 0)) ∧ Hid (Arr wr g 37 625 (lcF a b (25 * t))) ∧ Below w.heap.size w wr) (fun x _ => (intOf x + 1).toNat)
  case atStart => exact ⟨a.size, _, Nat.le_refl _, rfl, rfl, HB1, HA2, hb12⟩
  case round =>
    clear HB1 HA2 hb12
    obtain ⟨t, z, ht, rfl, hz, H0, HA, hbw⟩ := hrel
    rcases t with _ | p
    · have hneg : decide (z ≥ 0) = false := decide_eq_false (by omega)
      rw [Nat.mul_zero] at HA
      clear hz
      go_wp2_with (first | refine wpList_load_table rfl _ rfl g rfl _ HA.out ?_ | refine wpList_store_arr rfl 37 _ _ rfl 625 w.heap.size _ _ rfl rfl H0.out li ?_)
      intro w3 hA3 hb3 _ _
      have HA3 := hid hA3
      clear hA3
      go_wp2
      refine bodyPost_ret (run_results_table rfl _ _ w.heap.size _ rfl HA3.out) rfl ?_
      exact ⟨rfl, hbw.trans hb3⟩
    · obtain rfl : z = (p : Int) := by omega
      clear hz
      have HA1 : Hid (Arr wr g 37 625 (lcF a b (25 * p + b.size))) := hid (HA.out.congr fun k _ => lcF_row hb p k)
      clear HA
      obtain ⟨w0, hw0⟩ : ∃ z, z = wr := ⟨_, rfl⟩
      subst hw0
      go_wp2_with fail
      go_loopw [8] (fun x wr => ∃ (u : Nat) (z : Int), u ≤ b.size ∧ x = .int .i64 z ∧ z = (u : Int) - 1 ∧ Hid (Arr wr w.heap.size 37 625 (fun _ => 0)) ∧ Hid (Arr wr g 37 625 (lcF a b (25 * p + u))) ∧ Below w.heap.size w wr) (fun x _ => (intOf x + 1).toNat)
      case atStart => exact ⟨b.size, _, Nat.le_refl _, rfl, rfl, H0, HA1, hbw⟩
      case round =>
        clear HA1 H0 hbw
        obtain ⟨u, z, hu, rfl, hz, H0, HA, hbw⟩ := hrel
        rcases u with _ | q
        · have hneg : decide (z ≥ 0) = false := decide_eq_false (by omega)
          rw [Nat.add_zero] at HA
          clear hz
          go_wp2_with fail
          go_roundw
          case rel => exact ⟨p, _, by omega, by go_num, rfl, H0, HA, hbw⟩
          case measure => first | (simp [intOf]; done) | (simp [intOf]; omega)
        · obtain rfl : z = (q : Int) := by omega
          clear hz
          have hpa : p < a.size := by omega
          have hqb : q < b.size := by omega
          have hbefore : ∀ (V : Nat), V = lcT a b p q → ∀ k : Nat, Hid (Arr ((wr.drewN k).setCell ⟨g, p * 25 + q, none⟩ (.int .i64 (V : Int))) w.heap.size 37 625 (fun _ => 0) ∧ Arr ((wr.drewN k).setCell ⟨g, p * 25 + q, none⟩ (.int .i64 (V : Int))) g 37 625 (lcF a b (25 * p + q)) ∧ Below w.heap.size w ((wr.drewN k).setCell ⟨g, p * 25 + q, none⟩ (.int .i64 (V : Int)))) := fun V hV k => by
            subst hV
            refine hid ⟨(H0.out.drewN k).keeps (heap_setCell_other _ _ _ _ (by simp; omega)), ((HA.out.drewN k).set (p * 25 + q) _).congr fun j hj => ?_, (below_drewN hbw k).setCell (by simp; omega) _⟩
            rw [Nat.mul_comm p 25]
            exact lcF_set a b (by omega) j
          have hold := HA.out.cell (p * 25 + q) (by omega)
          have hfr := HA.out.frozen (p * 25 + q)
          generalize lcF a b (25 * p + (q + 1)) (p * 25 + q) = old at hold
          have k1 : (p : Int) < 25 := by omega
          have k2 : (q : Int) < 25 := by omega
          obtain ⟨P1, hP1⟩ : ∃ z : Nat, z = p + 1 := ⟨_, rfl⟩
          obtain ⟨Q1, hQ1⟩ : ∃ z : Nat, z = q + 1 := ⟨_, rfl⟩
          have u1 : IntKind.i64.wrap ((p : Int) + 1) = (P1 : Int) := by rw [IntWalk.i64_in _ (by omega)]; omega
          have u2 : IntKind.i64.wrap ((q : Int) + 1) = (Q1 : Int) := by rw [IntWalk.i64_in _ (by omega)]; omega
          have k3 : (P1 : Int) < 25 := by omega
          have k4 : (Q1 : Int) < 25 := by omega
          by_cases he : sg a p = sg b q
          · have hq1 := sign_hit_two hpa hqb he
            have hc1 : wr.cell? ⟨g, P1 * 25 + Q1, none⟩ = some (.int .i64 (lcT a b (p + 1) (q + 1) : Nat)) := by
              rw [hP1, hQ1, Nat.mul_comm, HA.out.cell _ (by omega), lcF_at (by omega) (by omega)]
            have hv := lcT_same hpa hqb he
            have hle := lcT_le a b (p + 1) (q + 1)
            have HN := hbefore _ hv.symm
            generalize lcT a b (p + 1) (q + 1) = v at hc1 HN hle
            have u3 : IntKind.i64.wrap ((v : Int) + 1) = ((v + 1 : Nat) : Int) := by rw [IntWalk.i64_in _ (by omega)]; rfl
            generalize v + 1 = V at u3 HN
            clear hbefore hv he H0 HA hbw hP1 hQ1 hle
            go_wp2_with fail
            go_quiet (fail)
            go_wp2_with fail
            rename_i nq _
            have HN2 : ∀ k : Nat, Hid (Arr (((wr.drewN nq).drewN k).setCell ⟨g, p * 25 + q, none⟩ (.int .i64 (V : Int))) w.heap.size 37 625 (fun _ => 0) ∧ Arr (((wr.drewN nq).drewN k).setCell ⟨g, p * 25 + q, none⟩ (.int .i64 (V : Int))) g 37 625 (lcF a b (25 * p + q)) ∧ Below w.heap.size w (((wr.drewN nq).drewN k).setCell ⟨g, p * 25 + q, none⟩ (.int .i64 (V : Int)))) := fun k => by rw [World.drewN_drewN]; exact HN _
            have hold : (wr.drewN nq).cell? ⟨g, p * 25 + q, none⟩ = _ := hold
            have hfr : (wr.drewN nq).frozen? ⟨g, p * 25 + q, none⟩ = _ := hfr
            have hc1 : (wr.drewN nq).cell? ⟨g, P1 * 25 + Q1, none⟩ = _ := hc1
            clear HN
            generalize wr.drewN nq = wz at HN2 hold hfr hc1 ⊢
            go_still_tail 12, (by kernel_rfl)
            change wpList _ _ _ _ _ wz.drew
            have hold : wz.drew.cell? ⟨g, p * 25 + q, none⟩ = _ := hold
            have hfr : wz.drew.frozen? ⟨g, p * 25 + q, none⟩ = _ := hfr
            have HN3 := HN2 1
            clear HN2 hc1
            change Hid (Arr (wz.drew.setCell _ _) _ _ _ _ ∧ Arr (wz.drew.setCell _ _) _ _ _ _ ∧ Below _ _ (wz.drew.setCell _ _)) at HN3
            generalize wz.drew = wy at HN3 hold hfr ⊢
            go_wp2_with fail
            go_roundw
            case rel => exact ⟨q, _, by omega, by go_num, rfl, hid HN3.out.1, hid HN3.out.2.1, HN3.out.2.2⟩
            case measure => first | (simp [intOf]; done) | (simp [intOf]; omega)
          · have hq1 := sign_off_two hpa hqb he
            have hc1 : wr.cell? ⟨g, P1 * 25 + q, none⟩ = some (.int .i64 (lcT a b (p + 1) q : Nat)) := by
              rw [hP1, Nat.mul_comm, HA.out.cell _ (by omega), lcF_at (by omega) (by omega)]
            have hc2 : wr.cell? ⟨g, p * 25 + Q1, none⟩ = some (.int .i64 (lcT a b p (q + 1) : Nat)) := by
              rw [hQ1, Nat.mul_comm p 25, HA.out.cell _ (by omega), lcF_at (by omega) (by omega)]
            have hv := lcT_other hpa hqb he
            have HN := hbefore _ hv.symm
            have hle1 := lcT_le a b (p + 1) q
            have hle2 := lcT_le a b p (q + 1)
            generalize lcT a b (p + 1) q = x at hc1 HN hle1 hv
            generalize lcT a b p (q + 1) = y at hc2 HN hle2 hv
            obtain ⟨V, hV⟩ : ∃ z, z = max x y := ⟨_, rfl⟩
            rw [← hV] at HN
            have hmax : (if (x : Int) < (y : Int) then (y : Int) else (x : Int)) = ((V : Nat) : Int) := by split <;> omega
            have hmaxN : (if x < y then (y : Int) else (x : Int)) = ((V : Nat) : Int) := by split <;> omega
            clear hbefore hv hV he H0 HA hbw hP1 hQ1
            go_wp2_with fail
            go_quiet (fail)
            go_wp2_with fail
            rename_i nq _
            have HN2 : ∀ k : Nat, Hid (Arr (((wr.drewN nq).drewN k).setCell ⟨g, p * 25 + q, none⟩ (.int .i64 (V : Int))) w.heap.size 37 625 (fun _ => 0) ∧ Arr (((wr.drewN nq).drewN k).setCell ⟨g, p * 25 + q, none⟩ (.int .i64 (V : Int))) g 37 625 (lcF a b (25 * p + q)) ∧ Below w.heap.size w (((wr.drewN nq).drewN k).setCell ⟨g, p * 25 + q, none⟩ (.int .i64 (V : Int)))) := fun k => by rw [World.drewN_drewN]; exact HN _
            have hold : (wr.drewN nq).cell? ⟨g, p * 25 + q, none⟩ = _ := hold
            have hfr : (wr.drewN nq).frozen? ⟨g, p * 25 + q, none⟩ = _ := hfr
            have hc1 : (wr.drewN nq).cell? ⟨g, P1 * 25 + q, none⟩ = _ := hc1
            have hc2 : (wr.drewN nq).cell? ⟨g, p * 25 + Q1, none⟩ = _ := hc2
            clear HN
            generalize wr.drewN nq = wz at HN2 hold hfr hc1 hc2 ⊢
            go_still_tail 17, (by kernel_rfl)
            change wpList _ _ _ _ _ wz.drew
            have hold : wz.drew.cell? ⟨g, p * 25 + q, none⟩ = _ := hold
            have hfr : wz.drew.frozen? ⟨g, p * 25 + q, none⟩ = _ := hfr
            have HN3 := HN2 1
            clear HN2 hc1 hc2
            change Hid (Arr (wz.drew.setCell _ _) _ _ _ _ ∧ Arr (wz.drew.setCell _ _) _ _ _ _ ∧ Below _ _ (wz.drew.setCell _ _)) at HN3
            generalize wz.drew = wy at HN3 hold hfr ⊢
            go_wp2_with fail
            go_roundw
            case rel => exact ⟨q, _, by omega, by go_num, rfl, hid HN3.out.1, hid HN3.out.2.1, HN3.out.2.2⟩
            case measure => first | (simp [intOf]; done) | (simp [intOf]; omega)
end Go.Proofs.YtaodocdddfkglaaDoor
