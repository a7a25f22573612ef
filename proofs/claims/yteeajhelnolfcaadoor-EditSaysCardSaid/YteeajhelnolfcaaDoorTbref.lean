/-
  Contracts of letterbeckref2.min and Table: the least of three numbers; how far all ends of two texts are, in a table of its own. Conditions: texts of at most 24 bytes.
-/
import Derived.Test.YteeajhelnolfcaaDoorBase
import Derived.Test.YteeajhelnolfcaaDoorTab
import Derived.Test.YteeajhelnolfcaaDoorEdm
import Derived.StillTailTactics
namespace Go.Proofs.YteeajhelnolfcaaDoor
open Go.RowKit

theorem rowI : (Tryd.prog.info? 23).map (fun i => (i.zero, i.size, i.bytes)) = some (some (.slice none 0 0), 1, 24) := by kernel_rfl
theorem min3_any (a b c : Int) (w : World) : Calls Tryd.prog 10 #[.int .i64 a, .int .i64 b, .int .i64 c] w fun e w' => e = .returned (.int .i64 (min (min a b) c)) ∧ w' = w := by
  by_cases h1 : b < a
  · rw [Int.min_eq_right (Int.le_of_lt h1)]
    by_cases h2 : c < b
    · rw [Int.min_eq_right (Int.le_of_lt h2)]
      go_enter Tryd.func10, Tryd.ntmps10
      go_wp2
      go_ret
      exact ⟨rfl, rfl⟩
    · rw [Int.min_eq_left (show b ≤ c by omega)]
      have d2 : decide (c < b) = false := by simpa using h2
      go_enter Tryd.func10, Tryd.ntmps10
      go_wp2
      go_ret
      exact ⟨rfl, rfl⟩
  · rw [Int.min_eq_left (show a ≤ b by omega)]
    have d1 : decide (b < a) = false := by simpa using h1
    by_cases h2 : c < a
    · rw [Int.min_eq_right (Int.le_of_lt h2)]
      go_enter Tryd.func10, Tryd.ntmps10
      go_wp2
      go_ret
      exact ⟨rfl, rfl⟩
    · rw [Int.min_eq_left (show a ≤ c by omega)]
      have d2 : decide (c < a) = false := by simpa using h2
      go_enter Tryd.func10, Tryd.ntmps10
      go_wp2
      go_ret
      exact ⟨rfl, rfl⟩
/-- The table from row t on is as it should be; row t - 1 from place u on. -/
structure TbTo (a b : ByteArray) (t u : Nat) (F : Nat → Nat → Int) : Prop where
  rows : ∀ i j, t ≤ i → i ≤ a.size → j ≤ b.size → F i j = tbF a b i j
  row : ∀ j, 0 < t → u ≤ j → j ≤ b.size → F (t - 1) j = tbF a b (t - 1) j
/-- Row t and those behind it are as they should be. -/
def RowsTo (a b : ByteArray) (t : Nat) (F : Nat → Nat → Int) : Prop := ∀ i j, t ≤ i → i ≤ a.size → j ≤ b.size → F i j = tbF a b i j
theorem RowsTo.begin_ {a b : ByteArray} {p : Nat} {F : Nat → Nat → Int} (h : RowsTo a b (p + 1) F) : TbTo a b (p + 1) (b.size + 1) F := ⟨h, fun j _ h1 h2 => by omega⟩
theorem TbTo.done {a b : ByteArray} {p : Nat} {F : Nat → Nat → Int} (h : TbTo a b (p + 1) 0 F) : RowsTo a b p F := fun i j h1 h2 h3 => by
  by_cases e : i = p
  · have := h.row j (by omega) (Nat.zero_le _) h3
    rw [Nat.add_sub_cancel] at this
    rw [e]; exact this
  · exact h.rows i j (by omega) h2 h3
/-- A place stored. -/
theorem TbTo.set {a b : ByteArray} {t u : Nat} {F : Nat → Nat → Int} (h : TbTo a b (t + 1) (u + 1) F) {x : Int} (hx : x = tbF a b t u) : TbTo a b (t + 1) u fun i j => if i = t ∧ j = u then x else F i j :=
  ⟨fun i j h1 h2 h3 => by rw [if_neg (by omega)]; exact h.rows i j h1 h2 h3, fun j h0 h1 h2 => by
    show (if t + 1 - 1 = t ∧ j = u then x else F (t + 1 - 1) j) = _
    rw [Nat.add_sub_cancel]
    by_cases e : j = u
    · rw [if_pos ⟨rfl, e⟩, e, hx]
    · rw [if_neg fun h => e h.2]
      exact h.row j (by omega) (by omega) h2⟩

set_option maxHeartbeats 8000000 in
set_option maxRecDepth 100000 in
theorem rtable_any (a b : ByteArray) (w : World) (ha : a.size ≤ 24) (hb : b.size ≤ 24) :
    Calls Tryd.prog 5 #[.string a, .string b] w fun e w' => ∃ v gs, e = .returned v ∧ gs.length = a.size + 1 ∧ Tab w' w.heap.size 23 3 v (b.size + 1) gs (fun i j => tbF a b i j) ∧ Below w.heap.size w w' := by
  obtain ⟨i0, hi, hz0, hz1, hz2⟩ := info_parts int_info
  obtain ⟨j0, hj, hy0, hy1, hy2⟩ := info_parts rowI
  go_enter Tryd.func5, Tryd.ntmps5
  go_wp2_with fail
  go_loopw [5, 6] (fun v x wr => ∃ (t : Nat) (gs : List Nat), t ≤ a.size + 1 ∧ x = .int .i64 t ∧ Hid (gs.length = t) ∧ Hid (Tab wr w.heap.size 23 3 v (b.size + 1) gs (fun _ _ => 0)) ∧ Below w.heap.size w wr) (fun _ x _ => a.size + 1 - (intOf x).toNat)
  case atStart => exact ⟨0, [], by omega, rfl, hid rfl, hid (Tab.nil _ _ _ _ _ _), Below.refl _ _⟩
  case round =>
    obtain ⟨t, gs, ht, rfl, HL, HT, hbw⟩ := hrel
    by_cases hlt : t ≤ a.size
    · have hgl : gs.length ≤ 1099511627776 := by have := HL.out; omega
      go_wp2_with (at_make; refine wpList_make_full _ rfl _ _ 23 rfl w.heap.size 3 i0 (.int .i64 0) 1 Tryd.underlying23 hi hz0 hz1 _ _ _ _ (b.size + 1) rfl rfl rfl rfl (by rw [hz2]; omega) (by unfold maxLen; omega) hbw.size ?_)
      intro w1 hown hgrow
      have hb1 : RowKit.Below wr.heap.size wr w1 := (Below.refl _ _).grown hgrow (Nat.le_refl _) (by simp)
      have hN := NumAt.made hown
      rw [← rowN_zero] at hN
      have hlt1 := BlkAt.lt hN
      have hT1 := HT.out.below hb1 (Nat.le_refl _)
      have HN := hid hN
      have HT1 := hid hT1
      have HNEW : Hid (∀ i, i < gs.length → gs.getD i 0 ≠ wr.heap.size) := hid (fun i hi => by have := BlkAt.lt (HT.out.row i hi).1; omega)
      have HVG := hid (fun e => Nat.lt_irrefl _ (HT.out.own.lt (b := wr.heap.size) e).2)
      have hbx := hbw.trans (hb1.mono hbw.size)
      have hgb := hbw.size
      clear hN hT1 hown hgrow HT hb1
      generalize wr.heap.size = G at HN HNEW HVG hlt1 hgb ⊢
      go_wp2_with (at_builtin; refine wpList_append_row w1 rfl (.tmp 16) (.tmp 21) 24 rfl w.heap.size 23 3 j0 Tryd.underlying24 hj hy0 hy1 hy2 _ (b.size + 1) gs (fun _ _ => 0) HT1.out G HN.out hgb HNEW.out HVG.out rfl rfl hgl hbx.size ?_)
      intro v' w2 hT2 hb2
      have HT2 := hid hT2
      have hby := hbx.trans hb2
      clear hT2 hb2 HT1 HN HNEW HVG hbx
      go_wp2_with fail
      go_roundw
      case rel => exact ⟨t + 1, gs ++ [G], by omega, by go_num, hid (by rw [List.length_append, HL.out]; rfl), HT2, hby⟩
      case measure => simp [intOf]; omega
    · obtain rfl : t = a.size + 1 := by omega
      obtain ⟨G, c, rfl, hGb, hG, _⟩ := HT.out.shape (by rw [HL.out]; omega)
      have hna : decide (a.size + 1 ≤ a.size) = false := decide_eq_false (by omega)
      have HT0 := HT
      rw [HL.out] at HT0 ⊢
      rw [show ((a.size + 1 : Nat) : Int) = (a.size : Int) + 1 by push_cast; rfl]
      clear HT hi hz0 hz1 hz2 hj hy0 hy1 hy2 hG
      go_wp2_with fail
      go_loopw [7] (fun x wr => ∃ (t : Nat) (z : Int) (F : Nat → Nat → Int), t ≤ a.size + 1 ∧ x = .int .i64 z ∧ z = (t : Int) - 1 ∧ Hid (Tab wr w.heap.size 23 3 (.slice (some ⟨G, 0, none⟩) (a.size + 1) c) (b.size + 1) gs F) ∧ Hid (RowsTo a b t F) ∧ Below w.heap.size w wr) (fun x _ => (intOf x + 1).toNat)
      case atStart => exact ⟨a.size + 1, (a.size : Int), _, by omega, rfl, by omega, HT0, hid (fun i j h1 h2 => by omega), hbw⟩
      case round =>
        clear HT0 hbw
        obtain ⟨t, z, F, ht, rfl, hz, HT, HB, hbw⟩ := hrel
        rcases t with _ | p
        · have hneg : decide (z ≥ 0) = false := decide_eq_false (by omega)
          clear hz
          have HT2 := hid (HT.out.congr (G := fun i j => tbF a b i j) fun i j h1 h2 => HB.out i j (Nat.zero_le _) (by have := HL.out; omega) (by omega))
          clear HT HB
          go_wp2_with fail
          go_ret
          exact ⟨_, gs, rfl, HL.out, HT2.out, hbw⟩
        · obtain rfl : z = (p : Int) := by omega
          clear hz
          have hpa : p ≤ a.size := by omega
          have HB0 := hid HB.out.begin_
          clear HB
          go_wp2_with fail
          go_loopw [8] (fun y wr => ∃ (u : Nat) (z : Int) (F : Nat → Nat → Int), u ≤ b.size + 1 ∧ y = .int .i64 z ∧ z = (u : Int) - 1 ∧ Hid (Tab wr w.heap.size 23 3 (.slice (some ⟨G, 0, none⟩) (a.size + 1) c) (b.size + 1) gs F) ∧ Hid (TbTo a b (p + 1) u F) ∧ Below w.heap.size w wr) (fun y _ => (intOf y + 1).toNat)
          case atStart => exact ⟨b.size + 1, (b.size : Int), F, by omega, rfl, by omega, HT, HB0, hbw⟩
          case round =>
            clear HT HB0 hbw F
            obtain ⟨u, z, F, hu, rfl, hz, HT, HB, hbw⟩ := hrel
            rcases u with _ | q
            · have hneg : decide (z ≥ 0) = false := decide_eq_false (by omega)
              clear hz
              have HB2 := hid HB.out.done
              clear HB
              go_wp2_with fail
              go_roundw
              case rel => exact ⟨p, _, F, by omega, rfl, by go_num, HT, HB2, hbw⟩
              case measure => first | (simp [intOf]; done) | (simp [intOf]; omega)
            · obtain rfl : z = (q : Int) := by omega
              clear hz
              have hqb : q ≤ b.size := by omega
              obtain ⟨gp, hgp⟩ : ∃ z, z = gs.getD p 0 := ⟨_, rfl⟩
              have hpl : p < gs.length := by rw [HL.out]; omega
              have c1 := HT.out.outer hpl
              have c2 := HT.out.cell hpl (j := q) (by omega)
              have f2 := HT.out.frozen hpl q
              have HSET : ∀ (k : Nat) (x : Int), Hid (Tab ((wr.drewN k).setCell ⟨gp, q, none⟩ (.int .i64 x)) w.heap.size 23 3 (.slice (some ⟨G, 0, none⟩) (a.size + 1) c) (b.size + 1) gs (fun i j => if i = p ∧ j = q then x else F i j) ∧ Below w.heap.size w ((wr.drewN k).setCell ⟨gp, q, none⟩ (.int .i64 x))) := fun k x => hid (by
                obtain ⟨s1, s2⟩ := (HT.out.drewN k).set hpl q x
                rw [hgp]
                exact ⟨s1, (below_drewN hbw k).trans s2⟩)
              rw [← hgp] at c1 c2 f2
              have hp1 : p < a.size + 1 := by omega
              have hq1 : q < b.size + 1 := by omega
              by_cases hpe : p = a.size
              · have HX : Hid (((b.size : Int) - (q : Int)) = (tbF a b p q : Int)) := hid (by rw [tb_left (by omega)]; omega)
                have hd : ((p : Int) == (a.size : Int)) = true := beq_iff_eq.2 (by omega)
                have HB2 := hid (HB.out.set HX.out)
                clear HB HX hpe HT hgp hpl hbw
                go_wp2_with fail
                go_roundw
                case rel => exact ⟨q, _, _, by omega, rfl, by go_num, hid (HSET 0 _).out.1, HB2, (HSET 0 _).out.2⟩
                case measure => first | (simp [intOf]; done) | (simp [intOf]; omega)
              · have hd : ((p : Int) == (a.size : Int)) = false := beq_eq_false_iff_ne.2 (by omega)
                by_cases hqe : q = b.size
                · have HX : Hid (((a.size : Int) - (p : Int)) = (tbF a b p q : Int)) := hid (by rw [tb_right (by omega)]; omega)
                  have hd2 : ((q : Int) == (b.size : Int)) = true := beq_iff_eq.2 (by omega)
                  have HB2 := hid (HB.out.set HX.out)
                  clear HB HX hpe hqe HT hgp hpl hbw
                  go_wp2_with fail
                  go_roundw
                  case rel => exact ⟨q, _, _, by omega, rfl, by go_num, hid (HSET 0 _).out.1, HB2, (HSET 0 _).out.2⟩
                  case measure => first | (simp [intOf]; done) | (simp [intOf]; omega)
                · have hd2 : ((q : Int) == (b.size : Int)) = false := beq_eq_false_iff_ne.2 (by omega)
                  have hpa2 : p < a.size := by omega
                  have hqb2 : q < b.size := by omega
                  obtain ⟨gq, hgq⟩ : ∃ z, z = gs.getD (p + 1) 0 := ⟨_, rfl⟩
                  have hpl2 : p + 1 < gs.length := by rw [HL.out]; omega
                  have c3 := HT.out.outer hpl2
                  have d1 := HT.out.cell hpl2 (j := q) (by omega)
                  have d2 := HT.out.cell hpl (j := q + 1) (by omega)
                  have d3 := HT.out.cell hpl2 (j := q + 1) (by omega)
                  rw [HB.out.rows _ _ (Nat.le_refl _) (by omega) hqb] at d1
                  have hrow := HB.out.row (q + 1) (by omega) (Nat.le_refl _) (by omega)
                  rw [Nat.add_sub_cancel] at hrow
                  rw [hrow] at d2
                  rw [HB.out.rows _ _ (Nat.le_refl _) (by omega) (by omega)] at d3
                  rw [← hgq] at c3 d1 d3
                  rw [← hgp] at d2
                  have hx1 := tb_le a b (p + 1) q ha hb
                  have hx2 := tb_le a b p (q + 1) ha hb
                  have hx3 := tb_le a b (p + 1) (q + 1) ha hb
                  have htb := tb_in hpa2 hqb2
                  have HBset := fun x (e : x = (tbF a b p q : Int)) => hid (HB.out.set e)
                  generalize tbF a b (p + 1) q = X1 at d1 hx1 htb
                  generalize tbF a b p (q + 1) = X2 at d2 hx2 htb
                  generalize tbF a b (p + 1) (q + 1) = X3 at d3 hx3 htb
                  have hway : (∃ k : Int, 0 ≤ k ∧ k ≤ 1 ∧ ((k = 0 ∧ ((a[p].toNat : Int) == (b[q].toNat : Int)) = true) ∨ (k = 1 ∧ ((a[p].toNat : Int) == (b[q].toNat : Int)) = false)) ∧ min (min ((X1 : Int) + 1) ((X2 : Int) + 1)) ((X3 : Int) + k) = (tbF a b p q : Int)) := by
                    by_cases e : sg a p = sg b q
                    · rw [if_pos e] at htb
                      refine ⟨0, by omega, by omega, .inl ⟨rfl, by rw [sg_eq a p hpa2, sg_eq b q hqb2] at e; simp [e]⟩, by omega⟩
                    · rw [if_neg e] at htb
                      refine ⟨1, by omega, by omega, .inr ⟨rfl, by rw [sg_eq a p hpa2, sg_eq b q hqb2] at e; simpa using byte_apart e⟩, by omega⟩
                  obtain ⟨k, hk0, hk1, hk, hmin⟩ := hway
                  have HB2 := HBset _ hmin
                  have HMIN := fun W => min3_any ((X1 : Int) + 1) ((X2 : Int) + 1) ((X3 : Int) + k) W
                  rw [hmin] at HMIN
                  rw [hmin] at HB2
                  clear HBset htb hrow HB hpe hqe HT hgp hgq hpl hpl2 hbw hmin
                  generalize (tbF a b p q : Int) = V at HMIN HB2
                  rcases hk with ⟨rfl, he⟩ | ⟨rfl, he⟩
                  all_goals (
                    clear hk0 hk1
                    go_wp2_with fail
                    go_quiet (fail)
                    go_wp2_with fail
                    rename_i nq _
                    have HST2 : ∀ (k : Nat) (x : Int), Hid (Tab (((wr.drewN nq).drewN k).setCell ⟨gp, q, none⟩ (.int .i64 x)) w.heap.size 23 3 (.slice (some ⟨G, 0, none⟩) (a.size + 1) c) (b.size + 1) gs (fun i j => if i = p ∧ j = q then x else F i j) ∧ Below w.heap.size w (((wr.drewN nq).drewN k).setCell ⟨gp, q, none⟩ (.int .i64 x))) := fun k x => by rw [World.drewN_drewN]; exact HSET _ x
                    have c1 : (wr.drewN nq).cell? ⟨G, p, none⟩ = _ := c1
                    have c2 : (wr.drewN nq).cell? ⟨gp, q, none⟩ = _ := c2
                    have f2 : (wr.drewN nq).frozen? ⟨gp, q, none⟩ = _ := f2
                    have c3 : (wr.drewN nq).cell? ⟨G, p + 1, none⟩ = _ := c3
                    have d1 : (wr.drewN nq).cell? ⟨gq, q, none⟩ = _ := d1
                    have d2 : (wr.drewN nq).cell? ⟨gp, q + 1, none⟩ = _ := d2
                    have d3 : (wr.drewN nq).cell? ⟨gq, q + 1, none⟩ = _ := d3
                    clear HSET
                    generalize wr.drewN nq = wz at HST2 c1 c2 f2 c3 d1 d2 d3 ⊢
                    have e1 : (p : Int) < (a.size : Int) + 1 := by omega
                    have e2 : (q : Int) < (b.size : Int) + 1 := by omega
                    have v1 : IntKind.i64.wrap ((X1 : Int) + 1) = (X1 : Int) + 1 := IntWalk.i64_in _ (by omega)
                    have v2 : IntKind.i64.wrap ((X2 : Int) + 1) = (X2 : Int) + 1 := IntWalk.i64_in _ (by omega)
                    have v3 : IntKind.i64.wrap ((X3 : Int) + 1) = (X3 : Int) + 1 := IntWalk.i64_in _ (by omega)
                    have v4 : IntKind.i64.wrap (X3 : Int) = (X3 : Int) := IntWalk.i64_in _ (by omega)
                    try rw [Int.add_zero] at HMIN
                    obtain ⟨P1, hP1⟩ : ∃ z : Nat, z = p + 1 := ⟨_, rfl⟩
                    obtain ⟨Q1, hQ1⟩ : ∃ z : Nat, z = q + 1 := ⟨_, rfl⟩
                    have u1 : IntKind.i64.wrap ((p : Int) + 1) = (P1 : Int) := by rw [IntWalk.i64_in _ (by omega)]; omega
                    have u2 : IntKind.i64.wrap ((q : Int) + 1) = (Q1 : Int) := by rw [IntWalk.i64_in _ (by omega)]; omega
                    have e3 : (P1 : Int) < (a.size : Int) + 1 := by omega
                    have e4 : (Q1 : Int) < (b.size : Int) + 1 := by omega
                    rw [← hP1] at c3
                    rw [← hQ1] at d2 d3
                    clear hP1 hQ1
                    go_still_tail 36, (by kernel_rfl)
                    still_call (HMIN _)
                    repeat still_step
                    refine wpStill_nil ?_
                    change wpList _ _ _ _ _ wz.drew
                    have c2 : wz.drew.cell? ⟨gp, q, none⟩ = _ := c2
                    have f2 : wz.drew.frozen? ⟨gp, q, none⟩ = _ := f2
                    have HST3 : ∀ (x : Int), Hid (Tab (wz.drew.setCell ⟨gp, q, none⟩ (.int .i64 x)) w.heap.size 23 3 (.slice (some ⟨G, 0, none⟩) (a.size + 1) c) (b.size + 1) gs (fun i j => if i = p ∧ j = q then x else F i j) ∧ Below w.heap.size w (wz.drew.setCell ⟨gp, q, none⟩ (.int .i64 x))) := fun x => HST2 1 x
                    clear HST2 c1 c3 d1 d2 d3 HMIN
                    generalize wz.drew = wy at HST3 c2 f2 ⊢
                    go_wp2_with fail
                    go_roundw
                    case rel => exact ⟨q, _, _, by omega, rfl, by go_num, hid (HST3 _).out.1, HB2, (HST3 _).out.2⟩
                    case measure => first | (simp [intOf]; done) | (simp [intOf]; omega))
end Go.Proofs.YteeajhelnolfcaaDoor
