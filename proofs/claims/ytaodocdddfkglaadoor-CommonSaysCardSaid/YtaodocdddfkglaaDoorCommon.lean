/-
  Contract of letterbeckref2.Common: the least of the longest texts that stand within both. Conditions: texts of at most 24 bytes.
-/
import Derived.Test.YtaodocdddfkglaaDoorBase
import Derived.Test.YtaodocdddfkglaaDoorTxtF
import Derived.Test.YtaodocdddfkglaaDoorBetter
import Derived.Test.YtaodocdddfkglaaDoorTail
import Derived.Test.YtaodocdddfkglaaDoorOneT
import Derived.Laws.Concat
namespace Go.Proofs.YtaodocdddfkglaaDoor
open Go.RowKit

/-- What the ends from i and j on have in common. -/
def cmF (a b : ByteArray) (i j : Nat) : List UInt8 := cmn ((bs a).drop i) ((bs b).drop j)
theorem drop_sg {a : ByteArray} {i : Nat} (h : i < a.size) : (bs a).drop i = sg a i :: (bs a).drop (i + 1) := by
  rw [List.drop_eq_getElem_cons (by rw [bs_len]; exact h), ← bs_sg, List.getD_eq_getElem?_getD, List.getElem?_eq_getElem (by rw [bs_len]; exact h)]
  rfl
theorem cmF_zero (a b : ByteArray) : cmF a b 0 0 = cmn (bs a) (bs b) := rfl
theorem cmF_left {a b : ByteArray} {i : Nat} (h : a.size ≤ i) (j : Nat) : cmF a b i j = [] := by
  unfold cmF
  rw [List.drop_eq_nil_of_le (by rw [bs_len]; exact h), cmn_left]
theorem cmF_right {a b : ByteArray} {j : Nat} (h : b.size ≤ j) (i : Nat) : cmF a b i j = [] := by
  unfold cmF
  rw [show (bs b).drop j = [] from List.drop_eq_nil_of_le (by rw [bs_len]; exact h), cmn_right]
theorem cmF_in {a b : ByteArray} {i j : Nat} (hi : i < a.size) (hj : j < b.size) :
    cmF a b i j = if sg a i = sg b j then betL (betL (cmF a b i (j + 1)) (cmF a b (i + 1) j)) (sg a i :: cmF a b (i + 1) (j + 1)) else betL (cmF a b i (j + 1)) (cmF a b (i + 1) j) := by
  unfold cmF
  rw [drop_sg hi, drop_sg hj, cmn_cons]
theorem cmF_le (a b : ByteArray) (i j : Nat) (ha : a.size ≤ 24) : (cmF a b i j).length ≤ 24 := by
  have := (cmn_le ((bs a).drop i) ((bs b).drop j)).1
  rw [List.length_drop, bs_len] at this
  exact Nat.le_trans this (by omega)
theorem cmF_lt {a b : ByteArray} {i j : Nat} (hi : i ≤ a.size) : (cmF a b i j).length + i ≤ a.size := by
  have := (cmn_le ((bs a).drop i) ((bs b).drop j)).1
  rw [List.length_drop, bs_len] at this
  unfold cmF
  omega
theorem betL_le {s t : List UInt8} {n : Nat} (hs : s.length ≤ n) (ht : t.length ≤ n) : (betL s t).length ≤ n := by
  rcases betL_or s t with e | e <;> rw [e]
  · exact hs
  · exact ht
theorem textI2 : (Tryd.prog.info? 9).map (fun i => (i.zero, i.size, i.bytes)) = some (some (.string ByteArray.empty), 1, 16) := by kernel_rfl
theorem ext_one {a : ByteArray} {i : Nat} (h : i < a.size) : a.extract i (i + 1) = oneT (sg a i) := by
  refine bs_inj ?_
  rw [wb_ext, List.take_succ_eq_append_getElem (by rw [bs_len]; exact h), List.drop_append_of_le_length (by rw [List.length_take, bs_len]; omega), List.drop_eq_nil_of_le (by rw [List.length_take]; omega)]
  show [(bs a)[i]] = [sg a i]
  rw [← bs_sg, List.getD_eq_getElem?_getD, List.getElem?_eq_getElem (by rw [bs_len]; exact h)]
  rfl

set_option maxHeartbeats 8000000 in
set_option maxRecDepth 100000 in
theorem rcommon_any (a b : ByteArray) (w : World) (ha : a.size ≤ 24) (hb : b.size ≤ 24) :
    Calls Tryd.prog 5 #[.string a, .string b] w fun e w' => e = .returned (.string (txt (cmn (bs a) (bs b)))) ∧ Below w.heap.size w w' := by
  obtain ⟨i0, hi, hz0, hz1, hz2⟩ := info_parts textI2
  go_enter Tryd.func5, Tryd.ntmps5
  go_wp2_with (at_make; refine wpList_make_full _ rfl _ _ 34 rfl w.heap.size 9 i0 (.string ByteArray.empty) 1 Tryd.underlying34 hi hz0 hz1 _ _ _ _ (b.size + 1) rfl rfl rfl rfl (by rw [hz2]; omega) (by unfold maxLen; omega) (Nat.le_refl _) ?_)
  intro w1 hown hgrow
  have hb1 : Below w.heap.size w w1 := (Below.refl _ _).grown hgrow (Nat.le_refl _) (by simp)
  have HT1 := hid ((TxF.made hown).congr (f' := fun j => cmF a b a.size j) fun j _ => (cmF_left (Nat.le_refl _) j).symm)
  clear hown hgrow
  go_wp2_with fail
  go_loopw [5, 6] (fun v x wr => ∃ (t g : Nat) (z : Int), t ≤ a.size ∧ x = .int .i64 z ∧ z = (t : Int) - 1 ∧ v = .slice (some ⟨g, 0, none⟩) (b.size + 1) (b.size + 1) ∧ w.heap.size ≤ g ∧ Hid (TxF wr g 9 (b.size + 1) fun j => cmF a b t j) ∧ Below w.heap.size w wr) (fun _ x _ => (intOf x + 1).toNat)
  case atStart => exact ⟨a.size, w.heap.size, _, by omega, rfl, by omega, rfl, Nat.le_refl _, HT1, hb1⟩
  case round =>
    clear HT1 hb1
    obtain ⟨t, g, z, ht, rfl, hz, rfl, hgb, HT, hbw⟩ := hrel
    rcases t with _ | p
    · have hneg : decide (z ≥ 0) = false := decide_eq_false (by omega)
      have c0 := HT.out.cell (j := 0) (by omega)
      rw [cmF_zero] at c0
      clear hz HT
      go_wp2_with fail
      go_ret
      exact ⟨rfl, hbw⟩
    · obtain rfl : z = (p : Int) := by omega
      clear hz
      obtain ⟨w0, hw0⟩ : ∃ z, z = wr := ⟨_, rfl⟩
      subst hw0
      have hsz := hbw.size
      have hg0 := HT.out.lt
      go_wp2_with (at_make; refine wpList_make_full _ rfl _ _ 34 rfl w.heap.size 9 i0 (.string ByteArray.empty) 1 Tryd.underlying34 hi hz0 hz1 _ _ _ _ (b.size + 1) rfl rfl rfl rfl (by rw [hz2]; omega) (by unfold maxLen; omega) hsz ?_)
      intro w2 hown hgrow
      have hb2 : Below w0.heap.size w0 w2 := (Below.refl _ _).grown hgrow (Nat.le_refl _) (by simp)
      have HN := hid ((TxF.made hown).congr (f' := fun k => if b.size ≤ k then cmF a b p k else []) fun k _ => by
        by_cases h : b.size ≤ k
        · rw [if_pos h, cmF_right h]
        · rw [if_neg h])
      have HL := hid (HT.out.keep (hb2.block g hg0))
      have hbx := hbw.trans (hb2.mono hsz)
      have hne : g ≠ w0.heap.size := by omega
      clear hown hgrow HT hb2 hbw
      generalize w0.heap.size = G at HN hne hsz ⊢
      go_wp2_with fail
      go_loopw [8] (fun x wr => ∃ (u : Nat) (z : Int), u ≤ b.size ∧ x = .int .i64 z ∧ z = (u : Int) - 1 ∧ Hid (TxF wr G 9 (b.size + 1) fun k => if u ≤ k then cmF a b p k else []) ∧ Hid (TxF wr g 9 (b.size + 1) fun j => cmF a b (p + 1) j) ∧ Below w.heap.size w wr) (fun x _ => (intOf x + 1).toNat)
      case atStart => exact ⟨b.size, _, by omega, rfl, by omega, HN, HL, hbx⟩
      case round =>
        clear HN HL hbx
        obtain ⟨u, z, hu, rfl, hz, HN, HL, hbx⟩ := hrel
        rcases u with _ | q
        · have hneg : decide (z ≥ 0) = false := decide_eq_false (by omega)
          have HN2 := hid (HN.out.congr (f' := fun j => cmF a b p j) fun j _ => if_pos (Nat.zero_le j))
          clear hz HN HL
          go_wp2_with fail
          go_roundw
          case rel => exact ⟨p, G, _, by omega, rfl, by go_num, rfl, hsz, HN2, hbx⟩
          case measure => first | (simp [intOf]; done) | (simp [intOf]; omega)
        · obtain rfl : z = (q : Int) := by omega
          clear hz
          have hpa : p < a.size := by omega
          have hqb : q < b.size := by omega
          have n1 := HN.out.cell (j := q + 1) (by omega)
          rw [if_pos (Nat.le_refl _)] at n1
          have l0 := HL.out.cell (j := q) (by omega)
          have l1 := HL.out.cell (j := q + 1) (by omega)
          have hin := cmF_in hpa hqb
          have s1 := cmF_le a b p (q + 1) ha
          have s2 := cmF_le a b (p + 1) q ha
          have s3 := cmF_lt (a := a) (b := b) (i := p + 1) (j := q + 1) (by omega)
          have sB := betL_le s1 s2
          have HB1 := fun W => hid (better_any (txt (cmF a b p (q + 1))) (txt (cmF a b (p + 1) q)) W (by rw [txt_size]; exact s1))
          rw [bs_txt, bs_txt] at HB1
          generalize cmF a b p (q + 1) = X1 at n1 hin s1 HB1 sB
          generalize cmF a b (p + 1) q = X2 at l0 hin s2 HB1 sB
          generalize betL X1 X2 = B at HB1 hin sB
          generalize txt X1 = x1 at n1 HB1
          generalize txt X2 = x2 at l0 HB1
          clear s1 s2
          have k1 : (q : Int) < (b.size : Int) + 1 := by omega
          have k2 : (q : Int) + 1 < (b.size : Int) + 1 := by omega
          have k3 : ((q : Int) + 1).toNat = q + 1 := by omega
          have k4 : (0 : Int) ≤ (q : Int) + 1 := by omega
          have k5 : IntKind.i64.wrap ((q : Int) + 1) = (q : Int) + 1 := IntWalk.i64_in _ (by omega)
          have k6 : q < b.size + 1 := by omega
          have k7 : q + 1 < b.size + 1 := by omega
          go_wp2_with fail
          refine (wpIn_wide (n := 1)).1 ?_
          refine wpIn_region_tail (C := fun w' => ∃ q, w' = wr.drewN q) (lets_wide _) 13 (by kernel_rfl) (by kernel_rfl) ⟨1, rfl⟩ ?_
          simp only [List.take_succ_cons, List.take_zero, List.drop_succ_cons, List.drop_zero]
          repeat (quiet_step ((go_at_call 11; exact Calls.quiet_of (HB1 _).out)))
          refine wpQuiet_nil ?_
          rintro _ ⟨q1, rfl⟩
          have HN1 := hid (HN.out.drewN q1)
          have HL1 := hid (HL.out.drewN q1)
          have hbw1 := below_drewN hbx q1
          have f1 := HN1.out.frozen q
          have c1 := HN1.out.cell (j := q) k6
          clear HN HL hbx n1 l0 HB1
          generalize wr.drewN q1 = wy at HN1 HL1 hbw1 f1 c1 ⊢
          gi_wp2
          obtain ⟨st1, st2⟩ := HN1.out.set q B
          have HN2 := hid st1
          have HL2 := hid (HL1.out.keep (st2.block g hne))
          have hbw2 := hbw1.trans (st2.below hsz)
          clear HN1 HL1 hbw1 f1 c1 st1 st2
          generalize wy.setCell ⟨G, q, none⟩ (.string (txt B)) = w9 at HN2 HL2 hbw2 ⊢
          by_cases he : sg a p = sg b q
          · have hq : ((a[p].toNat : Int) == (b[q].toNat : Int)) = true := by rw [sg_eq a p hpa, sg_eq b q hqb] at he; simp [he]
            rw [if_pos he] at hin
            have hcut : ∀ W : World, Sem.run Tryd.prog (Instr.slice 9 (.string a) (some (.int .i64 (p : Int))) (some (.int .i64 ((p : Int) + 1))) none) W = .ok (.string (a.extract p (p + 1))) W := fun W =>
              run_slice_string W 9 a .i64 .i64 (p : Int) ((p : Int) + 1) Tryd.underlying9 (by omega) (by omega) (by omega)
            have hadd := fun W => run_string_add_sum (P := Tryd.prog) W (a.extract p (p + 1)) (txt (cmF a b (p + 1) (q + 1))) (by rw [ByteArray.size_extract, txt_size]; omega)
            have hcat : a.extract p (p + 1) ++ txt (cmF a b (p + 1) (q + 1)) = txt (sg a p :: cmF a b (p + 1) (q + 1)) := bs_inj (by rw [wb_app, ext_one hpa, bs_txt, bs_txt]; rfl)
            rw [hcat] at hadd
            have HB2 := fun W => hid (better_any (txt B) (txt (sg a p :: cmF a b (p + 1) (q + 1))) W (by rw [txt_size]; exact sB))
            rw [bs_txt, bs_txt, ← hin] at HB2
            have nB := HN2.out.cell (j := q) k6
            rw [if_pos rfl] at nB
            have l1' := HL2.out.cell (j := q + 1) k7
            have k8 : (p : Int) + 1 ≤ (a.size : Int) := by omega
            have k9 : IntKind.i64.wrap ((p : Int) + 1) = (p : Int) + 1 := IntWalk.i64_in _ (by omega)
            clear hcat hin he l1 s3
            generalize a.extract p (p + 1) = x3 at hcut hadd
            generalize txt (sg a p :: cmF a b (p + 1) (q + 1)) = x4 at hadd HB2
            generalize txt (cmF a b (p + 1) (q + 1)) = x5 at hadd l1'
            generalize txt B = x6 at nB HB2
            go_wp2_with fail
            go_quiet (fail)
            rename_i nq _
            have HN3 := hid (HN2.out.drewN nq)
            have HL3 := hid (HL2.out.drewN nq)
            have hbw3 := below_drewN hbw2 nq
            have nB3 : (w9.drewN nq).cell? ⟨G, q, none⟩ = _ := nB
            have l13 : (w9.drewN nq).cell? ⟨g, q + 1, none⟩ = _ := l1'
            clear HN2 HL2 hbw2 nB l1'
            generalize w9.drewN nq = wa at HN3 HL3 hbw3 nB3 l13 ⊢
            go_wp2_with fail
            refine (wpIn_wide (n := 1)).1 ?_
            refine wpIn_region_tail (C := fun w' => ∃ q, w' = wa.drewN q) (lets_wide _) 19 (by kernel_rfl) (by kernel_rfl) ⟨1, rfl⟩ ?_
            simp only [List.take_succ_cons, List.take_zero, List.drop_succ_cons, List.drop_zero]
            repeat (quiet_step ((go_at_call 11; exact Calls.quiet_of (HB2 _).out)))
            refine wpQuiet_nil ?_
            rintro _ ⟨q1, rfl⟩
            have HN4 := hid (HN3.out.drewN q1)
            have HL4 := hid (HL3.out.drewN q1)
            have hbw4 := below_drewN hbw3 q1
            have f4 := HN4.out.frozen q
            have c4 := HN4.out.cell (j := q) k6
            clear HN3 HL3 hbw3 nB3 l13 HB2
            generalize wa.drewN q1 = wb at HN4 HL4 hbw4 f4 c4 ⊢
            gi_wp2
            obtain ⟨st1, st2⟩ := HN4.out.set q (cmF a b p q)
            have HN5 := hid (st1.congr (f' := fun k => if q ≤ k then cmF a b p k else []) fun k _ => by
              by_cases e1 : k = q
              · rw [if_pos e1, e1, if_pos (Nat.le_refl q)]
              · rw [if_neg e1, if_neg e1]
                by_cases e2 : q + 1 ≤ k
                · rw [if_pos e2, if_pos (by omega)]
                · rw [if_neg e2, if_neg (by omega)])
            have HL5 := hid (HL4.out.keep (st2.block g hne))
            have hbw5 := hbw4.trans (st2.below hsz)
            clear HN4 HL4 hbw4 f4 c4 st1 st2
            generalize wb.setCell ⟨G, q, none⟩ (.string (txt (cmF a b p q))) = wc at HN5 HL5 hbw5 ⊢
            go_wp2_with fail
            go_roundw
            case rel => exact ⟨q, _, by omega, rfl, by go_num, HN5, HL5, hbw5⟩
            case measure => first | (simp [intOf]; done) | (simp [intOf]; omega)
          · have hq : ((a[p].toNat : Int) == (b[q].toNat : Int)) = false := by rw [sg_eq a p hpa, sg_eq b q hqb] at he; simpa using byte_apart he
            rw [if_neg he] at hin
            have HN3 := hid (HN2.out.congr (f' := fun k => if q ≤ k then cmF a b p k else []) fun k _ => by
              by_cases e1 : k = q
              · rw [if_pos e1, e1, if_pos (Nat.le_refl q), hin]
              · rw [if_neg e1]
                by_cases e2 : q + 1 ≤ k
                · rw [if_pos e2, if_pos (by omega)]
                · rw [if_neg e2, if_neg (by omega)])
            clear HN2 he hin l1 s3 sB
            go_wp2_with fail
            go_quiet (fail)
            go_wp2_with fail
            go_roundw
            case rel => exact ⟨q, _, by omega, rfl, by go_num, hid (HN3.out.drewN _), hid (HL2.out.drewN _), below_drewN hbw2 _⟩
            case measure => first | (simp [intOf]; done) | (simp [intOf]; omega)
end Go.Proofs.YtaodocdddfkglaaDoor
