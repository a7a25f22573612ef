/-
  The walk of DyckJoin: it returns true at all texts. Conditions: the row's own sizes.
-/
import Derived.Test.YtlbefiaieehcfaaDkfact
import Derived.Test.YtlbefiaieehcfaaSignW
import Derived.Laws.Concat
namespace Go.Proofs.Ytlbefiaieehcfaa
open Go.RowKit

theorem trn_take {a : ByteArray} {i : Nat} (h : i < a.size) : trn ((bs a).take (i + 1)) = (if sg a i = 40 then 41 else 40) :: trn ((bs a).take i) := by
  unfold trn
  rw [List.take_succ_eq_append_getElem (by rw [bs_len]; exact h), List.map_append, List.reverse_append]
  have : (bs a)[i]'(by rw [bs_len]; exact h) = sg a i := by
    rw [← bs_sg, List.getD_eq_getElem?_getD, List.getElem?_eq_getElem (by rw [bs_len]; exact h)]
    rfl
  rw [this]
  rfl
theorem trn_len (l : List UInt8) : (trn l).length = l.length := by unfold trn; rw [List.length_reverse, List.length_map]
theorem txt_head (c : UInt8) (l : List UInt8) : (⟨#[c]⟩ : ByteArray) ++ txt l = txt (c :: l) := bs_inj (by rw [wb_app, bs_txt, bs_txt]; rfl)
theorem br_app {a b : ByteArray} (ha : brS a = 0) (hb : brS b = 0) (h : a.size + b.size ≤ 16) : brS (a ++ b) = 0 :=
  brS_zero.2 ⟨by rw [ByteArray.size_append]; exact h, by rw [wb_app]; exact bl_app (brS_zero.1 ha).2 (brS_zero.1 hb).2⟩
theorem br_round {a : ByteArray} (ha : brS a = 0) (h : a.size ≤ 14) : brS (((⟨#[40]⟩ : ByteArray) ++ a) ++ (⟨#[41]⟩ : ByteArray)) = 0 :=
  brS_zero.2 ⟨by rw [ByteArray.size_append, ByteArray.size_append]; show 1 + a.size + 1 ≤ 16; omega, by rw [wb_app, wb_app]; exact bl_round (brS_zero.1 ha).2⟩
theorem br_trn {a : ByteArray} (ha : brS a = 0) : brS (txt (trn (bs a))) = 0 :=
  brS_zero.2 ⟨by rw [txt_size, trn_len, bs_len]; exact (brS_zero.1 ha).1, by rw [bs_txt]; exact bl_trn (brS_zero.1 ha).2⟩
theorem dkjo_a (a b : ByteArray) (w : World) (ha : a.size ≤ maxLen) (h : brS a ≠ 0) :
    Calls Try.prog 5 #[.string a, .string b] w fun e w' => e = .returned (.bool true) ∧ Below w.heap.size w w' := by
  have HF := hid (dkfact_any w)
  have H1 := fun W => hid (dcheck_bad a W ha h)
  clear h
  go_enter Try.func5, Try.ntmps5
  go_wp2_with fail
  refine HF.out.mono ?_
  rintro e w1 ⟨rfl, hb1⟩
  go_wp2_with fail
  refine (H1 _).out.mono ?_
  rintro e w2 ⟨rfl, hb2⟩
  have hbA := hb1.trans (hb2.mono hb1.size)
  clear HF H1 hb1 hb2
  go_wp2_with fail
  go_ret
  exact ⟨rfl, hbA⟩
theorem dkjo_b (a b : ByteArray) (w : World) (h0 : brS a = 0) (hb : b.size ≤ maxLen) (h : brS b ≠ 0) :
    Calls Try.prog 5 #[.string a, .string b] w fun e w' => e = .returned (.bool true) ∧ Below w.heap.size w w' := by
  have HF := hid (dkfact_any w)
  have H1 := fun W => hid (dcheck_ok a W h0)
  have H2 := fun W => hid (dcheck_bad b W hb h)
  clear h h0
  go_enter Try.func5, Try.ntmps5
  go_wp2_with fail
  refine HF.out.mono ?_
  rintro e w1 ⟨rfl, hb1⟩
  go_wp2_with fail
  refine (H1 _).out.mono ?_
  rintro e w2 ⟨rfl, hb2⟩
  have hbA := hb1.trans (hb2.mono hb1.size)
  go_wp2_with fail
  refine (H2 _).out.mono ?_
  rintro e w3 ⟨rfl, hb3⟩
  have hbB := hbA.trans (hb3.mono hbA.size)
  clear HF H1 H2 hb1 hb2 hbA hb3
  go_wp2_with fail
  go_ret
  exact ⟨rfl, hbB⟩
set_option maxHeartbeats 4000000 in
set_option maxRecDepth 100000 in
theorem dkjo_ok (a b : ByteArray) (w : World) (h0 : brS a = 0) (h1 : brS b = 0) :
    Calls Try.prog 5 #[.string a, .string b] w fun e w' => e = .returned (.bool true) ∧ Below w.heap.size w w' := by
  have ha16 := (brS_zero.1 h0).1
  have hb16 := (brS_zero.1 h1).1
  have HF := hid (dkfact_any w)
  have H1 := fun W => hid (dcheck_ok a W h0)
  have H2 := fun W => hid (dcheck_ok b W h1)
  have H3 := fun W => hid (dcheck_ok _ W (br_trn h0))
  have hab := fun W => run_string_add_sum (P := Try.prog) W a b (by omega)
  have hra := fun W => run_string_add_sum (P := Try.prog) W (⟨#[40]⟩ : ByteArray) a (by show 1 + a.size ≤ maxLen; unfold maxLen; omega)
  have hrs : ((⟨#[40]⟩ : ByteArray) ++ a).size = 1 + a.size := by rw [ByteArray.size_append]; rfl
  have hrb := fun W => run_string_add_sum (P := Try.prog) W ((⟨#[40]⟩ : ByteArray) ++ a) (⟨#[41]⟩ : ByteArray) (by rw [hrs]; show 1 + a.size + 1 ≤ maxLen; unfold maxLen; omega)
  have HX : (∀ W, Hid (Calls Try.prog 13 #[.string (a ++ b)] W fun e w' => e = .returned .nilIface ∧ Below W.heap.size W w')) ∨
      (decide ((a.size : Int) + (b.size : Int) > 16) = true ∧ ∀ W, Hid (Calls Try.prog 13 #[.string (a ++ b)] W fun e w' => e = .returned (.iface 40 (.int .i64 4)) ∧ Below W.heap.size W w')) := by
    by_cases h : a.size + b.size ≤ 16
    · exact .inl fun W => hid (dcheck_ok _ W (br_app h0 h1 h))
    · have h4 := brS_long (s := a ++ b) (by rw [ByteArray.size_append]; omega)
      refine .inr ⟨decide_eq_true (by omega), fun W => hid ?_⟩
      have := dcheck_bad (a ++ b) W (by rw [ByteArray.size_append]; unfold maxLen; omega) (by rw [h4]; decide)
      rwa [h4] at this
  have HY : (∀ W, Hid (Calls Try.prog 13 #[.string (((⟨#[40]⟩ : ByteArray) ++ a) ++ (⟨#[41]⟩ : ByteArray))] W fun e w' => e = .returned .nilIface ∧ Below W.heap.size W w')) ∨
      (decide ((a.size : Int) > 14) = true ∧ ∀ W, Hid (Calls Try.prog 13 #[.string (((⟨#[40]⟩ : ByteArray) ++ a) ++ (⟨#[41]⟩ : ByteArray))] W fun e w' => e = .returned (.iface 40 (.int .i64 4)) ∧ Below W.heap.size W w')) := by
    by_cases h : a.size ≤ 14
    · exact .inl fun W => hid (dcheck_ok _ W (br_round h0 h))
    · have hsz : (((⟨#[40]⟩ : ByteArray) ++ a) ++ (⟨#[41]⟩ : ByteArray)).size = 1 + a.size + 1 := by rw [ByteArray.size_append, hrs]; rfl
      have h4 := brS_long (s := ((⟨#[40]⟩ : ByteArray) ++ a) ++ (⟨#[41]⟩ : ByteArray)) (by rw [hsz]; omega)
      refine .inr ⟨decide_eq_true (by omega), fun W => hid ?_⟩
      have := dcheck_bad (((⟨#[40]⟩ : ByteArray) ++ a) ++ (⟨#[41]⟩ : ByteArray)) W (by rw [hsz]; unfold maxLen; omega) (by rw [h4]; decide)
      rwa [h4] at this
  clear hrs h0 h1
  generalize ((⟨#[40]⟩ : ByteArray) ++ a) ++ (⟨#[41]⟩ : ByteArray) = yy at hrb HY
  generalize (⟨#[40]⟩ : ByteArray) ++ a = y1 at hra hrb
  generalize a ++ b = xx at hab HX
  go_enter Try.func5, Try.ntmps5
  go_wp2_with fail
  refine HF.out.mono ?_
  rintro e w1 ⟨rfl, hb1⟩
  go_wp2_with fail
  refine (H1 _).out.mono ?_
  rintro e w2 ⟨rfl, hb2⟩
  have hbA := hb1.trans (hb2.mono hb1.size)
  go_wp2_with fail
  refine (H2 _).out.mono ?_
  rintro e w3 ⟨rfl, hb3⟩
  have hbB := hbA.trans (hb3.mono hbA.size)
  clear HF H1 H2 hb1 hb2 hbA hb3
  go_wp2_with fail
  go_loopw [6, 7] (fun v x wr => ∃ i : Nat, i ≤ a.size ∧ x = .int .i64 i ∧ v = .string (txt (trn ((bs a).take i))) ∧ wr = w3) (fun _ x _ => a.size - (intOf x).toNat)
  case atStart => exact ⟨0, by omega, rfl, rfl, rfl⟩
  case round =>
    obtain ⟨i, hin, rfl, rfl, hwr⟩ := hrel
    subst hwr
    by_cases hlt : i < a.size
    · have hli : (i : Int) < (a.size : Int) := by omega
      have hnx := trn_take hlt
      have hts : (txt (trn ((bs a).take i))).size ≤ 16 := by rw [txt_size, trn_len, List.length_take]; omega
      have hadd := fun c W => run_string_add_sum (P := Try.prog) W (⟨#[c]⟩ : ByteArray) (txt (trn ((bs a).take i))) (by show 1 + _ ≤ maxLen; unfold maxLen; omega)
      simp only [txt_head] at hadd
      rcases byte_is40 hlt with ⟨c1, hc⟩ | ⟨c1, hc⟩
      · rw [if_pos hc] at hnx
        have ha := hadd 41
        rw [← hnx] at ha
        have HA := hid hnx
        clear hadd hnx hts
        generalize txt (trn ((bs a).take i)) = t at ha ⊢
        clear HA
        go_wp2_with fail
        go_roundw
        case rel => exact ⟨i + 1, by omega, by go_num, rfl, by first | rfl | trivial⟩
        case measure => simp [intOf]; omega
      · rw [if_neg hc] at hnx
        have ha := hadd 40
        rw [← hnx] at ha
        clear hadd hnx hts
        generalize txt (trn ((bs a).take i)) = t at ha ⊢
        go_wp2_with fail
        go_roundw
        case rel => exact ⟨i + 1, by omega, by go_num, rfl, by first | rfl | trivial⟩
        case measure => simp [intOf]; omega
    · obtain rfl : i = a.size := by omega
      rw [List.take_of_length_le (by rw [bs_len]; exact Nat.le_refl _)]
      have hli : ¬ (a.size : Int) < (a.size : Int) := by omega
      generalize txt (trn (bs a)) = t at H3 ⊢
      have hs1 : (a.size : Int) ≤ 16 := by omega
      have hs2 : (b.size : Int) ≤ 16 := by omega
      rcases HX with HX | ⟨dx, HX⟩
      all_goals (
        rcases HY with HY | ⟨dy, HY⟩
        all_goals (
          go_wp2_with fail
          refine (HX _).out.mono ?_
          rintro e w4 ⟨rfl, hb4⟩
          have hbC := hbB.trans (hb4.mono hbB.size)
          go_wp2_with fail
          refine (HY _).out.mono ?_
          rintro e w5 ⟨rfl, hb5⟩
          have hbD := hbC.trans (hb5.mono hbC.size)
          go_wp2_with fail
          refine (H3 _).out.mono ?_
          rintro e w6 ⟨rfl, hb6⟩
          have hbE := hbD.trans (hb6.mono hbD.size)
          clear hb4 hb5 hb6 hbC hbD
          go_wp2_with fail
          go_ret
          exact ⟨by first | rfl | simp, hbE⟩))
theorem dkjo_any (a b : ByteArray) (w : World) (ha : a.size ≤ maxLen) (hb : b.size ≤ maxLen) :
    Calls Try.prog 5 #[.string a, .string b] w fun e w' => e = .returned (.bool true) ∧ Below w.heap.size w w' := by
  by_cases h0 : brS a = 0
  · by_cases h1 : brS b = 0
    · exact dkjo_ok a b w h0 h1
    · exact dkjo_b a b w h0 hb h1
  · exact dkjo_a a b w ha h0
end Go.Proofs.Ytlbefiaieehcfaa
