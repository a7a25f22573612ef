/-
  The walk of EditOne: it returns true at every two texts, every number and every byte. Conditions: the row's own sizes.
-/
import Derived.Test.YteeajhelnolfcaaEdfact
import Derived.Test.YteeajhelnolfcaaIn2
import Derived.Test.YteeajhelnolfcaaOneT
import Derived.Laws.Concat
import Derived.Deep.RegionWith
namespace Go.Proofs.Yteeajhelnolfcaa
open Go.RowKit

theorem eone_long (a b : ByteArray) (i : Int) (c : UInt8) (w : World) (h : 24 < a.size ∨ 24 < b.size) (ha : a.size ≤ maxLen) (hb : b.size ≤ maxLen) :
    Calls Try.prog 6 #[.string a, .string b, .int .i64 i, .int .u8 (c.toNat : Int)] w fun e w' => e = .returned (.bool true) ∧ Below w.heap.size w w' := by
  have HF := fun W => hid (efact_any W)
  have H1 := fun W => hid (efar_full a b W h ha hb)
  clear h ha hb
  go_enter Try.func6, Try.ntmps6
  go_wp2_with fail
  refine (HF _).out.mono ?_
  rintro e w1 ⟨rfl, hb1⟩
  go_wp2_with fail
  refine (H1 _).out.mono ?_
  rintro e w2 ⟨rfl, hb2⟩
  have hbw := hb1.trans (hb2.mono hb1.size)
  clear HF H1 hb1 hb2
  go_wp2_with fail
  go_ret
  exact ⟨rfl, hbw⟩
theorem eone_out (a b : ByteArray) (i : Int) (c : UInt8) (w : World) (ha : a.size ≤ 24) (hb : b.size ≤ 24) (hi : ¬ (0 ≤ i ∧ i ≤ a.size)) :
    Calls Try.prog 6 #[.string a, .string b, .int .i64 i, .int .u8 (c.toNat : Int)] w fun e w' => e = .returned (.bool true) ∧ Below w.heap.size w w' := by
  have HF := fun W => hid (efact_any W)
  have H1 := fun W => hid (efar_any a b W ha hb)
  have HIN := fun W => hid (in_not i 0 (a.size : Int) W hi)
  clear hb hi
  generalize far (bs a) (bs b) = X at H1
  go_enter Try.func6, Try.ntmps6
  go_wp2_with fail
  refine (HF _).out.mono ?_
  rintro e w1 ⟨rfl, hb1⟩
  go_wp2_with fail
  refine (H1 _).out.mono ?_
  rintro e w2 ⟨rfl, hb2⟩
  have hbw := hb1.trans (hb2.mono hb1.size)
  clear HF H1 hb1 hb2
  go_wp2_with fail
  refine (HIN _).out.mono ?_
  rintro e w3 ⟨rfl, hw3⟩
  subst w3
  clear HIN
  go_wp2_with fail
  go_ret
  exact ⟨rfl, hbw⟩
theorem bs_parts (a : ByteArray) (i : Nat) : bs (a.extract 0 i) = (bs a).take i ∧ bs (a.extract i a.size) = (bs a).drop i := by
  refine ⟨by rw [wb_ext, List.drop_zero], ?_⟩
  rw [wb_ext, List.take_of_length_le (by rw [bs_len]; exact Nat.le_refl _)]
theorem bs_oneT (c : UInt8) : bs (oneT c) = [c] := rfl
/-- One sign put in. -/
theorem one_more (a b : ByteArray) (i : Nat) (c : UInt8) (hi : i ≤ a.size) (h : a.size < 24) (hb : b.size ≤ 24) :
    ∃ Y : Nat, (∀ W, Hid (Calls Try.prog 8 #[.string a, .string (a.extract 0 i ++ oneT c ++ a.extract i a.size)] W fun e w' => e = .returned (.tuple #[.int .i64 1, .nilIface]) ∧ Below W.heap.size W w')) ∧
      (∀ W, Hid (Calls Try.prog 8 #[.string (a.extract 0 i ++ oneT c ++ a.extract i a.size), .string b] W fun e w' => e = .returned (.tuple #[.int .i64 (Y : Nat), .nilIface]) ∧ Below W.heap.size W w')) ∧
      Y ≤ far (bs a) (bs b) + 1 ∧ far (bs a) (bs b) ≤ Y + 1 := by
  have hm : (a.extract 0 i ++ oneT c ++ a.extract i a.size).size ≤ 24 := by rw [ByteArray.size_append, ByteArray.size_append, ByteArray.size_extract, ByteArray.size_extract, oneT_size]; omega
  have hbm : bs (a.extract 0 i ++ oneT c ++ a.extract i a.size) = (bs a).take i ++ c :: (bs a).drop i := by rw [wb_app, wb_app, (bs_parts a i).1, (bs_parts a i).2, bs_oneT]; simp
  have h1 : far (bs a) (bs (a.extract 0 i ++ oneT c ++ a.extract i a.size)) = 1 := by
    have := far_more ((bs a).take i) ((bs a).drop i) c
    rwa [List.take_append_drop, ← hbm] at this
  have t1 := far_tri (bs (a.extract 0 i ++ oneT c ++ a.extract i a.size)) (bs a) (bs b)
  have t2 := far_tri (bs a) (bs (a.extract 0 i ++ oneT c ++ a.extract i a.size)) (bs b)
  rw [far_sym _ (bs a), h1] at t1
  rw [h1] at t2
  refine ⟨far (bs (a.extract 0 i ++ oneT c ++ a.extract i a.size)) (bs b), fun W => ?_, fun W => hid (efar_any _ b W hm hb), by omega, by omega⟩
  have := efar_any a _ W (by omega) hm
  rw [h1] at this
  exact hid this
/-- One sign taken out, or changed. -/
theorem one_less (a : ByteArray) (i : Nat) (c : UInt8) (hi : i < a.size) (h : a.size ≤ 24) :
    (∀ W, Hid (Calls Try.prog 8 #[.string a, .string (a.extract 0 i ++ a.extract (i + 1) a.size)] W fun e w' => e = .returned (.tuple #[.int .i64 1, .nilIface]) ∧ Below W.heap.size W w')) ∧
    ∃ Y : Nat, (∀ W, Hid (Calls Try.prog 8 #[.string a, .string (a.extract 0 i ++ oneT c ++ a.extract (i + 1) a.size)] W fun e w' => e = .returned (.tuple #[.int .i64 (Y : Nat), .nilIface]) ∧ Below W.heap.size W w')) ∧
      ((((a[i].toNat : Int) == (c.toNat : Int)) = true ∧ Y = 0) ∨ (((a[i].toNat : Int) == (c.toNat : Int)) = false ∧ ((a[i].toNat : Int) != (c.toNat : Int)) = true ∧ Y = 1)) := by
  have hs2 : (a.extract 0 i ++ a.extract (i + 1) a.size).size ≤ 24 := by rw [ByteArray.size_append, ByteArray.size_extract, ByteArray.size_extract]; omega
  have hs3 : (a.extract 0 i ++ oneT c ++ a.extract (i + 1) a.size).size ≤ 24 := by rw [ByteArray.size_append, ByteArray.size_append, ByteArray.size_extract, ByteArray.size_extract, oneT_size]; omega
  have e0 : bs a = (bs a).take i ++ sg a i :: (bs a).drop (i + 1) := by rw [← bs_drop_cons hi, List.take_append_drop]
  have e2 : bs (a.extract 0 i ++ a.extract (i + 1) a.size) = (bs a).take i ++ (bs a).drop (i + 1) := by rw [wb_app, (bs_parts a i).1, (bs_parts a (i + 1)).2]
  have e3 : bs (a.extract 0 i ++ oneT c ++ a.extract (i + 1) a.size) = (bs a).take i ++ c :: (bs a).drop (i + 1) := by rw [wb_app, wb_app, (bs_parts a i).1, (bs_parts a (i + 1)).2, bs_oneT]; simp
  have h2 : far (bs a) (bs (a.extract 0 i ++ a.extract (i + 1) a.size)) = 1 := by
    rw [e2]
    have := far_less ((bs a).take i) ((bs a).drop (i + 1)) (sg a i)
    rwa [← e0] at this
  have h3 : far (bs a) (bs (a.extract 0 i ++ oneT c ++ a.extract (i + 1) a.size)) = if sg a i = c then 0 else 1 := by
    rw [e3]
    have := far_other ((bs a).take i) ((bs a).drop (i + 1)) (sg a i) c
    rwa [← e0] at this
  refine ⟨fun W => ?_, _, fun W => hid (efar_any a _ W h hs3), ?_⟩
  · have := efar_any a _ W h hs2
    rw [h2] at this
    exact hid this
  · rw [h3, sg_eq a i hi]
    by_cases e : a[i] = c
    · exact .inl ⟨by simp [e], if_pos e⟩
    · have he : ((a[i].toNat : Int) == (c.toNat : Int)) = false := by simpa using byte_apart e
      exact .inr ⟨he, by simpa using byte_apart e, if_neg e⟩
set_option maxRecDepth 100000 in
set_option maxHeartbeats 4000000 in
theorem eone_any (a b : ByteArray) (I : Int) (c : UInt8) (w : World) (ha : a.size ≤ maxLen) (hb : b.size ≤ maxLen) :
    Calls Try.prog 6 #[.string a, .string b, .int .i64 I, .int .u8 (c.toNat : Int)] w fun e w' => e = .returned (.bool true) ∧ Below w.heap.size w w' := by
  by_cases h : 24 < a.size ∨ 24 < b.size
  · exact eone_long a b I c w h ha hb
  have ha2 : a.size ≤ 24 := by omega
  have hb2 : b.size ≤ 24 := by omega
  clear h ha hb
  by_cases hI : 0 ≤ I ∧ I ≤ a.size
  rotate_left
  · exact eone_out a b I c w ha2 hb2 hI
  obtain ⟨i, rfl⟩ : ∃ i : Nat, I = i := ⟨I.toNat, by omega⟩
  have hi : i ≤ a.size := by omega
  clear hI
  have HF := fun W => hid (efact_any W)
  have H1 := fun W => hid (efar_any a b W ha2 hb2)
  have hX : far (bs a) (bs b) ≤ 24 := tb_le a b 0 0 ha2 hb2
  have HIN := fun W => hid (in_yes (i : Int) 0 (a.size : Int) W (by omega) (by omega))
  have hcv := fun W : World => run_one (P := Try.prog) W c 33 9 5 Try.underlying33 Try.underlying5 Try.underlying9
  have hx1 : ∀ W : World, Sem.run Try.prog (Instr.slice 9 (.string a) none (some (.int .i64 (i : Int))) none) W = .ok (.string (a.extract 0 i)) W := fun W =>
    run_slice_string_h W 9 a Try.underlying9 .i64 (i : Int) (by omega) (by omega)
  have hx2 : ∀ W : World, Sem.run Try.prog (Instr.slice 9 (.string a) (some (.int .i64 (i : Int))) none none) W = .ok (.string (a.extract i a.size)) W := fun W =>
    run_slice_string_l W 9 a Try.underlying9 .i64 (i : Int) (by omega) (by omega)
  have HMORE := fun h => one_more a b i c hi h hb2
  have HLESS := fun h => one_less a i c h ha2
  have hx3 : i < a.size → ∀ W : World, Sem.run Try.prog (Instr.slice 9 (.string a) (some (.int .i64 ((i : Int) + 1))) none none) W = .ok (.string (a.extract (i + 1) a.size)) W := fun h W =>
    run_slice_string_l W 9 a Try.underlying9 .i64 ((i : Int) + 1) (by omega) (by omega)
  have hadd1 := fun W => run_string_add_sum (P := Try.prog) W (a.extract 0 i) (oneT c) (by rw [ByteArray.size_extract, oneT_size]; omega)
  have hadd2 := fun W => run_string_add_sum (P := Try.prog) W (a.extract 0 i ++ oneT c) (a.extract i a.size) (by rw [ByteArray.size_append, ByteArray.size_extract, ByteArray.size_extract, oneT_size]; omega)
  have hadd3 := fun W => run_string_add_sum (P := Try.prog) W (a.extract 0 i ++ oneT c) (a.extract (i + 1) a.size) (by rw [ByteArray.size_append, ByteArray.size_extract, ByteArray.size_extract, oneT_size]; omega)
  have hadd4 := fun W => run_string_add_sum (P := Try.prog) W (a.extract 0 i) (a.extract (i + 1) a.size) (by rw [ByteArray.size_extract, ByteArray.size_extract]; omega)
  generalize a.extract 0 i ++ oneT c ++ a.extract i a.size = m1 at hadd2 HMORE
  generalize a.extract 0 i ++ oneT c ++ a.extract (i + 1) a.size = m3 at hadd3 HLESS
  generalize a.extract 0 i ++ a.extract (i + 1) a.size = m2 at hadd4 HLESS
  generalize a.extract 0 i ++ oneT c = p1 at hadd1 hadd2 hadd3
  generalize far (bs a) (bs b) = X at H1 HMORE hX
  generalize oneT c = t at hcv hadd1
  generalize a.extract 0 i = p at hx1 hadd1 hadd4
  generalize a.extract i a.size = r at hx2 hadd2
  generalize a.extract (i + 1) a.size = r1 at hx3 hadd3 hadd4
  go_enter Try.func6, Try.ntmps6
  go_wp2_with fail
  refine (HF _).out.mono ?_
  rintro e w1 ⟨rfl, hb1⟩
  go_wp2_with fail
  refine (H1 _).out.mono ?_
  rintro e w2 ⟨rfl, hb2'⟩
  have hbw := hb1.trans (hb2'.mono hb1.size)
  clear HF H1 hb1 hb2'
  go_wp2_with fail
  refine (HIN _).out.mono ?_
  rintro e w3 ⟨rfl, hw3⟩
  subst w3
  clear HIN
  by_cases h24 : a.size < 24
  focus
    obtain ⟨Y, H2, H3, hy1, hy2⟩ := HMORE h24
    clear HMORE
    go_wp2_with fail
    have hbz := hbw.alloc hbw.size (.cells #[.int .u8 (c.toNat : Int)] 5)
    generalize World.alloc w2 _ = wz at hbz ⊢
    go_region_with (go_at_call 8; refine (H2 _).out.mono ?_; rintro e w4 ⟨rfl, hb4⟩)
    have hbd : Below w.heap.size w wz.drew := below_drewN hbz 1
    have hbx := hbd.trans (hb4.mono hbd.size)
    clear hbz hbd hb4 H2 hbw
    go_wp2_with fail
    go_region_with (go_at_call 8; refine (H3 _).out.mono ?_; rintro e w5 ⟨rfl, hb5⟩)
    have hbd : Below w.heap.size w w4.drew := below_drewN hbx 1
    have hbB := hbd.trans (hb5.mono hbd.size)
    clear hbx hbd hb5 H3
    have hy3 : ¬ ((Y : Int) > (X : Int) + 1) := by omega
    have hy4 : ¬ ((Y : Int) < (X : Int) - 1) := by omega
    by_cases hia : i < a.size
    focus
      have heq : ((i : Int) == (a.size : Int)) = false := beq_eq_false_iff_ne.2 (by omega)
      go_wp2_with fail
      clear hy1 hy2 hy3 hy4
    rotate_left
    focus
      have heq : ((i : Int) == (a.size : Int)) = true := beq_iff_eq.2 (by omega)
      go_wp2_with fail
      go_ret
      exact ⟨rfl, hbB⟩
  rotate_left
  focus
    clear HMORE
    have hbB := hbw.alloc hbw.size (.cells #[.int .u8 (c.toNat : Int)] 5)
    by_cases hia : i < a.size
    focus
      have heq : ((i : Int) == (a.size : Int)) = false := beq_eq_false_iff_ne.2 (by omega)
      go_wp2_with fail
      generalize World.alloc w2 _ = wz at hbB ⊢
      clear hbw
    rotate_left
    focus
      have heq : ((i : Int) == (a.size : Int)) = true := beq_iff_eq.2 (by omega)
      go_wp2_with fail
      go_ret
      exact ⟨rfl, hbB⟩
  all_goals (
    obtain ⟨H4, Y4, H5, hY⟩ := HLESS hia
    have hx4 := hx3 hia
    have hi1 : i + 1 ≤ a.size := hia
    have hwi : IntKind.i64.wrap ((i : Int) + 1) = (i : Int) + 1 := IntWalk.i64_in _ (by omega)
    clear HLESS hcv hx2 hadd2 heq h24 hx3
    go_region_with (go_at_call 8; refine (H4 _).out.mono ?_; rintro e w6 ⟨rfl, hb6⟩)
    have hbd : Below w.heap.size w _ := below_drewN hbB 1
    have hbC := hbd.trans (hb6.mono hbd.size)
    clear hbd hb6 hbB H4 hadd4
    go_wp2_with fail
    go_region_with (go_at_call 8; refine (H5 _).out.mono ?_; rintro e w7 ⟨rfl, hb7⟩)
    have hbd : Below w.heap.size w _ := below_drewN hbC 1
    have hbD := hbd.trans (hb7.mono hbd.size)
    clear hbd hb7 hbC H5 hadd3 hadd1 hx1 hx4 hwi
    rcases hY with ⟨hY, rfl⟩ | ⟨hY, hY2, rfl⟩
    all_goals (
      go_wp2_with fail
      go_ret
      exact ⟨rfl, hbD⟩))
end Go.Proofs.Yteeajhelnolfcaa
