/-
  The walk of DyckPlace: it returns true at all numbers and texts. Conditions: the row's own sizes.
-/
import Derived.Test.YtlbefiaieehcfaaDkfact
import Derived.Test.YtlbefiaieehcfaaBef
namespace Go.Proofs.Ytlbefiaieehcfaa
open Go.RowKit

/-- What the law asks of s behind its places, known. -/
def SKn (s : ByteArray) : Prop :=
  (∃ K : Nat, K ≤ 1430 ∧ (∀ W, Calls Try.prog 11 #[.string s] W fun e w' => e = .returned (.tuple #[.int .i64 (K : Int), .nilIface]) ∧ Below W.heap.size W w') ∧
    (∀ W, Calls Try.prog 10 #[.int .i64 ((s.size : Int) / 2), .int .i64 (K : Int)] W fun e w' => e = .returned (.tuple #[.string s, .nilIface]) ∧ Below W.heap.size W w')) ∨
  (∃ B : Int, ∀ W, Calls Try.prog 11 #[.string s] W fun e w' => e = .returned (.tuple #[.int .i64 0, .iface 40 (.int .i64 B)]) ∧ Below W.heap.size W w')
theorem skn_any (s : ByteArray) (hs : s.size ≤ maxLen) : SKn s := by
  by_cases h : brS s = 0
  · obtain ⟨_, h2, h3, h4⟩ := br_at h
    have hb := bal_le h2
    refine .inl ⟨rk 0 (bs s), by omega, fun W => dplace_ok s W h, fun W => ?_⟩
    have := dat_ok _ _ _ W h2 h3
    rw [txt_bs, show ((s.size / 2 : Nat) : Int) = (s.size : Int) / 2 by omega] at this
    exact this
  · exact .inr ⟨brS s, fun W => dplace_bad s W hs h⟩
set_option maxHeartbeats 4000000 in
set_option maxRecDepth 100000 in
theorem dkpl_bad (x y : Int) (s : ByteArray) (w : World) (hs : s.size ≤ maxLen) (h : ¬ (0 ≤ x ∧ x ≤ 8 ∧ 0 ≤ y ∧ y < (bal 0 (2 * x.toNat) : Nat))) :
    Calls Try.prog 4 #[.int .i64 x, .int .i64 y, .string s] w fun e w' => e = .returned (.bool true) ∧ Below w.heap.size w w' := by
  have HF := hid (dkfact_any w)
  have H1 := fun W => hid (dat_bad x y W h)
  have hq : (s.toList == s.toList) = true := by simp
  have hK := skn_any s hs
  unfold maxLen at hs
  clear h
  rcases hK with ⟨K, hK, HP, HA⟩ | ⟨B, HP⟩
  · have HP := fun W => hid (HP W)
    have HA := fun W => hid (HA W)
    go_enter Try.func4, Try.ntmps4
    go_wp2_with fail
    refine HF.out.mono ?_
    rintro e w1 ⟨rfl, hb1⟩
    go_wp2_with fail
    refine (H1 _).out.mono ?_
    rintro e w2 ⟨rfl, hb2⟩
    have hbA := hb1.trans (hb2.mono hb1.size)
    clear HF H1 hb1 hb2
    go_wp2_with fail
    refine (HP _).out.mono ?_
    rintro e w3 ⟨rfl, hb3⟩
    have hbB := hbA.trans (hb3.mono hbA.size)
    clear HP hb3 hbA
    go_wp2_with fail
    refine (HA _).out.mono ?_
    rintro e w4 ⟨rfl, hb4⟩
    have hbC := hbB.trans (hb4.mono hbB.size)
    clear HA hb4 hbB
    go_wp2_with fail
    go_ret
    exact ⟨by first | rfl | simp, hbC⟩
  · have HP := fun W => hid (HP W)
    go_enter Try.func4, Try.ntmps4
    go_wp2_with fail
    refine HF.out.mono ?_
    rintro e w1 ⟨rfl, hb1⟩
    go_wp2_with fail
    refine (H1 _).out.mono ?_
    rintro e w2 ⟨rfl, hb2⟩
    have hbA := hb1.trans (hb2.mono hb1.size)
    clear HF H1 hb1 hb2
    go_wp2_with fail
    refine (HP _).out.mono ?_
    rintro e w3 ⟨rfl, hb3⟩
    have hbB := hbA.trans (hb3.mono hbA.size)
    clear HP hb3 hbA
    go_wp2_with fail
    go_ret
    exact ⟨by first | rfl | simp, hbB⟩
/-- What the law asks of a place behind the first one. -/
def NKn (n k : Nat) (T : ByteArray) : Prop :=
  (∃ U : ByteArray, U.size ≤ 16 ∧ (∀ W, Calls Try.prog 10 #[.int .i64 (n : Int), .int .i64 ((k : Int) + 1)] W fun e w' => e = .returned (.tuple #[.string U, .nilIface]) ∧ Below W.heap.size W w') ∧
    (∀ W, Calls Try.prog 12 #[.string T, .string U] W fun e w' => e = .returned (.bool true) ∧ ∃ q, w' = W.drewN q)) ∨
  (∀ W, Calls Try.prog 10 #[.int .i64 (n : Int), .int .i64 ((k : Int) + 1)] W fun e w' => e = .returned (.tuple #[.string ByteArray.empty, .iface 40 (.int .i64 1)]) ∧ Below W.heap.size W w')
theorem nkn_any {n k : Nat} {t : List UInt8} (hn : n ≤ 8) (ht : (ev 0 (2 * n))[k]? = some t) : NKn n k (txt t) := by
  by_cases h : k + 1 < bal 0 (2 * n)
  · obtain ⟨u, hu⟩ := ev_some h
    obtain ⟨u1, _⟩ := ev_at hn hu
    obtain ⟨t1, _⟩ := ev_at hn ht
    have hlt := ev_next ht hu
    refine .inl ⟨txt u, by rw [txt_size]; omega, fun W => ?_, fun W => ?_⟩
    · have := dat_ok n (k + 1) u W hn hu
      rwa [show ((k + 1 : Nat) : Int) = (k : Int) + 1 by omega] at this
    · have := before_any (txt t) (txt u) W (by rw [txt_size]; omega) (by rw [txt_size]; omega)
      rwa [befB_yes (by rw [bs_txt, bs_txt]; exact hlt)] at this
  · refine .inr fun W => dat_bad _ _ W ?_
    rw [Int.toNat_natCast]
    omega
set_option maxHeartbeats 8000000 in
set_option maxRecDepth 100000 in
theorem dkpl_ok (n k : Nat) (t : List UInt8) (s : ByteArray) (w : World) (hs : s.size ≤ maxLen) (hn : n ≤ 8) (ht : (ev 0 (2 * n))[k]? = some t) :
    Calls Try.prog 4 #[.int .i64 (n : Int), .int .i64 (k : Int), .string s] w fun e w' => e = .returned (.bool true) ∧ Below w.heap.size w w' := by
  obtain ⟨t1, _, t3, t4, t5⟩ := ev_at hn ht
  have hbl := bal_le hn
  have HF := hid (dkfact_any w)
  have H1 := fun W => hid (dat_ok n k t W hn ht)
  have H2 := fun W => hid (dplace_ok (txt t) W t4)
  rw [bs_txt, t3] at H2
  have hN := nkn_any hn ht
  have hq : (s.toList == s.toList) = true := by simp
  have hK := skn_any s hs
  have hsz : (txt t).size = 2 * n := by rw [txt_size]; exact t1
  unfold maxLen at hs
  have hk1 : k ≤ 1430 := by omega
  clear t1 t3 t4 t5 hbl ht
  generalize txt t = T at H1 H2 hN hsz
  have hsl : ((T.size : Int) == 2 * (n : Int)) = true := beq_iff_eq.2 (by omega)
  rcases hN with ⟨U, hU, HU, HB⟩ | HU
  · have HU := fun W => hid (HU W)
    have HB := fun W => hid (HB W)
    rcases hK with ⟨K, hK, HP, HA⟩ | ⟨B, HP⟩
    · have HP := fun W => hid (HP W)
      have HA := fun W => hid (HA W)
      go_enter Try.func4, Try.ntmps4
      go_wp2_with fail
      refine HF.out.mono ?_
      rintro e w1 ⟨rfl, hb1⟩
      go_wp2_with fail
      refine (H1 _).out.mono ?_
      rintro e w2 ⟨rfl, hb2⟩
      have hbA := hb1.trans (hb2.mono hb1.size)
      clear HF H1 hb1 hb2
      go_wp2_with fail
      refine (H2 _).out.mono ?_
      rintro e w3 ⟨rfl, hb3⟩
      have hbB := hbA.trans (hb3.mono hbA.size)
      clear H2 hb3 hbA
      go_wp2_with fail
      refine (HU _).out.mono ?_
      rintro e w4 ⟨rfl, hb4⟩
      have hbC := hbB.trans (hb4.mono hbB.size)
      clear HU hb4 hbB
      go_wp2_with fail
      refine (HB _).out.mono ?_
      rintro e w5 ⟨rfl, q5, hw5⟩
      subst hw5; have hbD := below_drewN hbC q5
      clear HB hbC
      go_wp2_with fail
      refine (HP _).out.mono ?_
      rintro e w6 ⟨rfl, hb6⟩
      have hbE := hbD.trans (hb6.mono hbD.size)
      clear HP hb6 hbD
      go_wp2_with fail
      refine (HA _).out.mono ?_
      rintro e w7 ⟨rfl, hb7⟩
      have hbF := hbE.trans (hb7.mono hbE.size)
      clear HA hb7 hbE
      go_wp2_with fail
      go_ret
      exact ⟨by first | rfl | simp, hbF⟩
    · have HP := fun W => hid (HP W)
      go_enter Try.func4, Try.ntmps4
      go_wp2_with fail
      refine HF.out.mono ?_
      rintro e w1 ⟨rfl, hb1⟩
      go_wp2_with fail
      refine (H1 _).out.mono ?_
      rintro e w2 ⟨rfl, hb2⟩
      have hbA := hb1.trans (hb2.mono hb1.size)
      clear HF H1 hb1 hb2
      go_wp2_with fail
      refine (H2 _).out.mono ?_
      rintro e w3 ⟨rfl, hb3⟩
      have hbB := hbA.trans (hb3.mono hbA.size)
      clear H2 hb3 hbA
      go_wp2_with fail
      refine (HU _).out.mono ?_
      rintro e w4 ⟨rfl, hb4⟩
      have hbC := hbB.trans (hb4.mono hbB.size)
      clear HU hb4 hbB
      go_wp2_with fail
      refine (HB _).out.mono ?_
      rintro e w5 ⟨rfl, q5, hw5⟩
      subst hw5; have hbD := below_drewN hbC q5
      clear HB hbC
      go_wp2_with fail
      refine (HP _).out.mono ?_
      rintro e w6 ⟨rfl, hb6⟩
      have hbE := hbD.trans (hb6.mono hbD.size)
      clear HP hb6 hbD
      go_wp2_with fail
      go_ret
      exact ⟨by first | rfl | simp, hbE⟩
  · have HU := fun W => hid (HU W)
    rcases hK with ⟨K, hK, HP, HA⟩ | ⟨B, HP⟩
    · have HP := fun W => hid (HP W)
      have HA := fun W => hid (HA W)
      go_enter Try.func4, Try.ntmps4
      go_wp2_with fail
      refine HF.out.mono ?_
      rintro e w1 ⟨rfl, hb1⟩
      go_wp2_with fail
      refine (H1 _).out.mono ?_
      rintro e w2 ⟨rfl, hb2⟩
      have hbA := hb1.trans (hb2.mono hb1.size)
      clear HF H1 hb1 hb2
      go_wp2_with fail
      refine (H2 _).out.mono ?_
      rintro e w3 ⟨rfl, hb3⟩
      have hbB := hbA.trans (hb3.mono hbA.size)
      clear H2 hb3 hbA
      go_wp2_with fail
      refine (HU _).out.mono ?_
      rintro e w4 ⟨rfl, hb4⟩
      have hbC := hbB.trans (hb4.mono hbB.size)
      clear HU hb4 hbB
      go_wp2_with fail
      refine (HP _).out.mono ?_
      rintro e w6 ⟨rfl, hb6⟩
      have hbE := hbC.trans (hb6.mono hbC.size)
      clear HP hb6 hbC
      go_wp2_with fail
      refine (HA _).out.mono ?_
      rintro e w7 ⟨rfl, hb7⟩
      have hbF := hbE.trans (hb7.mono hbE.size)
      clear HA hb7 hbE
      go_wp2_with fail
      go_ret
      exact ⟨by first | rfl | simp, hbF⟩
    · have HP := fun W => hid (HP W)
      go_enter Try.func4, Try.ntmps4
      go_wp2_with fail
      refine HF.out.mono ?_
      rintro e w1 ⟨rfl, hb1⟩
      go_wp2_with fail
      refine (H1 _).out.mono ?_
      rintro e w2 ⟨rfl, hb2⟩
      have hbA := hb1.trans (hb2.mono hb1.size)
      clear HF H1 hb1 hb2
      go_wp2_with fail
      refine (H2 _).out.mono ?_
      rintro e w3 ⟨rfl, hb3⟩
      have hbB := hbA.trans (hb3.mono hbA.size)
      clear H2 hb3 hbA
      go_wp2_with fail
      refine (HU _).out.mono ?_
      rintro e w4 ⟨rfl, hb4⟩
      have hbC := hbB.trans (hb4.mono hbB.size)
      clear HU hb4 hbB
      go_wp2_with fail
      refine (HP _).out.mono ?_
      rintro e w6 ⟨rfl, hb6⟩
      have hbE := hbC.trans (hb6.mono hbC.size)
      clear HP hb6 hbC
      go_wp2_with fail
      go_ret
      exact ⟨by first | rfl | simp, hbE⟩
theorem dkpl_any (x y : Int) (s : ByteArray) (w : World) (hs : s.size ≤ maxLen) :
    Calls Try.prog 4 #[.int .i64 x, .int .i64 y, .string s] w fun e w' => e = .returned (.bool true) ∧ Below w.heap.size w w' := by
  by_cases h : 0 ≤ x ∧ x ≤ 8 ∧ 0 ≤ y ∧ y < (bal 0 (2 * x.toNat) : Nat)
  · obtain ⟨n, rfl⟩ : ∃ n : Nat, x = (n : Int) := ⟨x.toNat, by omega⟩
    obtain ⟨k, rfl⟩ : ∃ k : Nat, y = (k : Int) := ⟨y.toNat, by omega⟩
    rw [Int.toNat_natCast] at h
    obtain ⟨t, ht⟩ := ev_some (show k < bal 0 (2 * n) by omega)
    exact dkpl_ok n k t s w hs (by omega) ht
  · exact dkpl_bad x y s w hs h
end Go.Proofs.Ytlbefiaieehcfaa
