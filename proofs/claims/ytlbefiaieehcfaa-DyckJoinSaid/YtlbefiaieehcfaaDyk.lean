/-
  Contracts of dyck.Many, dyck.Place and dyck.At: how many texts of brackets there are, the place of one, the one at a place; the old memory stays as it was. Conditions: none but the sizes that a row itself sets.
-/
import Derived.Test.YtlbefiaieehcfaaDykC
import Derived.Test.YtlbefiaieehcfaaDykE
import Derived.Test.YtlbefiaieehcfaaConvR
import Derived.Test.YtlbefiaieehcfaaByteI
namespace Go.Proofs.Ytlbefiaieehcfaa
open Go.RowKit

/-- How many there are. -/
theorem dmany_same (n : Nat) (w : World) (hn : n ≤ 8) :
    Calls Try.prog 8 #[.int .i64 (n : Int)] w fun e w' => e = .returned (.tuple #[.int .i64 (bal 0 (2 * n) : Nat), .nilIface]) ∧ w' = w := by
  have HE := hid (ends_at (n : Int) n w (by omega) (by omega) hn)
  rw [enN_all] at HE
  generalize bal 0 (2 * n) = b at HE ⊢
  go_enter Try.func8, Try.ntmps8
  go_wp2_with fail
  refine HE.out.mono ?_
  rintro e w1 ⟨rfl, hw1⟩
  subst w1
  clear HE
  go_wp2_with fail
  go_ret2
  exact ⟨rfl, rfl⟩
theorem dmany_no (x : Int) (w : World) (hx : ¬ (0 ≤ x ∧ x ≤ 8)) :
    Calls Try.prog 8 #[.int .i64 x] w fun e w' => e = .returned (.tuple #[.int .i64 0, .iface 40 (.int .i64 1)]) ∧ w' = w := by
  by_cases h : x < 0
  · clear hx
    go_enter Try.func8, Try.ntmps8
    go_wp2_with fail
    go_ret2
    exact ⟨rfl, rfl⟩
  · have h2 : (8 : Int) < x := by omega
    clear hx
    go_enter Try.func8, Try.ntmps8
    go_wp2_with fail
    go_ret2
    exact ⟨rfl, rfl⟩
theorem dmany_any (n : Nat) (w : World) (hn : n ≤ 8) :
    Calls Try.prog 8 #[.int .i64 (n : Int)] w fun e w' => e = .returned (.tuple #[.int .i64 (bal 0 (2 * n) : Nat), .nilIface]) ∧ Below w.heap.size w w' :=
  (dmany_same n w hn).mono fun e w' ⟨h1, h2⟩ => ⟨h1, by subst h2; exact Below.refl _ _⟩
theorem dmany_bad (x : Int) (w : World) (hx : ¬ (0 ≤ x ∧ x ≤ 8)) :
    Calls Try.prog 8 #[.int .i64 x] w fun e w' => e = .returned (.tuple #[.int .i64 0, .iface 40 (.int .i64 1)]) ∧ Below w.heap.size w w' :=
  (dmany_no x w hx).mono fun e w' ⟨h1, h2⟩ => ⟨h1, by subst h2; exact Below.refl _ _⟩

set_option maxHeartbeats 2000000 in
theorem dplace_ok (s : ByteArray) (w : World) (h : brS s = 0) :
    Calls Try.prog 11 #[.string s] w fun e w' => e = .returned (.tuple #[.int .i64 (rk 0 (bs s) : Nat), .nilIface]) ∧ Below w.heap.size w w' := by
  have HC := hid (dcheck_ok s w h)
  have h16 := (brS_zero.1 h).1
  have HS := hid (plTo_start h)
  have HB := hid h
  have e1 : (s.size : Int) / 2 = ((s.size / 2 : Nat) : Int) := by omega
  have e2 : s.size / 2 ≤ 8 := by omega
  generalize s.size / 2 = m at HS e1 e2
  clear h
  go_enter Try.func11, Try.ntmps11
  go_wp2_with fail
  refine HC.out.mono ?_
  rintro e w1 ⟨rfl, hb1⟩
  clear HC
  go_wp2_with fail
  go_loopw [5, 6, 7, 22] (fun u v p x wr => ∃ i a c k : Nat, i ≤ s.size ∧ u = .int .i64 a ∧ v = .int .i64 c ∧ p = .int .i64 k ∧ x = .int .i64 i ∧ a ≤ 8 ∧ c ≤ 8 ∧ Hid (PlTo s i a c k) ∧ wr = w1) (fun _ _ _ x _ => s.size - (intOf x).toNat)
  case atStart => exact ⟨0, m, m, 0, by omega, rfl, rfl, rfl, rfl, e2, e2, HS, rfl⟩
  case round =>
    clear e1 e2 HS
    obtain ⟨i, a, c, k, hin, rfl, rfl, rfl, rfl, ha, hc, HT, hwr⟩ := hrel
    subst hwr
    by_cases hlt : i < s.size
    · have hk := plTo_le HB.out HT.out
      rcases sign_ways hlt with ⟨c1, hs⟩ | ⟨c1, hs, _⟩
      · obtain ⟨b, rfl, hT2⟩ := plTo_op HT.out hlt hs
        have HT2 := hid hT2
        have e1 : ((b + 1 : Nat) : Int) - 1 = (b : Int) := by omega
        clear hT2 HT hs
        go_wp2_with fail
        go_roundw
        case rel => exact ⟨i + 1, b, c, k, by omega, by go_num, by go_num, by go_num, by go_num, by omega, hc, HT2, by first | rfl | trivial⟩
        case measure => simp [intOf]; omega
      · obtain ⟨d, hd, had, hT2⟩ := plTo_cl HT.out hlt hs
        have HT2 := hid hT2
        have hle := plTo_le HB.out hT2
        have HE := hid (ends_at ((a : Int) - 1) c wr (by omega) (by omega) hc)
        have e1 : (c : Int) - 1 = (d : Int) := by omega
        have hd8 : d ≤ 8 := by omega
        generalize enN ((a : Int) - 1) c = z at HT2 HE hle
        clear hT2 HT hs hd
        go_wp2_with fail
        refine HE.out.mono ?_
        rintro e w2 ⟨rfl, hw2⟩
        subst w2
        clear HE
        go_wp2_with fail
        go_roundw
        case rel => exact ⟨i + 1, a, d, k + z, by omega, by go_num, by go_num, by go_num, by go_num, ha, hd8, HT2, by first | rfl | trivial⟩
        case measure => simp [intOf]; omega
    · have HE := hid (plTo_end HT.out (by omega))
      clear HT HB
      go_wp2_with fail
      go_ret2
      exact ⟨by rw [HE.out]; rfl, hb1⟩
theorem dplace_bad (s : ByteArray) (w : World) (hs : s.size ≤ maxLen) (h : brS s ≠ 0) :
    Calls Try.prog 11 #[.string s] w fun e w' => e = .returned (.tuple #[.int .i64 0, .iface 40 (.int .i64 (brS s))]) ∧ Below w.heap.size w w' := by
  have HC := hid (dcheck_bad s w hs h)
  generalize brS s = k at HC ⊢
  clear h
  go_enter Try.func11, Try.ntmps11
  go_wp2_with fail
  refine HC.out.mono ?_
  rintro e w1 ⟨rfl, hb1⟩
  clear HC
  go_wp2_with fail
  go_ret2
  exact ⟨rfl, hb1⟩

set_option maxRecDepth 100000 in
set_option maxHeartbeats 2000000 in
theorem dat_ok (n k : Nat) (t : List UInt8) (w : World) (hn : n ≤ 8) (ht : (ev 0 (2 * n))[k]? = some t) :
    Calls Try.prog 10 #[.int .i64 (n : Int), .int .i64 (k : Int)] w fun e w' => e = .returned (.tuple #[.string (txt t), .nilIface]) ∧ Below w.heap.size w w' := by
  obtain ⟨i0, hi, hz0, hz1, hz2⟩ := info_parts byteI
  have HM := hid (dmany_same n w hn)
  obtain ⟨hl, _, _, _, hk⟩ := ev_at hn ht
  have hbal := bal_le hn
  have HA := hid (atTo_start hn ht)
  clear ht
  generalize bal 0 (2 * n) = b at HM hk hbal
  have e1 : (2 : Int) * (n : Int) = ((2 * n : Nat) : Int) := by omega
  obtain ⟨N, hN⟩ : ∃ N, N = 2 * n := ⟨_, rfl⟩
  rw [← hN] at e1 hl
  have hN16 : N ≤ 16 := by omega
  have e2 : decide ((k : Int) < 0) = false := decide_eq_false (by omega)
  have HL := hid hl
  clear hl hN
  go_enter Try.func10, Try.ntmps10
  go_wp2_with fail
  refine HM.out.mono ?_
  rintro e w1 ⟨rfl, hw1⟩
  subst w1
  clear HM
  go_wp2_with (at_make; refine wpList_make_full _ rfl _ _ 42 rfl w.heap.size 5 i0 (.int .u8 0) 1 Try.underlying42 hi hz0 hz1 _ _ _ _ N rfl rfl rfl rfl (by rw [hz2]; omega) (by unfold maxLen; omega) (by simp) ?_)
  intro w2 hown hgrow
  have HR := hid (RowAt.made hown)
  have hb2 : Below w.heap.size w w2 := (Below.refl _ _).grown hgrow (by simp) (by simp)
  clear hown hgrow hi hz0 hz1 hz2 hk hbal
  obtain ⟨g, hg⟩ : ∃ g, w.heap.size = g := ⟨_, rfl⟩
  rw [hg] at HR hb2 ⊢
  have HG := hid hg
  clear hg
  go_wp2_with fail
  go_loopw [1, 8, 9, 36] (fun p u v x wr => ∃ i a c q : Nat, i ≤ N ∧ u = .int .i64 a ∧ v = .int .i64 c ∧ p = .int .i64 q ∧ x = .int .i64 i ∧ a ≤ 8 ∧ c ≤ 8 ∧ Hid (AtTo t i a c q) ∧ Hid (RowAt wr g 5 (partL 0 t N i)) ∧ Below g w wr) (fun _ _ _ x _ => N - (intOf x).toNat)
  case atStart => exact ⟨0, n, n, k, by omega, rfl, rfl, rfl, rfl, hn, hn, HA, hid (by rw [partL_zero]; exact HR.out), hb2⟩
  case round =>
    clear HA HR hb2
    obtain ⟨i, a, c, q, hin, rfl, rfl, rfl, rfl, ha, hc, HT, HR, hb⟩ := hrel
    by_cases hlt : i < N
    · have hq := atTo_le HT.out hc
      have cK := HR.out.cell (k := i) (by rw [partL_len]; exact hlt)
      have fK := BlkAt.frozen HR.out i
      have hst := HR.out.stored i (t.getD i 0)
      rw [partL_set] at hst
      generalize (partL 0 t N i).getD i 0 = C0 at cK
      have HE := hid (ends_at ((a : Int) - 1) c wr (by omega) (by omega) hc)
      by_cases hz : q < enN ((a : Int) - 1) c
      · obtain ⟨b1, hb1, _, hd, hT2⟩ := atTo_op HT.out hz
        have HT2 := hid hT2
        rw [hd] at hst
        have HST := hid hst
        have e3 : (a : Int) - 1 = (b1 : Int) := by omega
        have hb8 : b1 ≤ 8 := by omega
        have hgt : (q : Int) < (enN ((a : Int) - 1) c : Nat) := by omega
        rw [e3] at HE hgt hz
        have hzl := enN_le (a := (b1 : Int)) hc
        generalize enN (b1 : Int) c = z at HE hz hgt hzl
        clear hT2 HT hd hst hb1 HR
        go_wp2_with fail
        refine HE.out.mono ?_
        rintro e w3 ⟨rfl, hw3⟩
        subst w3
        clear HE
        go_wp2_with fail
        go_roundw
        case rel => exact ⟨i + 1, b1, c, q, by omega, by go_num, by go_num, by go_num, by go_num, hb8, hc, HT2, hid HST.out.1, hb.trans (HST.out.2.below (Nat.le_refl _))⟩
        case measure => simp [intOf]; omega
      · obtain ⟨d, hd0, had, hd, hT2⟩ := atTo_cl HT.out (by rw [HL.out]; exact hlt) (by omega)
        have HT2 := hid hT2
        rw [hd] at hst
        have HST := hid hst
        have e3 : (c : Int) - 1 = (d : Int) := by omega
        have hd8 : d ≤ 8 := by omega
        have hzl := enN_le (a := (a : Int) - 1) hc
        have hgt : ¬ (q : Int) < (enN ((a : Int) - 1) c : Nat) := by omega
        have e4 : (q : Int) - (enN ((a : Int) - 1) c : Nat) = ((q - enN ((a : Int) - 1) c : Nat) : Int) := by omega
        have hql : q - enN ((a : Int) - 1) c ≤ 65536 := by omega
        generalize q - enN ((a : Int) - 1) c = r at HT2 e4 hql
        generalize enN ((a : Int) - 1) c = z at HE hz hgt hzl e4
        clear hT2 HT hd hst hd0 HR hz
        go_wp2_with fail
        refine HE.out.mono ?_
        rintro e w3 ⟨rfl, hw3⟩
        subst w3
        clear HE
        go_wp2_with fail
        go_roundw
        case rel => exact ⟨i + 1, a, d, r, by omega, by go_num, by go_num, by go_num, by go_num, ha, hd8, HT2, hid HST.out.1, hb.trans (HST.out.2.below (Nat.le_refl _))⟩
        case measure => simp [intOf]; omega
    · obtain rfl : i = N := by omega
      have hm := HR.out
      rw [partL_all 0 t i HL.out] at hm
      have hcv := fun c => conv_row (c := c) hm HL.out
      obtain ⟨X, hX⟩ : ∃ X, X = txt t := ⟨_, rfl⟩
      rw [← hX] at hcv
      have HX := hid hX
      clear hX hm HR HT HL
      go_wp2_with fail
      go_ret2
      exact ⟨by rw [← HX.out]; rfl, by rw [HG.out]; exact hb⟩
theorem dat_bad (x y : Int) (w : World) (h : ¬ (0 ≤ x ∧ x ≤ 8 ∧ 0 ≤ y ∧ y < (bal 0 (2 * x.toNat) : Nat))) :
    Calls Try.prog 10 #[.int .i64 x, .int .i64 y] w fun e w' => e = .returned (.tuple #[.string ByteArray.empty, .iface 40 (.int .i64 1)]) ∧ Below w.heap.size w w' := by
  by_cases hx : 0 ≤ x ∧ x ≤ 8
  · obtain ⟨n, rfl⟩ : ∃ n : Nat, x = n := ⟨x.toNat, by omega⟩
    have hn : n ≤ 8 := by omega
    rw [Int.toNat_natCast] at h
    have HM := hid (dmany_same n w hn)
    have hbal := bal_le hn
    generalize bal 0 (2 * n) = b at HM hbal h
    by_cases hy : y < 0
    · clear h hx
      go_enter Try.func10, Try.ntmps10
      go_wp2_with fail
      refine HM.out.mono ?_
      rintro e w1 ⟨rfl, hw1⟩
      subst w1
      clear HM
      go_wp2_with fail
      go_ret2
      exact ⟨rfl, Below.refl _ _⟩
    · have hy2 : (b : Int) ≤ y := by omega
      clear h hx
      go_enter Try.func10, Try.ntmps10
      go_wp2_with fail
      refine HM.out.mono ?_
      rintro e w1 ⟨rfl, hw1⟩
      subst w1
      clear HM
      go_wp2_with fail
      go_ret2
      exact ⟨rfl, Below.refl _ _⟩
  · have HM := hid (dmany_no x w hx)
    clear h hx
    go_enter Try.func10, Try.ntmps10
    go_wp2_with fail
    refine HM.out.mono ?_
    rintro e w1 ⟨rfl, hw1⟩
    subst w1
    clear HM
    go_wp2_with fail
    go_ret2
    exact ⟨rfl, Below.refl _ _⟩
end Go.Proofs.Ytlbefiaieehcfaa
