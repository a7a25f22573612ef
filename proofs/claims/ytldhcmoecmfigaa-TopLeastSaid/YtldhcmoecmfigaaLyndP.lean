/-
  Contracts of package lyndon: lead and Parts answer the factors of the document, and leave the old memory alone. Conditions: none but the sizes that a row itself sets.
-/
import Derived.Test.YtldhcmoecmfigaaBase
import Derived.Test.YtldhcmoecmfigaaOn
import Derived.Test.YtldhcmoecmfigaaLyn
namespace Go.Proofs.Ytldhcmoecmfigaa
open Go.RowKit

set_option maxHeartbeats 1600000 in
set_option maxRecDepth 100000 in
theorem lead_any (t : ByteArray) (w : World) (h0 : 0 < t.size) (h : t.size ≤ 24) :
    Calls Try.prog 27 #[.string t] w fun e w' => ∃ k n : Nat, e = .returned (.tuple #[.int .i64 k, .int .i64 (n / k : Nat)]) ∧ Dv (sg t) k n ∧ Halt (sg t) t.size k n ∧ ∃ q, w' = w.drewN q := by
  go_enter Try.func27, Try.ntmps27
  go_wp2
  go_loopw [2, 4] (fun u v wr => ∃ k n q : Nat, u = .int .i64 k ∧ v = .int .i64 n ∧ 0 < k ∧ k ≤ n ∧ n ≤ t.size ∧ Hid (Dv (sg t) k n) ∧ wr = w.drewN q) (fun _ v _ => t.size - (intOf v).toNat)
  case atStart => exact ⟨1, 1, 0, rfl, rfl, by omega, by omega, by omega, hid (dv_start _), rfl⟩
  case round =>
    obtain ⟨k, n, q, rfl, rfl, hk0, hkn, hnt, HD, rfl⟩ := hrel
    have g4 : ¬ ((k : Int) = 0) := by omega
    have HX : Hid (wrap64 ((n : Int) / (k : Int)) = ((n / k : Nat) : Int)) := hid (by
      have := Nat.div_le_self n k
      rw [← Int.natCast_ediv]
      generalize n / k = m at this ⊢
      rw [← IntWalk.i64_left, IntWalk.i64_in _ (by omega)])
    by_cases hlt : n < t.size
    · have d1 : decide (n < t.size) = true := by simp; omega
      have g1 : ((n : Int) - (k : Int)).toNat = n - k := by omega
      have g2 : 0 ≤ (n : Int) - (k : Int) := by omega
      have g3 : (n : Int) - (k : Int) < t.size := by omega
      have g5 : n - k < t.size := by omega
      by_cases hl : sg t (n - k) < sg t n
      · have HR := hid (dv_grow HD.out hl)
        rw [sg_eq t _ g5, sg_eq t _ hlt] at hl
        have hx := UInt8.lt_iff_toNat_lt.1 hl
        have hy : t[n - k].toNat ≤ t[n].toNat := by omega
        clear hl HD HX
        go_wp2
        go_quiet (fail)
        go_wp2
        go_quiet (fail)
        go_wp2
        go_roundw
        case rel => exact ⟨n + 1, n + 1, _, by go_num, by go_num, by omega, by omega, by omega, HR, by first | rfl | rw [World.drewN_drewN]⟩
        case measure => simp [intOf]; omega
      · by_cases he : sg t (n - k) = sg t n
        · have HR := hid (dv_same HD.out he)
          rw [sg_eq t _ g5, sg_eq t _ hlt] at he
          have hx : ¬ t[n - k].toNat < t[n].toNat := by rw [he]; omega
          have hy : t[n - k].toNat ≤ t[n].toNat := by rw [he]; omega
          clear he hl HD HX
          go_wp2
          go_quiet (fail)
          go_wp2
          go_quiet (fail)
          go_wp2
          go_roundw
          case rel => exact ⟨k, n + 1, _, rfl, by go_num, by omega, by omega, by omega, HR, by first | rfl | rw [World.drewN_drewN]⟩
          case measure => simp [intOf]; omega
        · have hg : sg t n < sg t (n - k) := by
            rcases UInt8.lt_or_lt_of_ne he with h' | h'
            · exact absurd h' hl
            · exact h'
          have HH : Hid (Halt (sg t) t.size k n) := hid ⟨hnt, .inr hg⟩
          rw [sg_eq t _ g5, sg_eq t _ hlt] at hg
          have hx := UInt8.lt_iff_toNat_lt.1 hg
          have hy : ¬ t[n - k].toNat ≤ t[n].toNat := by omega
          clear he hl hg
          go_wp2
          go_quiet (fail)
          go_wp2
          go_quiet (fail)
          go_wp2
          go_ret2
          exact ⟨k, n, by rw [HX.out]; rfl, HD.out, HH.out, by first | exact ⟨_, rfl⟩ | (simp only [World.drewN_drewN]; exact ⟨_, rfl⟩)⟩
    · have d1 : decide (n < t.size) = false := by simp; omega
      have HH : Hid (Halt (sg t) t.size k n) := hid ⟨hnt, .inl (by omega)⟩
      go_wp2
      go_quiet (fail)
      go_wp2
      go_quiet (fail)
      go_wp2
      go_ret2
      exact ⟨k, n, by rw [HX.out]; rfl, HD.out, HH.out, by first | exact ⟨_, rfl⟩ | (simp only [World.drewN_drewN]; exact ⟨_, rfl⟩)⟩

theorem parts_long (s : ByteArray) (w : World) (h : 24 < s.size) (hs : s.size ≤ maxLen) :
    Calls Try.prog 15 #[.string s] w fun e w' => e = .returned (.tuple #[.slice none 0 0, .iface 41 (.int .i64 4)]) ∧ w' = w := by
  unfold maxLen at hs
  go_enter Try.func15, Try.ntmps15
  go_wp2
  go_ret2
  exact ⟨rfl, rfl⟩
theorem sg_tail (s : ByteArray) (b x : Nat) : b + x < s.size → sg (s.extract b s.size) x = sg s (b + x) := fun h => by
  rw [sg_cut _ _ _ _ (by omega) (by omega)]
set_option maxHeartbeats 1600000 in
set_option maxRecDepth 100000 in
theorem parts_any (s : ByteArray) (w : World) (h : s.size ≤ 24) :
    Calls Try.prog 15 #[.string s] w fun e w' => ∃ v xs, e = .returned (.tuple #[v, .nilIface]) ∧ Rest (sg s) s.size 0 xs ∧ OwnI w' w.heap.size 3 v xs ∧ Below w.heap.size w w' := by
  obtain ⟨i0, hi, hz0, hz1, hz2⟩ := info_parts int_info
  go_enter Try.func15, Try.ntmps15
  go_wp2
  go_loopw [4, 5] (fun v u wr => ∃ (b : Nat) (xs : List Int), u = .int .i64 b ∧ b ≤ s.size ∧ xs.length ≤ b ∧ Hid (∀ l, Rest (sg s) s.size b l → Rest (sg s) s.size 0 (xs ++ l)) ∧ OwnI wr w.heap.size 3 v xs ∧ Below w.heap.size w wr) (fun _ u _ => s.size - (intOf u).toNat)
  case atStart => exact ⟨0, [], rfl, by omega, by simp, hid (fun l hl => hl), OwnI.nil _ _ _, Below.refl _ _⟩
  case round =>
    obtain ⟨b, xs, rfl, hb, hxb, HR, HO, hbw⟩ := hrel
    by_cases hlt : b < s.size
    · have hcut : ∀ W : World, Sem.run Try.prog (Instr.slice 9 (.string s) (some (.int .i64 (b : Int))) none none) W = .ok (.string (s.extract b s.size)) W := fun W =>
        run_slice_string_l W 9 s Try.underlying9 .i64 (b : Int) (by omega) (by omega)
      have hz : (s.extract b s.size).size = s.size - b := by rw [ByteArray.size_extract]; omega
      have HT := fun x => hid (sg_tail s b x)
      have HL := fun W => hid (lead_any (s.extract b s.size) W (by omega) (by omega))
      generalize s.extract b s.size = t at hcut hz HT HL
      go_wp2_with fail
      refine (HL _).out.mono ?_
      rintro e w1 ⟨k, n, rfl, hdv, hha, q, hw1⟩
      have hk0 := hdv.2.1.1
      have hkn := hdv.1
      have hns := hha.1
      have hmn := Nat.mul_div_le n k
      have hm1 := Nat.div_pos hkn hk0
      have hm2 := Nat.div_le_self n k
      have HC : Hid (∀ j, j < n / k → Lgw (fun x => sg s (b + k * j + x)) (s.size - (b + k * j)) k) := hid (by
        intro j hj
        have hmj : k * j + k ≤ k * (n / k) := by rw [← Nat.mul_succ]; exact Nat.mul_le_mul_left k hj
        have := dv_cut hdv hha (j := j) (by omega)
        rw [hz] at this
        rw [show s.size - (b + k * j) = s.size - b - k * j by omega]
        refine ⟨by omega, lyn_congr (fun x hx => ?_) this.2.1, fun m h1 h2 h3 => this.2.2 m h1 h2 (lyn_congr (fun x hx => ?_) h3)⟩
        · rw [(HT _).out (by omega), ← Nat.add_assoc]
        · rw [(HT _).out (by omega), ← Nat.add_assoc])
      have HO1 := HO.drewN q
      have hb1 := below_drewN hbw q
      rw [← hw1] at HO1 hb1
      have hP : k * (n / k) ≤ n := hmn
      clear hdv hha hmn hw1 HL hcut HT HO hbw wr
      generalize n / k = m at HC hm1 hm2 hP
      have hP1 : 0 < k * m := Nat.mul_pos hk0 hm1
      have hP2 : 0 ≤ (k : Int) * (m : Int) := Int.mul_nonneg (by omega) (by omega)
      have hP3 : (k : Int) * (m : Int) ≤ 24 := by rw [← Int.natCast_mul]; omega
      go_wp2
      go_loopw [4, 24] (fun v u wr => ∃ (j : Nat) (ys : List Int), u = .int .i64 j ∧ j ≤ m ∧ ys.length ≤ b + k * j ∧ Hid (∀ l, Rest (sg s) s.size (b + k * j) l → Rest (sg s) s.size 0 (ys ++ l)) ∧ OwnI wr w.heap.size 3 v ys ∧ Below w.heap.size w wr) (fun _ u _ => m - (intOf u).toNat)
      case atStart => exact ⟨0, xs, rfl, by omega, by omega, hid (fun l hl => HR.out l hl), HO1, hb1⟩
      case round =>
        clear HR HO1 hb1 hxb
        obtain ⟨j, ys, rfl, hj, hyb, HR, HO, hbw⟩ := hrel
        have hsz := hbw.size
        by_cases hjm : j < m
        · have hlg := HC.out j hjm
          have hl1 := hlg.1
          have HS : Hid (∀ l, Rest (sg s) s.size (b + k * (j + 1)) l → Rest (sg s) s.size 0 ((ys ++ [(k : Int)]) ++ l)) := hid (by
            intro l hl
            have := HR.out _ (.step (by omega) hlg (by rw [Nat.add_assoc, ← Nat.mul_succ]; exact hl))
            rw [List.append_assoc]; exact this)
          have HY : Hid ((ys ++ [(k : Int)]).length ≤ b + k * (j + 1)) := hid (by rw [List.length_append, Nat.mul_succ]; simp; omega)
          have hy2 : ys.length ≤ 1099511627776 := by omega
          clear hlg HR hyb hl1
          go_wp2_with (at_builtin; refine wpList_append_int _ rfl (.tmp 26) (.tmp 28) 35 rfl w.heap.size 3 i0 Try.underlying35 hi hz0 hz1 hz2 _ ys rfl HO (k : Int) rfl hy2 hsz ?_)
          intro v' w3 hown3 hb3
          go_wp2
          go_roundw
          case rel => exact ⟨j + 1, ys ++ [(k : Int)], by go_num, by omega, HY.out, HS, hown3, hbw.trans hb3⟩
          case measure => simp [intOf]; omega
        · obtain rfl : j = m := by omega
          go_wp2
          go_roundw
          case rel => exact ⟨b + k * j, ys, by push_cast; rfl, by omega, hyb, HR, HO, hbw⟩
          case measure => simp [intOf]; omega
    · obtain rfl : b = s.size := by omega
      have HX := hid (HR.out [] .done)
      rw [List.append_nil] at HX
      clear HR
      go_wp2
      go_ret2
      exact ⟨_, xs, rfl, HX.out, HO, hbw⟩
end Go.Proofs.Ytldhcmoecmfigaa
