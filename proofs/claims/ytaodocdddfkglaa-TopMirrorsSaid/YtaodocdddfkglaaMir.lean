/-
  Contracts of package mirror: extend, knownAt and measure: the longest palindrome around every middle, in an array by value; the old memory is left alone. Conditions: none but the sizes that a row itself sets.
-/
import Derived.Test.YtaodocdddfkglaaBase
import Derived.Test.YtaodocdddfkglaaPal
import Derived.Test.YtaodocdddfkglaaArr
namespace Go.Proofs.Ytaodocdddfkglaa
open Go.RowKit

set_option maxHeartbeats 400000 in
theorem extend_any (s : ByteArray) (c m : Nat) (w : World) (hn : s.size ≤ 24) (hk : Kp (sg s) s.size c m) :
    Calls Try.prog 27 #[.string s, .int .i64 c, .int .i64 m] w fun e w' => e = .returned (.int .i64 (wid (sg s) s.size c : Nat)) ∧ ∃ q, w' = w.drewN q := by
  obtain ⟨b, e, h1, h2, h3, h4, h5⟩ := hk
  have HP := hid h5
  have g1 : ((c : Int) - (m : Int)) / 2 = (b : Int) := by omega
  have g2 : ((c : Int) + (m : Int)) / 2 = (e : Int) := by omega
  have hc : c ≤ 48 := by omega
  have hm : m ≤ c := by omega
  have HC := hid h1
  clear h1 h4 h5
  go_enter Try.func27, Try.ntmps27
  go_wp2
  go_loopw [7, 8] (fun v u wr => ∃ b e q : Nat, v = .int .i64 b ∧ u = .int .i64 e ∧ b ≤ e ∧ e ≤ s.size ∧ Hid (b + e = c) ∧ Hid (Pal (sg s) b e) ∧ wr = w.drewN q) (fun v _ _ => (intOf v).toNat)
  case atStart => exact ⟨b, e, 0, by first | rfl | (rw [g1]; rfl) | go_num, by first | rfl | (rw [g2]; rfl) | go_num, h2, h3, HC, HP, rfl⟩
  case round =>
    clear HP HC g1 g2 h2 h3
    obtain ⟨b, e, q, rfl, rfl, h2, h3, HC, HP, rfl⟩ := hrel
    by_cases h0 : 0 < b
    · by_cases hlt : e < s.size
      · have hb1 : b - 1 < s.size := by omega
        have k4 : (1 : Int) ≤ (b : Int) := by omega
        have k1 : ((b : Int) - 1).toNat = b - 1 := by omega
        have k2 : (0 : Int) ≤ (b : Int) - 1 := by omega
        have k3 : (b : Int) - 1 < (s.size : Int) := by omega
        by_cases he : sg s (b - 1) = sg s e
        · have hq1 := byte_eq s (b - 1) e hb1 hlt he
          have HR : Hid (Pal (sg s) (b - 1) (e + 1)) := hid (pal_out (by rw [show b - 1 + 1 = b by omega]; exact HP.out) he)
          have HC2 : Hid (b - 1 + (e + 1) = c) := hid (by have := HC.out; omega)
          clear he HP HC
          go_wp2
          go_quiet (fail)
          go_wp2
          go_roundw
          case rel => exact ⟨b - 1, e + 1, _, by go_num, by go_num, by omega, by omega, HC2, HR, by first | rfl | rw [World.drewN_drewN]⟩
          case measure => simp [intOf]; omega
        · have hq1 := byte_eq_false s (b - 1) e hb1 hlt he
          have HR : Hid (wid (sg s) s.size c = e - b) := hid (by rw [← HC.out]; exact wid_stop ⟨h2, h3, HP.out, .inr (.inr he)⟩)
          clear he HP HC
          go_wp2
          go_quiet (fail)
          go_wp2
          go_ret
          exact ⟨ret_int (by rw [HR.out]; omega), by first | exact ⟨_, rfl⟩ | (simp only [World.drewN_drewN]; exact ⟨_, rfl⟩)⟩
      · have HR : Hid (wid (sg s) s.size c = e - b) := hid (by rw [← HC.out]; exact wid_stop ⟨h2, h3, HP.out, .inr (.inl (by omega))⟩)
        have hd : decide ((e : Int) < (s.size : Int)) = false := by simp; omega
        clear HP HC
        go_wp2
        go_quiet (fail)
        go_wp2
        go_ret
        exact ⟨ret_int (by rw [HR.out]; omega), by first | exact ⟨_, rfl⟩ | (simp only [World.drewN_drewN]; exact ⟨_, rfl⟩)⟩
    · have HR : Hid (wid (sg s) s.size c = e - b) := hid (by rw [← HC.out]; exact wid_stop ⟨h2, h3, HP.out, .inl (by omega)⟩)
      have hd : decide (0 < b) = false := by simp; omega
      clear HP HC
      go_wp2
      go_quiet (fail)
      go_wp2
      go_ret
      exact ⟨ret_int (by rw [HR.out]; omega), by first | exact ⟨_, rfl⟩ | (simp only [World.drewN_drewN]; exact ⟨_, rfl⟩)⟩

theorem known_out (g c m : Nat) (z : Int) (w : World) (hc : w.cell? ⟨g, m, none⟩ = some (.int .i64 z)) (hm : m ≤ 48) (hz : 0 ≤ z ∧ z ≤ 48) (h : (m : Int) + z ≤ c) (hc' : c ≤ 48) :
    Calls Try.prog 28 #[.pointer (some ⟨g, 0, none⟩), .int .i64 c, .int .i64 m] w fun e w' => e = .returned (.int .i64 (c % 2 : Nat)) ∧ w' = w := by
  have hr : ((c : Int) % 2) = ((c % 2 : Nat) : Int) := by omega
  go_enter Try.func28, Try.ntmps28
  go_wp2
  go_ret
  exact ⟨ret_int (by first | rfl | exact hr | omega), rfl⟩
theorem known_in (g c m z k : Nat) (w : World) (hc : w.cell? ⟨g, m, none⟩ = some (.int .i64 z)) (hk : w.cell? ⟨g, 2 * m - c, none⟩ = some (.int .i64 k)) (hm : m < c) (hz : z ≤ 48) (hz' : z ≤ m) (hk' : k ≤ 48) (h : c < m + z) (hc' : c ≤ 48) :
    Calls Try.prog 28 #[.pointer (some ⟨g, 0, none⟩), .int .i64 c, .int .i64 m] w fun e w' => e = .returned (.int .i64 (min k (m + z - c) : Nat)) ∧ w' = w := by
  have g1 : (2 * (m : Int) - (c : Int)).toNat = 2 * m - c := by omega
  have g2 : (0 : Int) ≤ 2 * (m : Int) - (c : Int) := by omega
  have g3 : 2 * (m : Int) - (c : Int) < 49 := by omega
  by_cases hzr : k ≤ m + z - c
  · have h1 : ¬ ((m : Int) + (z : Int) - (c : Int) < (k : Int)) := by omega
    have HE : Hid (((k : Nat) : Int) = ((min k (m + z - c) : Nat) : Int)) := hid (by omega)
    clear hzr
    go_enter Try.func28, Try.ntmps28
    go_wp2
    go_ret
    exact ⟨ret_int HE.out, rfl⟩
  · have h1 : ((m : Int) + (z : Int) - (c : Int) < (k : Int)) := by omega
    have HE : Hid ((m : Int) + (z : Int) - (c : Int) = ((min k (m + z - c) : Nat) : Int)) := hid (by omega)
    clear hzr
    go_enter Try.func28, Try.ntmps28
    go_wp2
    go_ret
    exact ⟨ret_int HE.out, rfl⟩

/-- What the table holds ahead of middle k. -/
def tabF (s : ByteArray) (k j : Nat) : Int := if j < k then ((widT (sg s) s.size j : Nat) : Int) else 0
theorem tab_in {s : ByteArray} {k j : Nat} (h : j < k) (hj : j ≤ 2 * s.size) : tabF s k j = (wid (sg s) s.size j : Nat) := by
  rw [tabF, if_pos h, widT, if_pos hj]
theorem tab_start (s : ByteArray) (j : Nat) : (0 : Int) = tabF s 0 j := by simp [tabF]
theorem tab_step (s : ByteArray) (k j : Nat) (hk : k ≤ 2 * s.size) : (if j = k then ((wid (sg s) s.size k : Nat) : Int) else tabF s k j) = tabF s (k + 1) j := by
  by_cases h : j = k
  · subst h; rw [if_pos rfl, tab_in (by omega) hk]
  · unfold tabF
    by_cases h' : j < k
    · rw [if_neg h, if_pos h', if_pos (by omega)]
    · rw [if_neg h, if_neg h', if_neg (by omega)]
theorem tab_end {s : ByteArray} {k j : Nat} (hk : 2 * s.size < k) (hj : j < 49) : tabF s k j = tabF s 49 j := by
  unfold tabF
  by_cases h : j < k
  · rw [if_pos h, if_pos hj]
  · rw [if_neg h, if_pos hj, widT, if_neg (by omega)]; rfl
theorem tab_any (s : ByteArray) (j : Nat) (h : j < 49) : tabF s 49 j = (widT (sg s) s.size j : Nat) := by rw [tabF, if_pos h]
theorem wid_le (f : Nat → UInt8) {n c : Nat} (h : c ≤ 2 * n) : wid f n c ≤ n ∧ wid f n c ≤ c := by
  obtain ⟨h1, h2, _⟩ := wid_pal f h
  omega

theorem known_any (s : ByteArray) (g c m : Nat) (w : World) (hn : s.size ≤ 24) (hc : c ≤ 2 * s.size) (hm : m < c ∨ (m = 0 ∧ c = 0)) (hA : Arr w g 52 49 (tabF s c)) :
    Calls Try.prog 28 #[.pointer (some ⟨g, 0, none⟩), .int .i64 c, .int .i64 m] w fun e w' => ∃ k : Nat, e = .returned (.int .i64 k) ∧ Kp (sg s) s.size c k ∧ w' = w := by
  have hz := hA.cell m (by omega)
  rcases hm with hm | ⟨rfl, rfl⟩
  · have hwm := wid_le (sg s) (n := s.size) (c := m) (by omega)
    rw [tab_in hm (by omega)] at hz
    by_cases hlt : c < m + wid (sg s) s.size m
    · have hk := hA.cell (2 * m - c) (by omega)
      rw [tab_in (by omega) (by omega)] at hk
      have hwk := wid_le (sg s) (n := s.size) (c := 2 * m - c) (by omega)
      exact (known_in g c m _ _ w hz hk hm (by omega) (by omega) (by omega) hlt (by omega)).mono fun e w' ⟨he, hw⟩ => ⟨_, he, kp_image hm (by omega) hlt, hw⟩
    · exact (known_out g c m _ w hz (by omega) (by omega) (by omega) (by omega)).mono fun e w' ⟨he, hw⟩ => ⟨_, he, kp_alone _ hc, hw⟩
  · rw [← tab_start] at hz
    exact (known_out g 0 0 0 w hz (by omega) (by omega) (by omega) (by omega)).mono fun e w' ⟨he, hw⟩ => ⟨_, he, kp_alone _ hc, hw⟩

theorem wz (w : World) : (zeroValue 52).run Try.prog w = .ok (aggF 49 fun _ => 0) w := Try.zeroValue52 w
theorem wi : (Try.prog.info? 52).map (·.size) = some 49 := by kernel_rfl

set_option maxHeartbeats 400000 in
theorem measure_long (s : ByteArray) (w : World) (h : 24 < s.size) (hs : s.size ≤ maxLen) :
    Calls Try.prog 23 #[.string s] w fun e w' => e = .returned (.tuple #[aggF 49 fun _ => 0, .iface 47 (.int .i64 4)]) ∧ Below w.heap.size w w' := by
  unfold maxLen at hs
  go_enter Try.func23, Try.ntmps23
  go_wp2_with (refine wpList_alloc_arr rfl 52 rfl 49 wz ?_)
  intro w1 hA1 hb1 hs1
  have HS1 := hid hs1
  have HA1 := hid hA1
  clear hs1 hA1
  go_wp2_with (refine wpList_alloc_arr rfl 52 rfl 49 wz ?_)
  intro w2 hA2 hb2 hs2
  have HA1 := hid (HA1.out.below hb2 (by have := HS1.out; omega))
  have HA2 := hid hA2
  clear hs2 hA2
  go_wp2_with (first | refine wpList_load_arr rfl 52 _ rfl 49 3 w1.heap.size rfl _ HA2.out Try.underlying52 wi ?_ | refine wpList_store_arr rfl 52 _ _ rfl 49 w.heap.size _ _ rfl rfl HA1.out wi ?_)
  intro w3 hA3 hb3 _ _
  have HA3 := hid hA3
  clear hA3
  go_wp2
  refine bodyPost_ret (run_results_arr rfl _ _ 49 3 w.heap.size _ rfl HA3.out Try.underlying52 wi) rfl ?_
  exact ⟨rfl, hb1.trans ((hb2.mono (by have := HS1.out; omega)).trans hb3)⟩

set_option maxHeartbeats 800000 in
theorem measure_any (s : ByteArray) (w : World) (h : s.size ≤ 24) :
    Calls Try.prog 23 #[.string s] w fun e w' => e = .returned (.tuple #[aggF 49 (tabF s 49), .nilIface]) ∧ Below w.heap.size w w' := by
  go_enter Try.func23, Try.ntmps23
  go_wp2_with (refine wpList_alloc_arr rfl 52 rfl 49 wz ?_)
  intro w1 hA1 hb1 hs1
  have HS1 := hid hs1
  have HA1 := hid hA1
  clear hs1 hA1
  go_wp2_with (refine wpList_alloc_arr rfl 52 rfl 49 wz ?_)
  intro w2 hA2 hb2 hs2
  have hg : w.heap.size < w1.heap.size := by have := HS1.out; omega
  have HB1 := hid (HA1.out.below hb2 hg)
  have HA2 := hid (hA2.congr fun j _ => tab_start s j)
  have hb12 := hb1.trans (hb2.mono (by omega))
  clear hs2 hA2 HS1 HA1 hb1 hb2
  generalize w1.heap.size = g at hg HA2 ⊢
  go_wp2_with fail
  go_loopw [5, 16] (fun v c wr => ∃ m k : Nat, v = .int .i64 m ∧ c = .int .i64 k ∧ k ≤ 2 * s.size + 1 ∧ Hid (m < k ∨ (m = 0 ∧ k = 0)) ∧ Hid (Arr wr w.heap.size 52 49 (fun _ => 0)) ∧ Hid (Arr wr g 52 49 (tabF s k)) ∧ Below w.heap.size w wr) (fun _ c _ => 2 * s.size + 1 - (intOf c).toNat)
  case atStart => exact ⟨0, 0, rfl, rfl, by omega, hid (.inr ⟨rfl, rfl⟩), HB1, HA2, hb12⟩
  case round =>
    clear HB1 HA2 hb12
    obtain ⟨m, k, rfl, rfl, hk, HM, H0, HA, hb⟩ := hrel
    by_cases hlt : k < 2 * s.size + 1
    · have HK := hid (known_any s g k m wr h (by omega) HM.out HA.out)
      go_wp2_with fail
      refine HK.out.mono ?_
      rintro e w3 ⟨x, rfl, hkn, hw3⟩
      subst hw3
      have HE := hid (extend_any s k x w3 h hkn)
      clear HK hkn
      go_wp2_with fail
      refine HE.out.mono ?_
      rintro e w4 ⟨rfl, q, rfl⟩
      have hwk := wid_le (sg s) (n := s.size) (c := k) (by omega)
      have hold := (HA.out.drewN q).cell k (by omega)
      have hfr := (HA.out.drewN q).frozen k
      have HN := hid (((HA.out.drewN q).set k (wid (sg s) s.size k : Nat)).congr fun j _ => tab_step s k j (by omega))
      have H0n : Hid (Arr ((w3.drewN q).setCell ⟨g, k, none⟩ (.int .i64 (wid (sg s) s.size k : Nat))) w.heap.size 52 49 (fun _ => 0)) := hid ((H0.out.drewN q).keeps (heap_setCell_other _ _ _ _ (by simp; omega)))
      have hbn : Below w.heap.size w ((w3.drewN q).setCell ⟨g, k, none⟩ (.int .i64 (wid (sg s) s.size k : Nat))) := (below_drewN hb q).setCell (by simp; omega) _
      have hck := HN.out.cell k (by omega)
      rw [tab_in (by omega) (by omega)] at hck
      have hmk : m ≤ k := by rcases HM.out with h' | h' <;> omega
      have hcm := HN.out.cell m (by omega)
      rw [tab_in (by omega) (by omega)] at hcm
      have hwm := wid_le (sg s) (n := s.size) (c := m) (by omega)
      generalize wid (sg s) s.size k = z at hwk HN H0n hbn hck hcm ⊢
      generalize wid (sg s) s.size m = y at hwm hcm
      have k1 : (k : Int) < 49 := by omega
      have k2 : (m : Int) < 49 := by omega
      clear HE HA H0 hb HM
      have HC := hid (And.intro hck hcm)
      clear hck hcm
      go_wp2
      obtain ⟨hck, hcm⟩ := HC.out
      clear HC
      generalize (w3.drewN q).setCell ⟨g, k, none⟩ (.int .i64 (z : Nat)) = w5 at HN H0n hbn hck hcm ⊢
      clear hold hfr
      by_cases hgt : m + y < k + z
      · go_quiet (fail)
        go_wp2
        go_roundw
        case rel => exact ⟨k, k + 1, rfl, by go_num, by omega, hid (.inl (by omega)), hid (H0n.out.drewN _), hid (HN.out.drewN _), below_drewN hbn _⟩
        case measure => simp [intOf]; omega
      · go_quiet (fail)
        go_wp2
        go_roundw
        case rel => exact ⟨m, k + 1, rfl, by go_num, by omega, hid (.inl (by omega)), hid (H0n.out.drewN _), hid (HN.out.drewN _), below_drewN hbn _⟩
        case measure => simp [intOf]; omega
    · have HF := hid (HA.out.congr fun j hj => tab_end (by omega) hj)
      clear HA HM
      go_wp2_with (first | refine wpList_load_arr rfl 52 _ rfl 49 3 g rfl _ HF.out Try.underlying52 wi ?_ | refine wpList_store_arr rfl 52 _ _ rfl 49 w.heap.size _ _ rfl rfl H0.out wi ?_)
      intro w3 hA3 hb3 _ _
      have HA3 := hid hA3
      clear hA3
      go_wp2
      refine bodyPost_ret (run_results_arr rfl _ _ 49 3 w.heap.size _ rfl HA3.out Try.underlying52 wi) rfl ?_
      exact ⟨rfl, hb.trans hb3⟩
end Go.Proofs.Ytaodocdddfkglaa
