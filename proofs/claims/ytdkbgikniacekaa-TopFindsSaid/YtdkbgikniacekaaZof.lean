/-
  Contract of zeta.Of: how far each end of a text goes with its beginning, in new memory. Conditions: none but the sizes that a row itself sets.
-/
import Derived.Test.YtdkbgikniacekaaBase
import Derived.Test.YtdkbgikniacekaaZed
namespace Go.Proofs.Ytdkbgikniacekaa
open Go.RowKit

set_option maxHeartbeats 400000 in
theorem zextend_any (s : ByteArray) (i m : Nat) (w : World) (hn : s.size ≤ 24) (hk : Kn (sg s) s.size i m) (hi : 0 < i) :
    Calls Try.prog 40 #[.string s, .int .i64 i, .int .i64 m] w fun e w' => e = .returned (.int .i64 (zl (sg s) s.size i : Nat)) ∧ ∃ q, w' = w.drewN q := by
  have HK := hid hk
  clear hk
  go_enter Try.func40, Try.ntmps40
  go_wp2
  go_loopw [2] (fun v wr => ∃ l q : Nat, v = .int .i64 l ∧ Hid (Kn (sg s) s.size i l) ∧ wr = w.drewN q) (fun v _ => s.size - (intOf v).toNat)
  case atStart => exact ⟨m, 0, rfl, HK, rfl⟩
  case round =>
    clear HK
    obtain ⟨l, q, rfl, HK, rfl⟩ := hrel
    have hle := HK.out.1
    by_cases hlt : i + l < s.size
    · have hl1 : l < s.size := by omega
      have h1 : decide ((i : Int) + (l : Int) < (s.size : Int)) = true := by simp; omega
      have g1 : ((i : Int) + (l : Int)).toNat = i + l := by omega
      have g2 : (i : Int) + (l : Int) < (s.size : Int) := by omega
      have g3 : (0 : Int) ≤ (i : Int) + (l : Int) := by omega
      by_cases he : sg s l = sg s (i + l)
      · have hq1 := byte_eq s l (i + l) hl1 hlt he
        have HR := hid (kn_step HK.out hlt he)
        clear he HK
        go_wp2
        go_quiet (fail)
        go_wp2
        go_roundw
        case rel => exact ⟨l + 1, _, by go_num, HR, by first | rfl | rw [World.drewN_drewN]⟩
        case measure => simp [intOf]; omega
      · have hq1 := byte_eq_false s l (i + l) hl1 hlt he
        have HR := hid (kn_stop HK.out he)
        clear he HK
        go_wp2
        go_quiet (fail)
        go_wp2
        go_ret
        exact ⟨ret_int (by rw [HR.out]), by first | exact ⟨_, rfl⟩ | (simp only [World.drewN_drewN]; exact ⟨_, rfl⟩)⟩
    · have HR := hid (kn_end HK.out hlt)
      have h1 : decide ((i : Int) + (l : Int) < (s.size : Int)) = false := by simp; omega
      clear HK
      go_wp2
      go_quiet (fail)
      go_wp2
      go_ret
      exact ⟨ret_int (by rw [HR.out]), by first | exact ⟨_, rfl⟩ | (simp only [World.drewN_drewN]; exact ⟨_, rfl⟩)⟩

theorem known_out (A : Option Addr) (n c i l r : Nat) (w : World) (h : r ≤ i) :
    Calls Try.prog 41 #[.slice A n c, .int .i64 i, .int .i64 l, .int .i64 r] w fun e w' => e = .returned (.int .i64 0) ∧ w' = w := by
  go_enter Try.func41, Try.ntmps41
  go_wp2
  go_ret
  exact ⟨rfl, rfl⟩

theorem known_in (g n c i l r z : Nat) (w : World) (hn : n ≤ 24) (hl : l < i) (h : i < r) (hr : r ≤ n) (hz : z ≤ n) (hc : w.cell? ⟨g, i - l, none⟩ = some (.int .i64 z)) :
    Calls Try.prog 41 #[.slice (some ⟨g, 0, none⟩) n c, .int .i64 i, .int .i64 l, .int .i64 r] w fun e w' => e = .returned (.int .i64 (min z (r - i) : Nat)) ∧ w' = w := by
  have g1 : ((i : Int) - (l : Int)).toNat = i - l := by omega
  by_cases hzr : z ≤ r - i
  · have h1 : ¬ ((r : Int) - (i : Int) < (z : Int)) := by omega
    have HE : Hid (((z : Nat) : Int) = ((min z (r - i) : Nat) : Int)) := hid (by omega)
    clear hzr
    go_enter Try.func41, Try.ntmps41
    go_wp2
    go_ret
    exact ⟨ret_int HE.out, rfl⟩
  · have h1 : ((r : Int) - (i : Int) < (z : Int)) := by omega
    have HE : Hid ((r : Int) - (i : Int) = ((min z (r - i) : Nat) : Int)) := hid (by omega)
    clear hzr
    go_enter Try.func41, Try.ntmps41
    go_wp2
    go_ret
    exact ⟨ret_int HE.out, rfl⟩
theorem known_any (s : ByteArray) (g c i l r : Nat) (w : World) (hn : s.size ≤ 24) (hi : i < s.size) (hw : Win (sg s) s.size i l r)
    (hc : ∀ j, j < i → w.cell? ⟨g, j, none⟩ = some (.int .i64 (zl (sg s) s.size j : Nat))) :
    Calls Try.prog 41 #[.slice (some ⟨g, 0, none⟩) s.size c, .int .i64 i, .int .i64 l, .int .i64 r] w fun e w' => ∃ m : Nat, e = .returned (.int .i64 m) ∧ Kn (sg s) s.size i m ∧ w' = w := by
  rcases Nat.lt_or_ge i r with h | h
  · have h1 := hw.1
    have h3 := hw.2.2.1
    have h4 := hw.2.2.2.1
    exact (known_in g s.size c i l r (zl (sg s) s.size (i - l)) w hn h3 h h1 (by have := zl_le (sg s) s.size (i - l); omega) (hc _ (by omega))).mono fun e w' ⟨he, hw'⟩ => ⟨_, he, win_kn hw h, hw'⟩
  · exact (known_out (some ⟨g, 0, none⟩) s.size c i l r w h).mono fun e w' ⟨he, hw'⟩ => ⟨0, he, kn_zero (by omega), hw'⟩

theorem zof_long (s : ByteArray) (w : World) (h : 24 < s.size) (hs : s.size ≤ maxLen) :
    Calls Try.prog 23 #[.string s] w fun e w' => e = .returned (.tuple #[.slice none 0 0, .iface 49 (.int .i64 4)]) ∧ w' = w := by
  unfold maxLen at hs
  go_enter Try.func23, Try.ntmps23
  go_wp2
  go_ret2
  exact ⟨rfl, rfl⟩

/-- What 'common' holds ahead of round k. -/
def zF (s : ByteArray) (k j : Nat) : Int := if j < k then ((zl (sg s) s.size j : Nat) : Int) else 0
theorem z_start (s : ByteArray) (n : Nat) : rowF n (fun j => if j = 0 then (s.size : Int) else 0) = rowF n (zF s 1) :=
  rowF_congr fun j _ => by
    unfold zF
    by_cases h : j = 0
    · subst h; rw [zl_zero]; simp
    · rw [if_neg h, if_neg (by omega)]
theorem z_step (s : ByteArray) (n k : Nat) : rowF n (fun j => if j = k then ((zl (sg s) s.size k : Nat) : Int) else zF s k j) = rowF n (zF s (k + 1)) :=
  rowF_congr fun j _ => by
    unfold zF
    by_cases h : j = k
    · subst h; simp
    · by_cases h' : j < k
      · simp [h, h', show j < k + 1 by omega]
      · simp [h, h', show ¬ j < k + 1 by omega]
theorem z_end {s : ByteArray} {n k : Nat} (h : ¬ k < n) : rowF n (zF s k) = rowF n (zF s n) :=
  rowF_congr fun j hj => by simp [zF, hj, show j < k by omega]
theorem z_row {s : ByteArray} {n base : Nat} {e : TypeId} {v : Value} {w : World} (h : w.ownsRow base e 1 v n (rowF n (zF s n))) : OwnI w base e v (zL s n) := by
  unfold OwnI
  have he : rowF n (zF s n) = (zL s n).map (Value.int .i64) := by
    rw [rowF_of_list, zL_len]
    exact rowF_congr fun j hj => by rw [zL_get _ _ _ hj]; simp [zF, hj]
  rw [← he, zL_len]; exact h

set_option maxRecDepth 100000 in
set_option maxHeartbeats 800000 in
theorem zof_any (s : ByteArray) (w : World) (h : s.size ≤ 24) :
    Calls Try.prog 23 #[.string s] w fun e w' => e = .returned (.tuple #[.slice (some ⟨w.heap.size, 0, none⟩) s.size s.size, .nilIface]) ∧
      OwnI w' w.heap.size 3 (.slice (some ⟨w.heap.size, 0, none⟩) s.size s.size) (zL s s.size) ∧ Below w.heap.size w w' := by
  obtain ⟨i0, hi, hz0, hz1, hz2⟩ := info_parts int_info
  go_enter Try.func23, Try.ntmps23
  go_wp2_with (at_make; refine wpList_make_full _ rfl _ _ 23 rfl w.heap.size 3 i0 (.int .i64 0) 1 Try.underlying23 hi hz0 hz1 _ _ _ _ s.size rfl rfl rfl rfl (by rw [hz2]; omega) (by unfold maxLen; omega) (Nat.le_refl _) ?_)
  intro w1 hown hgrow
  rw [rowF_made] at hown
  have hb1 : Below w.heap.size w w1 := (Below.refl _ _).grown hgrow (Nat.le_refl _) (by simp)
  clear hgrow hi hz0 hz1 hz2
  by_cases h0 : 0 < s.size
  · have hcell : w1.cell? ⟨w.heap.size, 0, none⟩ = some (.int .i64 0) := by rw [hown.cellAt 0 (by omega), rowF_get _ _ _ h0]
    have hfr := hown.frozenAt 0
    have hst := hown.stored 0 (.int .i64 (s.size : Nat))
    rw [rowF_set, z_start s] at hst
    have HO := hid hst.1
    clear hst hown
    go_wp2
    go_loopw [5, 6, 7] (fun l r i wr => ∃ l' r' k : Nat, 1 ≤ k ∧ k ≤ s.size ∧ l = .int .i64 l' ∧ r = .int .i64 r' ∧ i = .int .i64 k ∧ Hid (Win (sg s) s.size k l' r') ∧ wr.ownsRow w.heap.size 3 1 (.slice (some ⟨w.heap.size, 0, none⟩) s.size s.size) s.size (rowF s.size (zF s k)) ∧ Below w.heap.size w wr) (fun _ _ i _ => s.size - (intOf i).toNat)
    case atStart => exact ⟨0, 0, 1, by omega, by omega, rfl, rfl, rfl, hid (win_start _ _), HO.out, hb1.setCell (by simp) _⟩
    case round =>
      clear HO hcell hfr hb1
      obtain ⟨l, r, k, hk1, hk2, rfl, rfl, rfl, HW, hown, hb⟩ := hrel
      by_cases hlt : k < s.size
      · have hcell : wr.cell? ⟨w.heap.size, k, none⟩ = some (.int .i64 (zF s k k)) := by rw [hown.cellAt k (by omega), rowF_get _ _ _ hlt]
        have hfr := hown.frozenAt k
        have HO := hid hown
        have HK := hid (known_any s w.heap.size s.size k l r wr h hlt HW.out fun j hj => by
          rw [HO.out.cellAt j (by omega), rowF_get _ _ _ (by omega)]
          simp [zF, hj])
        clear hown
        go_wp2_with fail
        refine HK.out.mono ?_
        rintro e w2 ⟨m, rfl, hkn, rfl⟩
        have HE := hid (zextend_any s k m w2 h hkn (by omega))
        clear HK hkn
        go_wp2_with fail
        refine HE.out.mono ?_
        rintro e w3 ⟨rfl, q, rfl⟩
        have hst := (own_drewN HO.out q).stored k (.int .i64 (zl (sg s) s.size k : Nat))
        rw [rowF_set, z_step] at hst
        have HN := hid (win_new (f := sg s) (n := s.size) (i := k) (m := zl (sg s) s.size k) (by omega) (kn_zl (by omega)))
        have hzk := zl_le (sg s) s.size k
        have hwr := HW.out.1
        have hbn : Below w.heap.size w ((w2.drewN q).setCell ⟨w.heap.size, k, none⟩ (.int .i64 (zl (sg s) s.size k : Nat))) := (below_drewN hb q).setCell (by simp) _
        have HO2 := hid hst.1
        have hcn : ((w2.drewN q).setCell ⟨w.heap.size, k, none⟩ (.int .i64 (zl (sg s) s.size k : Nat))).cell? ⟨w.heap.size, k, none⟩ = some (.int .i64 (zl (sg s) s.size k : Nat)) := by
          rw [HO2.out.cellAt k (by omega), rowF_get _ _ _ hlt]; simp [zF]
        generalize zl (sg s) s.size k = z at HN hzk hbn HO2 hcn ⊢
        clear hst HE HO
        by_cases hgt : r < k + z
        · go_wp2
          go_quiet (fail)
          go_wp2
          go_roundw
          case rel => exact ⟨k, k + z, k + 1, by omega, by omega, rfl, by go_num, by go_num, HN, own_drewN HO2.out _, below_drewN hbn _⟩
          case measure => simp [intOf]; omega
        · have HN := hid (win_keep HW.out)
          go_wp2
          go_roundw
          case rel => exact ⟨l, r, k + 1, by omega, by omega, rfl, rfl, by go_num, HN, HO2.out, hbn⟩
          case measure => simp [intOf]; omega
      · have he : rowF s.size (zF s k) = rowF s.size (zF s s.size) := z_end hlt
        rw [he] at hown
        have HO := hid hown
        clear hown he
        go_wp2
        go_ret2
        exact ⟨rfl, z_row HO.out, hb⟩
  · have hz : s.size = 0 := by omega
    have he : rowF s.size (fun _ => 0) = rowF s.size (zF s s.size) := by rw [hz]; rfl
    rw [he] at hown
    have HO := hid hown
    clear hown he
    go_wp2
    go_rounds 1
    go_ret2
    exact ⟨rfl, z_row HO.out, hb1⟩
end Go.Proofs.Ytdkbgikniacekaa
