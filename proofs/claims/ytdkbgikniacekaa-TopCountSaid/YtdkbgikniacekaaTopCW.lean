/-
  The walk of TopCount: it returns true for every text, and leaves the old memory alone. No condition but the row's own size.
-/
import Derived.Test.YtdkbgikniacekaaSufT
import Derived.Test.YtdkbgikniacekaaTsize
import Derived.Test.YtdkbgikniacekaaOwnS
namespace Go.Proofs.Ytdkbgikniacekaa
open Go.RowKit

/-- The first m ends of a text. -/
def endsT (s : ByteArray) (m : Nat) : List ByteArray := (List.range m).map fun i => s.extract i s.size
theorem endsT_succ (s : ByteArray) (m : Nat) : endsT s (m + 1) = endsT s m ++ [s.extract m s.size] := by simp [endsT, List.range_succ]
theorem endsT_len (s : ByteArray) (m : Nat) : (endsT s m).length = m := by simp [endsT]
theorem endsT_at (s : ByteArray) {m i : Nat} (h : i < m) : wat (endsT s m) i = s.extract i s.size := by simp [wat, endsT, List.getD_eq_getElem?_getD, h]
theorem endsT_fine {s : ByteArray} (h : s.size ≤ 6) : Fine (endsT s s.size) := by
  refine ⟨by rw [endsT_len]; exact h, fun j hj => ?_⟩
  rw [endsT_len] at hj
  rw [endsT_at s hj]
  refine ⟨by rw [ByteArray.size_extract]; omega, by rw [ByteArray.size_extract]; omega, fun m hm e => ?_⟩
  rw [endsT_at s (by omega)] at e
  have := congrArg ByteArray.size e
  rw [ByteArray.size_extract, ByteArray.size_extract] at this
  omega
theorem endsT_wds (s : ByteArray) (m : Nat) : wds (wl (endsT s m)) = ens (bs s) m := by
  induction m with
  | zero => rfl
  | succ m ih =>
    have : wl (endsT s (m + 1)) = wl (endsT s m) ++ [(bs s).drop m] := by
      rw [endsT_succ]; unfold wl; rw [List.map_append]; simp [bs_drop]
    rw [this, wds_snoc, ih, ens_succ, wl_len, endsT_len]
theorem endsT_size {s : ByteArray} (h : s.size ≤ 6) : sizeN (endsT s s.size) = cN (bs s) + 1 := by
  unfold sizeN cN
  rw [endsT_wds, sz_ens (bs s) 8 (by rw [bs_len]; omega), bs_len]; omega
theorem IsStrs.of_own {w : World} {base : Nat} {e : TypeId} {v : Value} {ws : List ByteArray} {n : Nat} (h : OwnS w base e v ws) (hn : ws.length = n) : ∃ A c, v = .slice A n c ∧ IsStrs w w.heap.size A n ws := by
  subst hn
  unfold OwnS at h
  rcases h.2 with ⟨rfl, h0⟩ | ⟨g, cap, cur, rfl, hg, hh, hnc, hcm, hcs, htk⟩
  · exact ⟨none, 0, by rw [h0], rfl, fun h => absurd h (by omega)⟩
  · refine ⟨_, _, rfl, rfl, fun hn => ⟨g, 0, rfl, ?_, fun j hj => ?_⟩⟩
    · rcases Nat.lt_or_ge g w.heap.size with hlt | hge
      · exact hlt
      · rw [Array.getElem?_eq_none hge] at hh; cases hh
    · rw [Nat.zero_add, h.cellAt j (by omega)]
      simp [hj]
theorem str_info : (Try.prog.info? 9).map (fun i => (i.zero, i.size, i.bytes)) = some (some (.string ByteArray.empty), 1, 16) := by kernel_rfl
theorem aa_count : cN (bs ⟨#[97, 97]⟩) = 2 := by decide +kernel

set_option maxHeartbeats 400000 in
theorem topc_long (s : ByteArray) (w : World) (h : 24 < s.size) (hs : s.size ≤ maxLen) :
    Calls Try.prog 9 #[.string s] w fun e w' => e = .returned (.bool true) ∧ Below w.heap.size w w' := by
  have H1 := fun W => hid (scount_long s W h hs)
  have H2 := fun W => hid (scount_any ⟨#[97, 97]⟩ W (by decide))
  rw [aa_count] at H2
  unfold maxLen at hs
  go_enter Try.func9, Try.ntmps9
  go_wp2_with fail
  refine (H1 _).out.mono ?_
  rintro e w1 ⟨rfl, hb1⟩
  go_wp2_with fail
  refine (H2 _).out.mono ?_
  rintro e w2 ⟨rfl, hb2⟩
  have hbw := Below.on hb1 hb2 (Nat.le_refl _)
  clear H1 H2 hb1 hb2
  go_wp2
  go_ret
  exact ⟨rfl, hbw⟩
set_option maxRecDepth 100000 in
set_option maxHeartbeats 1600000 in
theorem topc_short (s : ByteArray) (w : World) (h : s.size ≤ 24) :
    Calls Try.prog 9 #[.string s] w fun e w' => e = .returned (.bool true) ∧ Below w.heap.size w w' := by
  obtain ⟨i0, hi, hz0, hz1, hz2⟩ := info_parts str_info
  have H1 := fun W => hid (scount_any s W h)
  have H2 := fun W => hid (scount_any ⟨#[97, 97]⟩ W (by decide))
  rw [aa_count] at H2
  have hK : cN (bs s) ≤ 300 := by
    have h1 := cN_le (bs s)
    rw [bs_len] at h1
    have : s.size * (s.size + 1) ≤ 24 * 25 := Nat.mul_le_mul h (Nat.succ_le_succ h)
    omega
  have HSZ := hid (fun h6 => endsT_size (s := s) h6)
  generalize cN (bs s) = K at H1 hK HSZ
  go_enter Try.func9, Try.ntmps9
  go_wp2_with fail
  refine (H1 _).out.mono ?_
  rintro e w1 ⟨rfl, hb1⟩
  go_wp2_with fail
  refine (H2 _).out.mono ?_
  rintro e w2 ⟨rfl, hb2⟩
  have hbw := Below.on hb1 hb2 (Nat.le_refl _)
  clear H1 H2 hb1 hb2
  by_cases h6 : s.size ≤ 6
  · have hd : decide (6 < s.size) = false := by simpa using h6
    go_wp2_with fail
    go_loopw [7, 8] (fun v x wr => ∃ i : Nat, i ≤ s.size ∧ x = .int .i64 i ∧ Hid (OwnS wr w2.heap.size 9 v (endsT s i)) ∧ Below w2.heap.size w2 wr) (fun _ x _ => s.size - (intOf x).toNat)
    case atStart => exact ⟨0, by omega, rfl, hid (OwnS.nil _ _ _), Below.refl _ _⟩
    case round =>
      obtain ⟨i, hi1, rfl, HV, hbr⟩ := hrel
      by_cases hlt : i < s.size
      · have hcut : ∀ W : World, Sem.run Try.prog (Instr.slice 9 (.string s) (some (.int .i64 (i : Int))) none none) W = .ok (.string (s.extract i s.size)) W := fun W =>
          run_slice_string_l W 9 s Try.underlying9 .i64 (i : Int) (by omega) (by omega)
        have HS := hid (endsT_succ s i)
        have hl := endsT_len s i
        have hv := HV.out
        generalize s.extract i s.size = t1 at hcut HS
        generalize endsT s i = ws at HS hl hv
        have hsr := hbr.size
        clear HV
        go_wp2_with (at_builtin; refine wpList_append_str _ rfl _ _ 44 rfl w2.heap.size 9 i0 Try.underlying44 hi hz0 hz1 hz2 _ ws rfl hv t1 rfl (by omega) (by omega) ?_)
        intro v' w3 hown3 hb3
        clear hv
        go_wp2_with fail
        go_roundw
        case rel => exact ⟨i + 1, by omega, by go_num, hid (by rw [HS.out]; exact hown3), hbr.trans hb3⟩
        case measure => simp [intOf]; omega
      · obtain rfl : i = s.size := by omega
        obtain ⟨A, c, rfl, hI⟩ := IsStrs.of_own HV.out (endsT_len s s.size)
        have H3 := hid (size_ok A s.size c (endsT s s.size) wr (endsT_fine h6) hI)
        rw [HSZ.out h6] at H3
        have hbx := Below.on hbw hbr (Nat.le_refl _)
        clear HV HSZ hI hbr hbw
        go_wp2_with fail
        refine H3.out.mono ?_
        rintro e w3 ⟨rfl, hb3⟩
        have hby := Below.on hbx hb3 (Nat.le_refl _)
        clear H3 hbx hb3
        go_wp2_with fail
        go_ret
        exact ⟨by first | rfl | exact ret_bool (by simp), hby⟩
  · have hd : decide (6 < s.size) = true := by simp; omega
    clear HSZ
    go_wp2_with fail
    go_ret
    exact ⟨rfl, hbw⟩
theorem topc_any (s : ByteArray) (w : World) (hs : s.size ≤ maxLen) :
    Calls Try.prog 9 #[.string s] w fun e w' => e = .returned (.bool true) ∧ Below w.heap.size w w' := by
  by_cases h : s.size ≤ 24
  · exact topc_short s w h
  · exact topc_long s w (by omega) hs
end Go.Proofs.Ytdkbgikniacekaa
