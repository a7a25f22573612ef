/-
  The walk of SuffixOrder: it returns true for every text, and leaves the old memory alone. No condition but the row's own size.
-/
import Derived.Test.YtdkbgikniacekaaSffact
import Derived.Test.YtdkbgikniacekaaIn2
namespace Go.Proofs.Ytdkbgikniacekaa
open Go.RowKit

set_option maxHeartbeats 400000 in
theorem sforder_long (s : ByteArray) (w : World) (h : 24 < s.size) (hs : s.size ≤ maxLen) :
    Calls Try.prog 3 #[.string s] w fun e w' => e = .returned (.bool true) ∧ Below w.heap.size w w' := by
  have H1 := fun W => hid (order_long s W h hs)
  unfold maxLen at hs
  go_enter Try.func3, Try.ntmps3
  go_wp2_with fail
  refine (sffact_any _).mono ?_
  rintro e w1 ⟨rfl, hb1⟩
  go_wp2_with fail
  refine (H1 _).out.mono ?_
  rintro e w2 ⟨rfl, hb2⟩
  clear H1
  go_wp2
  go_ret
  exact ⟨rfl, Below.on hb1 hb2 (Nat.le_refl _)⟩
set_option maxHeartbeats 1600000 in
set_option maxRecDepth 100000 in
theorem sforder_short (s : ByteArray) (w : World) (h : s.size ≤ 24) :
    Calls Try.prog 3 #[.string s] w fun e w' => e = .returned (.bool true) ∧ Below w.heap.size w w' := by
  have H1 := fun W => hid (order_any s W h)
  go_enter Try.func3, Try.ntmps3
  go_wp2_with fail
  refine (sffact_any _).mono ?_
  rintro e w1 ⟨rfl, hb1⟩
  go_wp2_with fail
  refine (H1 _).out.mono ?_
  rintro e w2 ⟨A, c, o, rfl, hO, hI, hb2⟩
  have hbw := Below.on hb1 hb2 (Nat.le_refl _)
  have HO := hid hO
  have HI := hid hI
  have HB := hid (bs_len s)
  clear H1 hb1 hb2 hO hI
  go_wp2_with fail
  go_loopw [6] (fun v wr => ∃ i q : Nat, i ≤ s.size ∧ v = .int .i64 i ∧ Hid (wr = w2.drewN q)) (fun v _ => s.size - (intOf v).toNat)
  case atStart => exact ⟨0, 0, by omega, rfl, hid rfl⟩
  case round =>
    obtain ⟨i, q, hi, rfl, HQ⟩ := hrel
    by_cases hlt : i < s.size
    · obtain ⟨g, off, rfl, _, hcell⟩ := nats_at HI.out (by omega)
      have hx : wr.cell? ⟨g, off + i, none⟩ = some (.int .i64 ((o.getD i 0 : Nat) : Int)) := by rw [HQ.out]; exact hcell i hlt
      have hxl : o.getD i 0 < s.size := by have := HO.out.lt (k := i) (by rw [HB.out]; exact hlt); rwa [HB.out] at this
      have hcx : ∀ W : World, Sem.run Try.prog (Instr.slice 9 (.string s) (some (.int .i64 ((o.getD i 0 : Nat) : Int))) none none) W = .ok (.string (s.extract (o.getD i 0) s.size)) W := fun W =>
        run_slice_string_l W 9 s Try.underlying9 .i64 _ (by omega) (by omega)
      by_cases hi0 : 0 < i
      · have hd : decide (0 < i) = true := by simpa using hi0
        have hy : wr.cell? ⟨g, off + (i - 1), none⟩ = some (.int .i64 ((o.getD (i - 1) 0 : Nat) : Int)) := by rw [HQ.out]; exact hcell (i - 1) (by omega)
        have hyl : o.getD (i - 1) 0 < s.size := by have := HO.out.lt (k := i - 1) (by rw [HB.out]; omega); rwa [HB.out] at this
        have hcy : ∀ W : World, Sem.run Try.prog (Instr.slice 9 (.string s) (some (.int .i64 ((o.getD (i - 1) 0 : Nat) : Int))) none none) W = .ok (.string (s.extract (o.getD (i - 1) 0) s.size)) W := fun W =>
          run_slice_string_l W 9 s Try.underlying9 .i64 _ (by omega) (by omega)
        have H4 := fun W => hid (before_any (s.extract (o.getD (i - 1) 0) s.size) (s.extract (o.getD i 0) s.size) W (by rw [ByteArray.size_extract]; omega) (by rw [ByteArray.size_extract]; omega))
        rw [befB_yes (by rw [bs_drop, bs_drop]; exact HO.out.less (by omega) (by rw [HB.out]; exact hlt))] at H4
        generalize s.extract (o.getD (i - 1) 0) s.size = t1 at hcy H4
        generalize s.extract (o.getD i 0) s.size = t2 at hcx H4
        generalize o.getD i 0 = x at hx hxl hcx
        generalize o.getD (i - 1) 0 = y at hy hyl hcy
        have e1 : ((i : Int) - 1).toNat = i - 1 := by omega
        have e2 : 0 ≤ (i : Int) - 1 := by omega
        have e3 : (i : Int) - 1 < (s.size : Int) := by omega
        clear hcell
        go_wp2_with fail
        go_quiet ((first
          | (go_at_call 12; exact Calls.quiet_of_same (in_yes _ _ _ _ (by omega) (by omega)))
          | (go_at_call 13; exact Calls.quiet_of (H4 _).out)))
        go_wp2_with fail
        go_roundw
        case rel => exact ⟨i + 1, _, by omega, by go_num, hid (by rw [HQ.out]; exact World.drewN_drewN _ _ _)⟩
        case measure => simp [intOf]; omega
      · have hd : decide (0 < i) = false := by simpa using hi0
        generalize s.extract (o.getD i 0) s.size = t2 at hcx
        generalize o.getD i 0 = x at hx hxl hcx
        clear hcell
        go_wp2_with fail
        go_quiet ((go_at_call 12; exact Calls.quiet_of_same (in_yes _ _ _ _ (by omega) (by omega))))
        go_wp2_with fail
        go_roundw
        case rel => exact ⟨i + 1, _, by omega, by go_num, hid (by rw [HQ.out]; exact World.drewN_drewN _ _ _)⟩
        case measure => simp [intOf]; omega
    · go_wp2_with fail
      go_ret
      exact ⟨rfl, by rw [HQ.out]; exact below_drewN hbw q⟩
theorem sforder_any (s : ByteArray) (w : World) (hs : s.size ≤ maxLen) :
    Calls Try.prog 3 #[.string s] w fun e w' => e = .returned (.bool true) ∧ Below w.heap.size w w' := by
  by_cases h : s.size ≤ 24
  · exact sforder_short s w h
  · exact sforder_long s w (by omega) hs
end Go.Proofs.Ytdkbgikniacekaa
