/-
  Contracts of letterbeckref2.Turns and letterbeckref2.Wheel: the rotations of a text, by where they begin; the last signs of them in their order, and where the text is; in new memory. Conditions: a text of at most 1000 bytes.
-/
import Derived.Test.YtldhcmoecmfigaaDoorRsort
import Derived.Test.YtldhcmoecmfigaaDoorRturn
import Derived.Test.YtldhcmoecmfigaaDoorOwnS
import Derived.Test.YtldhcmoecmfigaaDoorWsp
namespace Go.Proofs.YtldhcmoecmfigaaDoor
open Go.RowKit

theorem IsStrs.own {w : World} {base : Nat} {e : TypeId} {v : Value} {ws : List ByteArray} {n : Nat} (h : OwnS w base e v ws) (hn : ws.length = n) : ∃ A c, v = .slice A n c ∧ IsStrs w w.heap.size A n ws := by
  subst hn
  unfold OwnS at h
  rcases h.2 with ⟨rfl, h0⟩ | ⟨g, cap, cur, rfl, hg, hh, hnc, hcm, hcs, htk⟩
  · exact ⟨none, 0, by rw [h0], rfl, fun h => absurd h (by omega)⟩
  · refine ⟨_, _, rfl, rfl, fun hn => ⟨g, 0, rfl, ?_, fun j hj => ?_⟩⟩
    · rcases Nat.lt_or_ge g w.heap.size with hlt | hge
      · exact hlt
      · rw [Array.getElem?_eq_none hge] at hh; cases hh
    · rw [Nat.zero_add, h.cellAt j (by omega)]
      simp [hj]
theorem strR_info : (Tryd.prog.info? 9).map (fun i => (i.zero, i.size, i.bytes)) = some (some (.string ByteArray.empty), 1, 16) := by kernel_rfl
/-- The first m rotations, as texts. -/
def turnsT (s : ByteArray) (m : Nat) : List ByteArray := (List.range m).map fun i => turnS s i
theorem turnsT_succ (s : ByteArray) (m : Nat) : turnsT s (m + 1) = turnsT s m ++ [turnS s m] := by simp [turnsT, List.range_succ]
theorem turnsT_len (s : ByteArray) (m : Nat) : (turnsT s m).length = m := by simp [turnsT]
theorem turnsT_at (s : ByteArray) {m i : Nat} (h : i < m) : wat (turnsT s m) i = turnS s i := by simp [wat, turnsT, List.getD_eq_getElem?_getD, h]

set_option maxRecDepth 100000 in
set_option maxHeartbeats 800000 in
theorem rturns_any (s : ByteArray) (w : World) (h : s.size ≤ 1000) :
    Calls Tryd.prog 11 #[.string s] w fun e w' => ∃ v, e = .returned v ∧ OwnS w' w.heap.size 9 v (turnsT s s.size) ∧ Below w.heap.size w w' := by
  obtain ⟨i0, hi, hz0, hz1, hz2⟩ := info_parts strR_info
  go_enter Tryd.func11, Tryd.ntmps11
  go_wp2_with fail
  go_loopw [3, 4] (fun v x wr => ∃ (i : Nat) (vv : Value), i ≤ s.size ∧ x = .int .i64 i ∧ vv = v ∧ Hid (OwnS wr w.heap.size 9 vv (turnsT s i)) ∧ Below w.heap.size w wr) (fun _ x _ => s.size - (intOf x).toNat)
  case atStart => exact ⟨0, _, by omega, rfl, rfl, hid (OwnS.nil _ _ _), Below.refl _ _⟩
  case round =>
    obtain ⟨i, vv, hi1, rfl, rfl, HV, hbr⟩ := hrel
    by_cases hlt : i < s.size
    · have H1 := fun W => hid (rturn_any s i W (by omega) (by omega))
      have HS := hid (turnsT_succ s i)
      have hl := turnsT_len s i
      generalize turnS s i = t1 at H1 HS
      generalize turnsT s i = ws at HS hl HV
      go_wp2_with fail
      refine (H1 _).out.mono ?_
      rintro e w1 ⟨rfl, q, hw1⟩
      have hv : OwnS w1 w.heap.size 9 vv ws := by rw [hw1]; exact HV.out.drewN q
      have hb1 : Below w.heap.size w w1 := by rw [hw1]; exact below_drewN hbr q
      have hsr := hb1.size
      clear HV hw1 hbr H1
      go_wp2_with (at_builtin; refine wpList_append_str _ rfl _ _ 36 rfl w.heap.size 9 i0 Tryd.underlying36 hi hz0 hz1 hz2 _ ws rfl hv t1 rfl (by omega) (by omega) ?_)
      intro v' w3 hown3 hb3
      clear hv
      go_wp2_with fail
      go_roundw
      case rel => exact ⟨i + 1, v', by omega, by go_num, rfl, hid (by rw [HS.out]; exact hown3), hb1.trans hb3⟩
      case measure => simp [intOf]; omega
    · obtain rfl : i = s.size := by omega
      go_wp2_with fail
      go_ret
      exact ⟨_, rfl, HV.out, hbr⟩

/-! ### What Sorted says of any texts -/
/-- The texts by the places that Sorted answers: the same texts, and they do not fall. -/
theorem sl_rows {ws : List ByteArray} {os : List Nat} (h : Sl ws os) (hl : os.length = ws.length) : Asc (os.map fun i => bs (wat ws i)) ∧ (os.map fun i => bs (wat ws i)).Perm (ws.map bs) := by
  have hnd : os.Nodup := h.2.1.imp fun {a b} hab e => by
    subst e
    rcases hab with h' | ⟨_, h'⟩
    · exact lt_irr _ h'
    · omega
  refine ⟨?_, ?_⟩
  · unfold Asc
    rw [List.pairwise_map]
    exact h.2.1.imp fun {a b} hab => by
      rcases hab with h' | ⟨h', _⟩
      · exact List.le_iff_lt_or_eq.2 (.inl h')
      · exact List.le_iff_lt_or_eq.2 (.inr h')
  · have hp : os.Perm (List.range ws.length) := (List.perm_ext_iff_of_nodup hnd List.nodup_range).2 fun i => ⟨fun hi => List.mem_range.2 (h.1 i hi), fun hi => nodup_full hl h.1 hnd i (List.mem_range.1 hi)⟩
    refine (hp.map fun i => bs (wat ws i)).trans (List.Perm.of_eq ?_)
    apply List.ext_getElem
    · simp
    · intro i h1 h2
      have hi : i < ws.length := by simpa using h2
      simp [wat, List.getD_eq_getElem?_getD, hi]
theorem turns_bs (s : ByteArray) : (turnsT s s.size).map bs = spins (bs s) := by
  unfold turnsT spins
  rw [List.map_map, bs_len]
  exact List.map_congr_left fun i _ => bs_turn s i
/-- The sorted rotations of a text are its order. -/
theorem sl_wheel {s : ByteArray} {os : List Nat} (h : Sl (turnsT s s.size) os) (hl : os.length = s.size) : wheelM (bs s) = os.map fun i => spin (bs s) i := by
  obtain ⟨h1, h2⟩ := sl_rows h (by rw [turnsT_len]; exact hl)
  rw [turns_bs] at h2
  have e : (os.map fun i => bs (wat (turnsT s s.size) i)) = os.map fun i => spin (bs s) i := List.map_congr_left fun i hi => by
    have := h.1 i hi
    rw [turnsT_len] at this
    rw [turnsT_at s this, bs_turn]
  rw [← e]
  exact sort_one h1 h2
end Go.Proofs.YtldhcmoecmfigaaDoor
